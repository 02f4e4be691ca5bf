/- The program's reader of a pattern: lists; any pattern. -/
import Derived.Test.YtcdefnbehlcgeaaGreatDoorWm
set_option maxHeartbeats 4000000
set_option maxRecDepth 20000
set_option linter.unusedSimpArgs false
namespace Go.Proofs.YtcdefnbehlcgeaaGreatDoor
open Go.RowKit
theorem pat_k6a (s : ByteArray) (d b p q v : Nat) (w : World) (ok : PatOk s d) (t : Nat) (hrr : rSome (fun p => rPat s d p) s q = .bad t) (hv : v + (d + 1) = 64) (hb : Rdb w b s p) (hp : p ≤ s.size) (hs : s.size ≤ 262144) (hk : rOne 6 s p = .ok 6 q) :
 Calls Tryz.prog 95 #[.pointer (some ⟨b, 0, none⟩), .int .i64 v] w fun e w' => RdE b s (.agg ZQ) (RD QT.ds) (.bad t) w e w' := by
 have h64 : (v : Int) < 64 := by omega
 have hbl := Bk.lt hb
 have HO : Hid (Calls Tryz.prog 70 #[.pointer (some ⟨b, 0, none⟩), .int .i64 6] (W4Q w b v) fun e w' => RdE b s (.int .i64 0) RI (.ok 6 q) (W4Q w b v) e w') := Lib.hid (by rw [← hk]; exact oneOf_any b s p 6 (W4Q w b v) (W4Q.rdb hb v) hp hs)
 go_enter Tryz.func95, Tryz.ntmps95
 go_wp2_with fail
 refine wp_scope_fwd 0 rfl ?_
 go_wp2_with fail
 (with_reducible refine HO.out.mono ?_)
 rintro e w1 ⟨u, rfl, rfl, h3, h4, h5⟩
 have F1 := Lib.hid ((FrQ.made w b v).only h4 hbl)
 have O1 := Lib.hid ((W4Q.only w b v).trans h4 (fun i hi => .inl hi))
 have F2 : Hid (FrQ (w1.setCell ⟨w.heap.size + 1 + 1 + 1, 0, none⟩ (.int .i64 6)) w.heap.size b v #[.int .i64 6, .int .i64 0, .int .i64 0, .int .i64 0, .complex .f64 0 0, .string ⟨#[]⟩, .int .i64 0, .int .i64 0, .slice none 0 0, .slice none 0 0, .slice none 0 0]) := Lib.hid (by simpa using F1.out.set 0 (.int .i64 6))
 have R2 := Lib.hid (Bk.away h3 (p := ⟨w.heap.size + 1 + 1 + 1, 0, none⟩) (by show b ≠ w.heap.size + 1 + 1 + 1; omega) (.int .i64 6))
 have O2 := Lib.hid (O1.out.set (p := ⟨w.heap.size + 1 + 1 + 1, 0, none⟩) (.inr (by show w.heap.size ≤ w.heap.size + 1 + 1 + 1; omega)) (.int .i64 6))
 have r0 := (F1.out).r.cell0 (i := 0) rfl
 have v0 := (F1.out).v.cell0 (i := 0) rfl
 obtain ⟨x0, x1, x2, x3, x4, x5, x6, x7, x8, x9, x10⟩ := Bk.eleven (F1.out).t
 have k0 := (F1.out).t.free 0
 have k1 := (F1.out).t.free 1
 have k2 := (F1.out).t.free 2
 have k3 := (F1.out).t.free 3
 have k4 := (F1.out).t.free 4
 have k5 := (F1.out).t.free 5
 have k6 := (F1.out).t.free 6
 have k7 := (F1.out).t.free 7
 have k8 := (F1.out).t.free 8
 have k9 := (F1.out).t.free 9
 have k10 := (F1.out).t.free 10
 clear h3 h4 HO
 have HG := Lib.hid (someQ_any QT.ds qds_len qds_one 108 #[] #[.pointer (some ⟨w.heap.size, 0, none⟩), .pointer (some ⟨w.heap.size + 1, 0, none⟩)] (fun p => rPat s d p) b s q _ R2.out h5 hs enter_pinner (fun q' w' hq' hb' ho' => pinner_any s d b w.heap.size v q' w' ok (by omega) hb' hq' hs (F2.out.only ho' hbl).r (F2.out.only ho' hbl).v))
 have hm4 : w.heap.size + 1 + 1 + 1 < (w1.setCell ⟨w.heap.size + 1 + 1 + 1, 0, none⟩ (.int .i64 6)).heap.size := Bk.lt F2.out.t
 rw [hrr] at HG
 go_wp2_with fail
 clear r0 v0 x0 x1 x2 x3 x4 x5 x6 x7 x8 x9 x10 k0 k1 k2 k3 k4 k5 k6 k7 k8 k9 k10
 (with_reducible refine HG.out.mono ?_)
 intro e w2 h
 obtain ⟨rfl, g3, g4⟩ := h
 have F3 := Lib.hid (F2.out.only g4 hbl)
 have O3 := Lib.hid (O2.out.trans g4 (fun i hi => .inl hi))
 have R3 := Lib.hid g3
 have F4 : Hid (FrQ _ w.heap.size b v #[.int .i64 6, .int .i64 0, .int .i64 0, .int .i64 0, .complex .f64 0 0, .string ⟨#[]⟩, .int .i64 0, .int .i64 0, .slice none 0 0, .slice none 0 0, .slice none 0 0]) := Lib.hid (by simpa using F3.out.set 9 (.slice none 0 0))
 have O4 := Lib.hid (O3.out.set (p := ⟨w.heap.size + 1 + 1 + 1, 9, none⟩) (.inr (by show w.heap.size ≤ w.heap.size + 1 + 1 + 1; omega)) (.slice none 0 0))
 have R4 := Lib.hid (Bk.away R3.out (p := ⟨w.heap.size + 1 + 1 + 1, 9, none⟩) (by show b ≠ w.heap.size + 1 + 1 + 1; omega) (.slice none 0 0))
 have r0 := (F3.out).r.cell0 (i := 0) rfl
 have v0 := (F3.out).v.cell0 (i := 0) rfl
 obtain ⟨x0, x1, x2, x3, x4, x5, x6, x7, x8, x9, x10⟩ := Bk.eleven (F3.out).t
 have k0 := (F3.out).t.free 0
 have k1 := (F3.out).t.free 1
 have k2 := (F3.out).t.free 2
 have k3 := (F3.out).t.free 3
 have k4 := (F3.out).t.free 4
 have k5 := (F3.out).t.free 5
 have k6 := (F3.out).t.free 6
 have k7 := (F3.out).t.free 7
 have k8 := (F3.out).t.free 8
 have k9 := (F3.out).t.free 9
 have k10 := (F3.out).t.free 10
 clear g3 g4
 go_wp2_with fail
 refine wp_goto (And.intro rfl ?_)
 have HE := Lib.hid (fun W' => FrQ.yes (W' := W') ZQ F4.out rfl hbl R4.out O4.out)
 go_wp2_with (refine wpList_store_row (by rfl) _ _ _ (by rfl) (w.heap.size + 1 + 1) ZQ (by rfl) (by rfl) 88 ZQ F4.out.o (by rw [size11]; rfl) (by rfl) one11 ?_; have HE2 := HE.out _ rfl; generalize World.setRow _ _ _ = W5 at HE2 ⊢; clear HE; obtain ⟨e1, e2, e3, -⟩ := HE2; have E2 := Lib.hid e2; have E3 := Lib.hid e3; obtain ⟨z0, z1, z2, z3, z4, z5, z6, z7, z8, z9, z10⟩ := Bk.eleven e1; clear e1 e2 e3)
 try rw [Exit.last_ret]
 exact bodyPost_ret (v := .tuple #[.agg ZQ, .bool false]) (by simp [results, Tryz.results95, go_sem, z0, z1, z2, z3, z4, z5, z6, z7, z8, z9, z10]) rfl ⟨rfl, E2.out, E3.out⟩
theorem pat_k6b (s : ByteArray) (d b p q v : Nat) (w : World) (ok : PatOk s d) (l : List QT) (t t2 : Nat) (hrr : rSome (fun p => rPat s d p) s q = .ok l t) (hr2 : rRest (fun p => rPat s d p) s t = .bad t2) (hv : v + (d + 1) = 64) (hb : Rdb w b s p) (hp : p ≤ s.size) (hs : s.size ≤ 262144) (hk : rOne 6 s p = .ok 6 q) :
 Calls Tryz.prog 95 #[.pointer (some ⟨b, 0, none⟩), .int .i64 v] w fun e w' => RdE b s (.agg ZQ) (RD QT.ds) (.bad t2) w e w' := by
 have h64 : (v : Int) < 64 := by omega
 have hbl := Bk.lt hb
 have HO : Hid (Calls Tryz.prog 70 #[.pointer (some ⟨b, 0, none⟩), .int .i64 6] (W4Q w b v) fun e w' => RdE b s (.int .i64 0) RI (.ok 6 q) (W4Q w b v) e w') := Lib.hid (by rw [← hk]; exact oneOf_any b s p 6 (W4Q w b v) (W4Q.rdb hb v) hp hs)
 go_enter Tryz.func95, Tryz.ntmps95
 go_wp2_with fail
 refine wp_scope_fwd 0 rfl ?_
 go_wp2_with fail
 (with_reducible refine HO.out.mono ?_)
 rintro e w1 ⟨u, rfl, rfl, h3, h4, h5⟩
 have F1 := Lib.hid ((FrQ.made w b v).only h4 hbl)
 have O1 := Lib.hid ((W4Q.only w b v).trans h4 (fun i hi => .inl hi))
 have F2 : Hid (FrQ (w1.setCell ⟨w.heap.size + 1 + 1 + 1, 0, none⟩ (.int .i64 6)) w.heap.size b v #[.int .i64 6, .int .i64 0, .int .i64 0, .int .i64 0, .complex .f64 0 0, .string ⟨#[]⟩, .int .i64 0, .int .i64 0, .slice none 0 0, .slice none 0 0, .slice none 0 0]) := Lib.hid (by simpa using F1.out.set 0 (.int .i64 6))
 have R2 := Lib.hid (Bk.away h3 (p := ⟨w.heap.size + 1 + 1 + 1, 0, none⟩) (by show b ≠ w.heap.size + 1 + 1 + 1; omega) (.int .i64 6))
 have O2 := Lib.hid (O1.out.set (p := ⟨w.heap.size + 1 + 1 + 1, 0, none⟩) (.inr (by show w.heap.size ≤ w.heap.size + 1 + 1 + 1; omega)) (.int .i64 6))
 have r0 := (F1.out).r.cell0 (i := 0) rfl
 have v0 := (F1.out).v.cell0 (i := 0) rfl
 obtain ⟨x0, x1, x2, x3, x4, x5, x6, x7, x8, x9, x10⟩ := Bk.eleven (F1.out).t
 have k0 := (F1.out).t.free 0
 have k1 := (F1.out).t.free 1
 have k2 := (F1.out).t.free 2
 have k3 := (F1.out).t.free 3
 have k4 := (F1.out).t.free 4
 have k5 := (F1.out).t.free 5
 have k6 := (F1.out).t.free 6
 have k7 := (F1.out).t.free 7
 have k8 := (F1.out).t.free 8
 have k9 := (F1.out).t.free 9
 have k10 := (F1.out).t.free 10
 clear h3 h4 HO
 have HG := Lib.hid (someQ_any QT.ds qds_len qds_one 108 #[] #[.pointer (some ⟨w.heap.size, 0, none⟩), .pointer (some ⟨w.heap.size + 1, 0, none⟩)] (fun p => rPat s d p) b s q _ R2.out h5 hs enter_pinner (fun q' w' hq' hb' ho' => pinner_any s d b w.heap.size v q' w' ok (by omega) hb' hq' hs (F2.out.only ho' hbl).r (F2.out.only ho' hbl).v))
 have hm4 : w.heap.size + 1 + 1 + 1 < (w1.setCell ⟨w.heap.size + 1 + 1 + 1, 0, none⟩ (.int .i64 6)).heap.size := Bk.lt F2.out.t
 rw [hrr] at HG
 go_wp2_with fail
 clear r0 v0 x0 x1 x2 x3 x4 x5 x6 x7 x8 x9 x10 k0 k1 k2 k3 k4 k5 k6 k7 k8 k9 k10
 (with_reducible refine HG.out.mono ?_)
 intro e w2 h
 obtain ⟨u, rfl, hu, g3, g4, g5⟩ := h
 have KU := Lib.hid hu
 unfold RL at hu
 simp only [DV] at hu
 obtain ⟨A, cap, rfl, -⟩ := hu
 have F3 := Lib.hid (F2.out.only g4 hbl)
 have O3 := Lib.hid (O2.out.trans g4 (fun i hi => .inl hi))
 have R3 := Lib.hid g3
 have F4 : Hid (FrQ _ w.heap.size b v #[.int .i64 6, .int .i64 0, .int .i64 0, .int .i64 0, .complex .f64 0 0, .string ⟨#[]⟩, .int .i64 0, .int .i64 0, .slice none 0 0, .slice A l.length cap, .slice none 0 0]) := Lib.hid (by simpa using F3.out.set 9 (.slice A l.length cap))
 have O4 := Lib.hid (O3.out.set (p := ⟨w.heap.size + 1 + 1 + 1, 9, none⟩) (.inr (by show w.heap.size ≤ w.heap.size + 1 + 1 + 1; omega)) (.slice A l.length cap))
 have R4 := Lib.hid (Bk.away R3.out (p := ⟨w.heap.size + 1 + 1 + 1, 9, none⟩) (by show b ≠ w.heap.size + 1 + 1 + 1; omega) (.slice A l.length cap))
 have OS := Lib.hid ((Only.refl [w.heap.size + 1 + 1 + 1, w.heap.size + 1 + 1, b] w2).set (p := ⟨w.heap.size + 1 + 1 + 1, 9, none⟩) (.inl (by simp)) (.slice A l.length cap))
 have r0 := (F3.out).r.cell0 (i := 0) rfl
 have v0 := (F3.out).v.cell0 (i := 0) rfl
 obtain ⟨x0, x1, x2, x3, x4, x5, x6, x7, x8, x9, x10⟩ := Bk.eleven (F3.out).t
 have k0 := (F3.out).t.free 0
 have k1 := (F3.out).t.free 1
 have k2 := (F3.out).t.free 2
 have k3 := (F3.out).t.free 3
 have k4 := (F3.out).t.free 4
 have k5 := (F3.out).t.free 5
 have k6 := (F3.out).t.free 6
 have k7 := (F3.out).t.free 7
 have k8 := (F3.out).t.free 8
 have k9 := (F3.out).t.free 9
 have k10 := (F3.out).t.free 10
 have HG2 := Lib.hid (rest_any 108 #[] #[.pointer (some ⟨w.heap.size, 0, none⟩), .pointer (some ⟨w.heap.size + 1, 0, none⟩)] (fun p => rPat s d p) b s t _ R4.out g5 hs enter_pinner (fun q' w' hq' hb' ho' => pinner_any s d b w.heap.size v q' w' ok (by omega) hb' hq' hs (F4.out.only ho' hbl).r (F4.out.only ho' hbl).v))
 have hm5 : w.heap.size + 1 + 1 + 1 < (w2.setCell ⟨w.heap.size + 1 + 1 + 1, 9, none⟩ (.slice A l.length cap)).heap.size := Bk.lt F4.out.t
 rw [hr2] at HG2
 clear g3 g4
 go_wp2_with fail
 clear r0 v0 x0 x1 x2 x3 x4 x5 x6 x7 x8 x9 x10 k0 k1 k2 k3 k4 k5 k6 k7 k8 k9 k10
 (with_reducible refine HG2.out.mono ?_)
 intro e w3 h
 obtain ⟨rfl, g3, g4⟩ := h
 have F5 := Lib.hid (F4.out.only g4 hbl)
 have O5 := Lib.hid (O4.out.trans g4 (fun i hi => .inl hi))
 have R5 := Lib.hid g3
 have F6 : Hid (FrQ _ w.heap.size b v #[.int .i64 6, .int .i64 0, .int .i64 0, .int .i64 0, .complex .f64 0 0, .string ⟨#[]⟩, .int .i64 0, .int .i64 0, .slice none 0 0, .slice A l.length cap, .slice none 0 0]) := Lib.hid (by simpa using F5.out.set 10 (.slice none 0 0))
 have O6 := Lib.hid (O5.out.set (p := ⟨w.heap.size + 1 + 1 + 1, 10, none⟩) (.inr (by show w.heap.size ≤ w.heap.size + 1 + 1 + 1; omega)) (.slice none 0 0))
 have R6 := Lib.hid (Bk.away R5.out (p := ⟨w.heap.size + 1 + 1 + 1, 10, none⟩) (by show b ≠ w.heap.size + 1 + 1 + 1; omega) (.slice none 0 0))
 have r0 := (F5.out).r.cell0 (i := 0) rfl
 have v0 := (F5.out).v.cell0 (i := 0) rfl
 obtain ⟨x0, x1, x2, x3, x4, x5, x6, x7, x8, x9, x10⟩ := Bk.eleven (F5.out).t
 have k0 := (F5.out).t.free 0
 have k1 := (F5.out).t.free 1
 have k2 := (F5.out).t.free 2
 have k3 := (F5.out).t.free 3
 have k4 := (F5.out).t.free 4
 have k5 := (F5.out).t.free 5
 have k6 := (F5.out).t.free 6
 have k7 := (F5.out).t.free 7
 have k8 := (F5.out).t.free 8
 have k9 := (F5.out).t.free 9
 have k10 := (F5.out).t.free 10
 clear g3 g4
 go_wp2_with fail
 refine wp_goto (And.intro rfl ?_)
 have HE := Lib.hid (fun W' => FrQ.yes (W' := W') ZQ F6.out rfl hbl R6.out O6.out)
 go_wp2_with (refine wpList_store_row (by rfl) _ _ _ (by rfl) (w.heap.size + 1 + 1) ZQ (by rfl) (by rfl) 88 ZQ F6.out.o (by rw [size11]; rfl) (by rfl) one11 ?_; have HE2 := HE.out _ rfl; generalize World.setRow _ _ _ = W5 at HE2 ⊢; clear HE; obtain ⟨e1, e2, e3, -⟩ := HE2; have E2 := Lib.hid e2; have E3 := Lib.hid e3; obtain ⟨z0, z1, z2, z3, z4, z5, z6, z7, z8, z9, z10⟩ := Bk.eleven e1; clear e1 e2 e3)
 try rw [Exit.last_ret]
 exact bodyPost_ret (v := .tuple #[.agg ZQ, .bool false]) (by simp [results, Tryz.results95, go_sem, z0, z1, z2, z3, z4, z5, z6, z7, z8, z9, z10]) rfl ⟨rfl, E2.out, E3.out⟩
theorem pat_k6c (s : ByteArray) (d b p q v : Nat) (w : World) (ok : PatOk s d) (l l2 : List QT) (t t2 : Nat) (hrr : rSome (fun p => rPat s d p) s q = .ok l t) (hr2 : rRest (fun p => rPat s d p) s t = .ok l2 t2) (hv : v + (d + 1) = 64) (hb : Rdb w b s p) (hp : p ≤ s.size) (hs : s.size ≤ 262144) (hk : rOne 6 s p = .ok 6 q) :
 Calls Tryz.prog 95 #[.pointer (some ⟨b, 0, none⟩), .int .i64 v] w fun e w' => RdE b s (.agg ZQ) (RD QT.ds) (.ok (QT.seq 6 l l2) t2) w e w' := by
 have h64 : (v : Int) < 64 := by omega
 have hbl := Bk.lt hb
 have HO : Hid (Calls Tryz.prog 70 #[.pointer (some ⟨b, 0, none⟩), .int .i64 6] (W4Q w b v) fun e w' => RdE b s (.int .i64 0) RI (.ok 6 q) (W4Q w b v) e w') := Lib.hid (by rw [← hk]; exact oneOf_any b s p 6 (W4Q w b v) (W4Q.rdb hb v) hp hs)
 go_enter Tryz.func95, Tryz.ntmps95
 go_wp2_with fail
 refine wp_scope_fwd 0 rfl ?_
 go_wp2_with fail
 (with_reducible refine HO.out.mono ?_)
 rintro e w1 ⟨u, rfl, rfl, h3, h4, h5⟩
 have F1 := Lib.hid ((FrQ.made w b v).only h4 hbl)
 have O1 := Lib.hid ((W4Q.only w b v).trans h4 (fun i hi => .inl hi))
 have F2 : Hid (FrQ (w1.setCell ⟨w.heap.size + 1 + 1 + 1, 0, none⟩ (.int .i64 6)) w.heap.size b v #[.int .i64 6, .int .i64 0, .int .i64 0, .int .i64 0, .complex .f64 0 0, .string ⟨#[]⟩, .int .i64 0, .int .i64 0, .slice none 0 0, .slice none 0 0, .slice none 0 0]) := Lib.hid (by simpa using F1.out.set 0 (.int .i64 6))
 have R2 := Lib.hid (Bk.away h3 (p := ⟨w.heap.size + 1 + 1 + 1, 0, none⟩) (by show b ≠ w.heap.size + 1 + 1 + 1; omega) (.int .i64 6))
 have O2 := Lib.hid (O1.out.set (p := ⟨w.heap.size + 1 + 1 + 1, 0, none⟩) (.inr (by show w.heap.size ≤ w.heap.size + 1 + 1 + 1; omega)) (.int .i64 6))
 have r0 := (F1.out).r.cell0 (i := 0) rfl
 have v0 := (F1.out).v.cell0 (i := 0) rfl
 obtain ⟨x0, x1, x2, x3, x4, x5, x6, x7, x8, x9, x10⟩ := Bk.eleven (F1.out).t
 have k0 := (F1.out).t.free 0
 have k1 := (F1.out).t.free 1
 have k2 := (F1.out).t.free 2
 have k3 := (F1.out).t.free 3
 have k4 := (F1.out).t.free 4
 have k5 := (F1.out).t.free 5
 have k6 := (F1.out).t.free 6
 have k7 := (F1.out).t.free 7
 have k8 := (F1.out).t.free 8
 have k9 := (F1.out).t.free 9
 have k10 := (F1.out).t.free 10
 clear h3 h4 HO
 have HG := Lib.hid (someQ_any QT.ds qds_len qds_one 108 #[] #[.pointer (some ⟨w.heap.size, 0, none⟩), .pointer (some ⟨w.heap.size + 1, 0, none⟩)] (fun p => rPat s d p) b s q _ R2.out h5 hs enter_pinner (fun q' w' hq' hb' ho' => pinner_any s d b w.heap.size v q' w' ok (by omega) hb' hq' hs (F2.out.only ho' hbl).r (F2.out.only ho' hbl).v))
 have hm4 : w.heap.size + 1 + 1 + 1 < (w1.setCell ⟨w.heap.size + 1 + 1 + 1, 0, none⟩ (.int .i64 6)).heap.size := Bk.lt F2.out.t
 rw [hrr] at HG
 go_wp2_with fail
 clear r0 v0 x0 x1 x2 x3 x4 x5 x6 x7 x8 x9 x10 k0 k1 k2 k3 k4 k5 k6 k7 k8 k9 k10
 (with_reducible refine HG.out.mono ?_)
 intro e w2 h
 obtain ⟨u, rfl, hu, g3, g4, g5⟩ := h
 have KU := Lib.hid hu
 unfold RL at hu
 simp only [DV] at hu
 obtain ⟨A, cap, rfl, -⟩ := hu
 have F3 := Lib.hid (F2.out.only g4 hbl)
 have O3 := Lib.hid (O2.out.trans g4 (fun i hi => .inl hi))
 have R3 := Lib.hid g3
 have F4 : Hid (FrQ _ w.heap.size b v #[.int .i64 6, .int .i64 0, .int .i64 0, .int .i64 0, .complex .f64 0 0, .string ⟨#[]⟩, .int .i64 0, .int .i64 0, .slice none 0 0, .slice A l.length cap, .slice none 0 0]) := Lib.hid (by simpa using F3.out.set 9 (.slice A l.length cap))
 have O4 := Lib.hid (O3.out.set (p := ⟨w.heap.size + 1 + 1 + 1, 9, none⟩) (.inr (by show w.heap.size ≤ w.heap.size + 1 + 1 + 1; omega)) (.slice A l.length cap))
 have R4 := Lib.hid (Bk.away R3.out (p := ⟨w.heap.size + 1 + 1 + 1, 9, none⟩) (by show b ≠ w.heap.size + 1 + 1 + 1; omega) (.slice A l.length cap))
 have OS := Lib.hid ((Only.refl [w.heap.size + 1 + 1 + 1, w.heap.size + 1 + 1, b] w2).set (p := ⟨w.heap.size + 1 + 1 + 1, 9, none⟩) (.inl (by simp)) (.slice A l.length cap))
 have r0 := (F3.out).r.cell0 (i := 0) rfl
 have v0 := (F3.out).v.cell0 (i := 0) rfl
 obtain ⟨x0, x1, x2, x3, x4, x5, x6, x7, x8, x9, x10⟩ := Bk.eleven (F3.out).t
 have k0 := (F3.out).t.free 0
 have k1 := (F3.out).t.free 1
 have k2 := (F3.out).t.free 2
 have k3 := (F3.out).t.free 3
 have k4 := (F3.out).t.free 4
 have k5 := (F3.out).t.free 5
 have k6 := (F3.out).t.free 6
 have k7 := (F3.out).t.free 7
 have k8 := (F3.out).t.free 8
 have k9 := (F3.out).t.free 9
 have k10 := (F3.out).t.free 10
 have HG2 := Lib.hid (rest_any 108 #[] #[.pointer (some ⟨w.heap.size, 0, none⟩), .pointer (some ⟨w.heap.size + 1, 0, none⟩)] (fun p => rPat s d p) b s t _ R4.out g5 hs enter_pinner (fun q' w' hq' hb' ho' => pinner_any s d b w.heap.size v q' w' ok (by omega) hb' hq' hs (F4.out.only ho' hbl).r (F4.out.only ho' hbl).v))
 have hm5 : w.heap.size + 1 + 1 + 1 < (w2.setCell ⟨w.heap.size + 1 + 1 + 1, 9, none⟩ (.slice A l.length cap)).heap.size := Bk.lt F4.out.t
 rw [hr2] at HG2
 clear g3 g4
 go_wp2_with fail
 clear r0 v0 x0 x1 x2 x3 x4 x5 x6 x7 x8 x9 x10 k0 k1 k2 k3 k4 k5 k6 k7 k8 k9 k10
 (with_reducible refine HG2.out.mono ?_)
 intro e w3 h
 obtain ⟨u, rfl, hu, g3, g4, g6⟩ := h
 have KU2 := Lib.hid hu
 unfold RL at hu
 simp only [DV] at hu
 obtain ⟨A2, cap2, rfl, -⟩ := hu
 have F5 := Lib.hid (F4.out.only g4 hbl)
 have O5 := Lib.hid (O4.out.trans g4 (fun i hi => .inl hi))
 have R5 := Lib.hid g3
 have F6 : Hid (FrQ _ w.heap.size b v #[.int .i64 6, .int .i64 0, .int .i64 0, .int .i64 0, .complex .f64 0 0, .string ⟨#[]⟩, .int .i64 0, .int .i64 0, .slice none 0 0, .slice A l.length cap, .slice A2 l2.length cap2]) := Lib.hid (by simpa using F5.out.set 10 (.slice A2 l2.length cap2))
 have O6 := Lib.hid (O5.out.set (p := ⟨w.heap.size + 1 + 1 + 1, 10, none⟩) (.inr (by show w.heap.size ≤ w.heap.size + 1 + 1 + 1; omega)) (.slice A2 l2.length cap2))
 have R6 := Lib.hid (Bk.away R5.out (p := ⟨w.heap.size + 1 + 1 + 1, 10, none⟩) (by show b ≠ w.heap.size + 1 + 1 + 1; omega) (.slice A2 l2.length cap2))
 have OT := Lib.hid ((OS.out.trans g4 (fun i hi => .inl (by simp at hi; simp [hi]))).set (p := ⟨w.heap.size + 1 + 1 + 1, 10, none⟩) (.inl (by simp)) (.slice A2 l2.length cap2))
 have OV := Lib.hid ((Only.refl [w.heap.size + 1 + 1 + 1, w.heap.size + 1 + 1] w3).set (p := ⟨w.heap.size + 1 + 1 + 1, 10, none⟩) (.inl (by simp)) (.slice A2 l2.length cap2))
 have r0 := (F5.out).r.cell0 (i := 0) rfl
 have v0 := (F5.out).v.cell0 (i := 0) rfl
 obtain ⟨x0, x1, x2, x3, x4, x5, x6, x7, x8, x9, x10⟩ := Bk.eleven (F5.out).t
 have k0 := (F5.out).t.free 0
 have k1 := (F5.out).t.free 1
 have k2 := (F5.out).t.free 2
 have k3 := (F5.out).t.free 3
 have k4 := (F5.out).t.free 4
 have k5 := (F5.out).t.free 5
 have k6 := (F5.out).t.free 6
 have k7 := (F5.out).t.free 7
 have k8 := (F5.out).t.free 8
 have k9 := (F5.out).t.free 9
 have k10 := (F5.out).t.free 10
 clear g3 g4
 have HE := Lib.hid (fun W' => FrQ.yes (W' := W') #[.int .i64 6, .int .i64 0, .int .i64 0, .int .i64 0, .complex .f64 0 0, .string ⟨#[]⟩, .int .i64 0, .int .i64 0, .slice none 0 0, .slice A l.length cap, .slice A2 l2.length cap2] F6.out rfl hbl R6.out O6.out)
 go_wp2_with (first
  | (refine wpList_load_row (by rfl) 88 _ (by rfl) (w.heap.size + 1 + 1 + 1) (by rfl) 88 #[.int .i64 6, .int .i64 0, .int .i64 0, .int .i64 0, .complex .f64 0 0, .string ⟨#[]⟩, .int .i64 0, .int .i64 0, .slice none 0 0, .slice A l.length cap, .slice A2 l2.length cap2] (0, 0) _ F6.out.t Tryz.underlying88 (by rfl) (by rw [size11]; rfl) ?_)
  | (refine wpList_store_row (by rfl) _ _ _ (by rfl) (w.heap.size + 1 + 1) #[.int .i64 6, .int .i64 0, .int .i64 0, .int .i64 0, .complex .f64 0 0, .string ⟨#[]⟩, .int .i64 0, .int .i64 0, .slice none 0 0, .slice A l.length cap, .slice A2 l2.length cap2] (by rfl) (by rfl) 88 ZQ F6.out.o (by rw [size11]; rfl) (by rfl) (by simp [Value.oneCell']) ?_; have HE2 := HE.out _ rfl; generalize World.setRow _ _ _ = W5 at HE2 ⊢; clear HE; obtain ⟨e1, e2, e3, e4⟩ := HE2; have E2 := Lib.hid e2; have E3 := Lib.hid e3; have E4 := Lib.hid e4; obtain ⟨z0, z1, z2, z3, z4, z5, z6, z7, z8, z9, z10⟩ := Bk.eleven e1; clear e1 e2 e3 e4))
 try rw [Exit.jump_ret]
 exact bodyPost_ret (v := .tuple #[.agg #[.int .i64 6, .int .i64 0, .int .i64 0, .int .i64 0, .complex .f64 0 0, .string ⟨#[]⟩, .int .i64 0, .int .i64 0, .slice none 0 0, .slice A l.length cap, .slice A2 l2.length cap2], .bool true]) (by simp [results, Tryz.results95, go_sem, z0, z1, z2, z3, z4, z5, z6, z7, z8, z9, z10]) rfl ⟨_, rfl, ⟨#[.int .i64 6, .int .i64 0, .int .i64 0, .int .i64 0, .complex .f64 0 0, .string ⟨#[]⟩, .int .i64 0, .int .i64 0, .slice none 0 0, .slice A l.length cap, .slice A2 l2.length cap2], rfl, (by
  have hD := DV.only (F' := fun g => w.heap.size ≤ g) (OT.out.trans E4.out (fun i hi => .inl (by simp at hi; simp [hi]))) (fun g hg hf => by simp at hg; omega) (fun g hf => by omega) _ _ KU.out
  have hD2 := DV.only (F' := fun g => w.heap.size ≤ g) (OV.out.trans E4.out (fun i hi => .inl (by simp at hi; simp [hi]))) (fun g hg hf => by simp at hg; omega) (fun g hf => by omega) _ _ KU2.out
  simp only [QT.ds, qdss_flat]
  show DVs _ _ (([D.v (.int .i64 6), D.v (.int .i64 0)] ++ T.zero.ds) ++ [D.sl l.length (l.flatMap QT.ds), D.sl l2.length (l2.flatMap QT.ds)]) (([Value.int .i64 6, Value.int .i64 0] ++ ZT.toList) ++ [.slice A l.length cap, .slice A2 l2.length cap2])
  exact DVs.app (DVs.nil2 hD hD2) (DVs.app (by simp only [T.ds]; exact ⟨_, _, rfl, DV.v.2 rfl, _, _, rfl, DV.v.2 rfl, _, _, rfl, DV.v.2 rfl, _, _, rfl, DV.v.2 rfl, _, _, rfl, DV.v.2 rfl, _, _, rfl, DV.v.2 rfl, _, _, rfl, DV.v.2 rfl, rfl⟩) (DVs.nil2 (DV.v.2 rfl) (DV.v.2 rfl))))⟩, E2.out, E3.out, g6⟩
theorem pat_any (s : ByteArray) : ∀ d, PatOk s d
 | 0 => pat_deep s
 | d + 1 => by
  intro b p v w hv hb hp hs
  cases hk : rOne 6 s p with
  | bad q =>
   have e : rPat s (d + 1) p = .bad q := by simp only [rPat, hk, Rs.bind]
   rw [e]
   exact pat_k0 s d b p q v w hv hb hp hs hk
  | ok k q =>
   have e : rPat s (d + 1) p = rPK (fun p => rPat s d p) s k q := by simp only [rPat, hk, Rs.bind]
   rw [e]
   obtain ⟨h1, h6⟩ := rOne_bd hk
   have hc : k = 1 ∨ k = 2 ∨ k = 3 ∨ k = 4 ∨ k = 5 ∨ k = 6 := by omega
   rcases hc with rfl | rfl | rfl | rfl | rfl | rfl
   ·exact pat_k1 s d b p q v w hv hb hp hs hk
   ·exact pat_k2 s d b p q v w hv hb hp hs hk
   ·exact pat_k3 s d b p q v w hv hb hp hs hk
   ·exact pat_k4 s d b p q v w hv hb hp hs hk
   ·exact pat_k5 s d b p q v w (pat_any s d) hv hb hp hs hk
   ·show Calls Tryz.prog _ _ w fun e w' => RdE b s (.agg ZQ) (RD QT.ds) ((rSome (fun p => rPat s d p) s q).bind fun l t => (rRest (fun p => rPat s d p) s t).map fun r => QT.seq 6 l r) w e w'
    cases hrr : rSome (fun p => rPat s d p) s q with
    | bad t => exact pat_k6a s d b p q v w (pat_any s d) t hrr hv hb hp hs hk
    | ok l t =>
     simp only [Rs.bind]
     cases hr2 : rRest (fun p => rPat s d p) s t with
     | bad t2 => exact pat_k6b s d b p q v w (pat_any s d) l t t2 hrr hr2 hv hb hp hs hk
     | ok l2 t2 => exact pat_k6c s d b p q v w (pat_any s d) l l2 t t2 hrr hr2 hv hb hp hs hk
end Go.Proofs.YtcdefnbehlcgeaaGreatDoor
