/- The program's reader of a term: the terms within one.. The program's reader of a term: nil, tuples, lists; any term. Patterns as they are read from bytes: the tree, its cells, how one is read (pure).. -/
import Derived.Test.YtcdefnbehlcgeaaGreatDoorWi
import Derived.Test.YtcdefnbehlcgeaaGreatDoorWf
import Derived.Test.YtcdefnbehlcgeaaGreatDoorWb
set_option maxHeartbeats 4000000
set_option maxRecDepth 20000
namespace Go.Proofs.YtcdefnbehlcgeaaGreatDoor
open Go.RowKit
theorem seven_of {us : Array Value} (h : us.size = 7) : ∃ v0 v1 v2 v3 v4 v5 v6, us = #[v0, v1, v2, v3, v4, v5, v6] := by
 obtain ⟨l⟩ := us
 have hl : l.length = 7 := h
 match l, hl with
 | [v0, v1, v2, v3, v4, v5, v6], _ => exact ⟨v0, v1, v2, v3, v4, v5, v6, rfl⟩
theorem RD.size {ds : T → List D} {k : Nat} (hk : ∀ x, (ds x).length = k) {w w' : World} {x : T} {us : Array Value} (h : DVs w' (fun g => w.heap.size ≤ g) (ds x) us.toList) : us.size = k := by
 rw [← Array.length_toList, DVs.len h, hk]
theorem inner_any (s : ByteArray) (d b m v q : Nat) (w : World) (ok : TermOk s d) (hv : v + 1 + d = 64) (hb : Rdb w b s q) (hq : q ≤ s.size) (hs : s.size ≤ 262144)
 (hr : Bk w m 61 #[.pointer (some ⟨b, 0, none⟩)]) (hw : Bk w (m + 1) 3 #[.int .i64 v]) :
 Calls Tryz.prog 75 #[.pointer (some ⟨m, 0, none⟩), .pointer (some ⟨m + 1, 0, none⟩)] w fun e w' => RdE b s (.agg ZT) (RD T.ds) (rTerm s d q) w e w' := by
 have hbl := Bk.lt hb
 have hk0 := ok b q (v + 1) (w.alloc (.cells ZT 52)) hv (Bk.alloc hb _) hq hs
 rw [show ((v + 1 : Nat) : Int) = (v : Int) + 1 by omega] at hk0
 have HK := Lib.hid hk0
 clear hk0
 have HM := Lib.hid (Bk.made w 52 ZT)
 have hO := Lib.hid ((Only.refl [b] w).alloc (.cells ZT 52))
 have c0 : (w.alloc (.cells #[.int .i64 0, .int .i64 0, .complex .f64 0 0, .string ⟨#[]⟩, .int .i64 0, .int .i64 0, .slice none 0 0] 52)).cell? ⟨m, 0, none⟩ = some (.pointer (some ⟨b, 0, none⟩)) := (Bk.alloc hr _).cell0 (i := 0) rfl
 have c1 : (w.alloc (.cells #[.int .i64 0, .int .i64 0, .complex .f64 0 0, .string ⟨#[]⟩, .int .i64 0, .int .i64 0, .slice none 0 0] 52)).cell? ⟨m + 1, 0, none⟩ = some (.int .i64 v) := (Bk.alloc hw _).cell0 (i := 0) rfl
 generalize rTerm s d q = r at HK ⊢
 go_enter Tryz.func75, Tryz.ntmps75
 go_wp2_with fail
 clear c0 c1
 (with_reducible refine HK.out.mono ?_)
 intro e w1 h
 cases r with
 | ok x t =>
  obtain ⟨u, rfl, ⟨us, rfl, hd⟩, h3, h4, h5⟩ := h
  have hsz := RD.size ds_len hd
  obtain ⟨y0, y1, y2, y3, y4, y5, y6, rfl⟩ := seven_of hsz
  have B1 := Bk.only HM.out h4 (by simp; omega)
  have hu := DVs.one hd (ds_one x)
  have hu1 : (#[y0, y1, y2, y3, y4, y5, y6] : Array Value).all (·.oneCell') = true := by
   rw [Array.all_eq_true']
   intro v hv
   exact hu v (Array.mem_toList_iff.2 hv)
  have SB := Lib.hid (setRow_bk B1 #[y0, y1, y2, y3, y4, y5, y6])
  have H3 := Lib.hid h3
  have H4 := Lib.hid (hO.out.trans h4 (fun i hi => .inl hi))
  have HD := Lib.hid hd
  have HB1 := Lib.hid B1
  clear h3 h4 hd B1 hu hsz
  go_wp2_with (refine wpList_store_row (by rfl) _ _ _ (by rfl) w.heap.size #[y0, y1, y2, y3, y4, y5, y6] (by rfl) (by rfl) 52 ZT HB1.out (by rw [size7]; rfl) (by rfl) hu1 ?_; have SB2 := SB.out; generalize World.setRow _ _ _ = W5 at SB2 ⊢; clear SB; obtain ⟨e1, e2⟩ := SB2; have E2 := Lib.hid e2; obtain ⟨z0, z1, z2, z3, z4, z5, z6⟩ := Bk.seven e1; clear e1 e2)
  refine bodyPost_ret (v := .tuple #[.agg #[y0, y1, y2, y3, y4, y5, y6], .bool true]) (by simp [results, Tryz.results75, go_sem, z0, z1, z2, z3, z4, z5, z6]) rfl ⟨_, rfl, ⟨_, rfl, ?_⟩, Bk.only H3.out E2.out (by simp; omega), H4.out.trans E2.out (fun i hi => .inr (by simp at hi; omega)), h5⟩
  refine DVs.only E2.out (fun g hg hf => ?_) (fun g hf => ?_) HD.out
  ·rw [List.mem_singleton.1 hg, size_al] at hf; omega
  ·rw [size_al] at hf; omega
 | bad t =>
  obtain ⟨rfl, h3, h4⟩ := h
  have B1 := Bk.only HM.out h4 (by simp; omega)
  have SB := Lib.hid (setRow_bk B1 ZT)
  have H3 := Lib.hid h3
  have H4 := Lib.hid (hO.out.trans h4 (fun i hi => .inl hi))
  have HB1 := Lib.hid B1
  clear h3 h4 B1
  go_wp2_with (refine wpList_store_row (by rfl) _ _ _ (by rfl) w.heap.size ZT (by rfl) (by rfl) 52 ZT HB1.out (by rw [size7]; rfl) (by rfl) one7 ?_; have SB2 := SB.out; generalize World.setRow _ _ _ = W5 at SB2 ⊢; clear SB; obtain ⟨e1, e2⟩ := SB2; have E2 := Lib.hid e2; obtain ⟨z0, z1, z2, z3, z4, z5, z6⟩ := Bk.seven e1; clear e1 e2)
  exact bodyPost_ret (v := .tuple #[.agg ZT, .bool false]) (by simp [results, Tryz.results75, go_sem, z0, z1, z2, z3, z4, z5, z6]) rfl ⟨rfl, Bk.only H3.out E2.out (by simp; omega), H4.out.trans E2.out (fun i hi => .inr (by simp at hi; omega))⟩
open Go.RowKit
theorem enter_inner (args : Array Value) (w : World) : (callFunc 75 args).run Tryz.prog w = .ok (.enter 75 args) w := by kernel_rfl
theorem term_k1 (s : ByteArray) (d b p q v : Nat) (w : World) (hv : v + (d + 1) = 64) (hb : Rdb w b s p) (hp : p ≤ s.size) (hs : s.size ≤ 262144) (hk : rOne 9 s p = .ok 1 q) :
 Calls Tryz.prog 41 #[.pointer (some ⟨b, 0, none⟩), .int .i64 v] w fun e w' => RdE b s (.agg ZT) (RD T.ds) (rKind (fun p => rTerm s d p) s 1 q) w e w' := by
 have h64 : (v : Int) < 64 := by omega
 have hbl := Bk.lt hb
 have HO : Hid (Calls Tryz.prog 70 #[.pointer (some ⟨b, 0, none⟩), .int .i64 9] (W4 w b v) fun e w' => RdE b s (.int .i64 0) RI (.ok 1 q) (W4 w b v) e w') := Lib.hid (by rw [← hk]; exact oneOf_any b s p 9 (W4 w b v) (W4.rdb hb v) hp hs)
 show Calls Tryz.prog _ _ w fun e w' => RdE b s (.agg ZT) (RD T.ds) (.ok .nil q) w e w'
 go_enter Tryz.func41, Tryz.ntmps41
 go_wp2_with fail
 refine wp_scope_fwd 0 rfl ?_
 go_wp2_with fail
 (with_reducible refine HO.out.mono ?_)
 rintro e w1 ⟨u, rfl, rfl, h3, h4, h5⟩
 have F1 := Lib.hid ((Fr.made w b v).only h4 hbl)
 have O1 := Lib.hid ((W4.only w b v).trans h4 (fun i hi => .inl hi))
 have F2 : Hid (Fr (w1.setCell ⟨w.heap.size + 1 + 1 + 1, 0, none⟩ (.int .i64 1)) w.heap.size b v #[.int .i64 1, .int .i64 0, .complex .f64 0 0, .string ⟨#[]⟩, .int .i64 0, .int .i64 0, .slice none 0 0]) := Lib.hid (by simpa using F1.out.set 0 (.int .i64 1))
 have R2 := Lib.hid (Bk.away h3 (p := ⟨w.heap.size + 1 + 1 + 1, 0, none⟩) (by show b ≠ w.heap.size + 1 + 1 + 1; omega) (.int .i64 1))
 have O2 := Lib.hid (O1.out.set (p := ⟨w.heap.size + 1 + 1 + 1, 0, none⟩) (.inr (by show w.heap.size ≤ w.heap.size + 1 + 1 + 1; omega)) (.int .i64 1))
 have r0 := (F1.out).r.cell0 (i := 0) rfl
 have v0 := (F1.out).v.cell0 (i := 0) rfl
 obtain ⟨x0, x1, x2, x3, x4, x5, x6⟩ := Bk.seven (F1.out).t
 have k0 := (F1.out).t.free 0
 have k1 := (F1.out).t.free 1
 have k2 := (F1.out).t.free 2
 have k3 := (F1.out).t.free 3
 have k4 := (F1.out).t.free 4
 have k5 := (F1.out).t.free 5
 have k6 := (F1.out).t.free 6
 clear h3 h4 HO
 have HE := Lib.hid (fun W' => Fr.yes (W' := W') #[.int .i64 1, .int .i64 0, .complex .f64 0 0, .string ⟨#[]⟩, .int .i64 0, .int .i64 0, .slice none 0 0] F2.out rfl hbl R2.out O2.out)
 go_wp2_with (first
  | (refine wpList_load_row (by rfl) 52 _ (by rfl) (w.heap.size + 1 + 1 + 1) (by rfl) 52 #[.int .i64 1, .int .i64 0, .complex .f64 0 0, .string ⟨#[]⟩, .int .i64 0, .int .i64 0, .slice none 0 0] (0, 0) _ F2.out.t Tryz.underlying52 (by rfl) (by rw [size7]; rfl) ?_)
  | (refine wpList_store_row (by rfl) _ _ _ (by rfl) (w.heap.size + 1 + 1) #[.int .i64 1, .int .i64 0, .complex .f64 0 0, .string ⟨#[]⟩, .int .i64 0, .int .i64 0, .slice none 0 0] (by rfl) (by rfl) 52 ZT F2.out.o (by rw [size7]; rfl) (by rfl) (by simp [Value.oneCell']) ?_; have HE2 := HE.out _ rfl; generalize World.setRow _ _ _ = W5 at HE2 ⊢; clear HE; obtain ⟨e1, e2, e3, e4⟩ := HE2; have E2 := Lib.hid e2; have E3 := Lib.hid e3; have E4 := Lib.hid e4; obtain ⟨z0, z1, z2, z3, z4, z5, z6⟩ := Bk.seven e1; clear e1 e2 e3 e4))
 try rw [Exit.jump_ret]
 exact bodyPost_ret (v := .tuple #[.agg #[.int .i64 1, .int .i64 0, .complex .f64 0 0, .string ⟨#[]⟩, .int .i64 0, .int .i64 0, .slice none 0 0], .bool true]) (by simp [results, Tryz.results41, go_sem, z0, z1, z2, z3, z4, z5, z6]) rfl ⟨_, rfl, ⟨#[.int .i64 1, .int .i64 0, .complex .f64 0 0, .string ⟨#[]⟩, .int .i64 0, .int .i64 0, .slice none 0 0], rfl, (by simp only [T.ds, DVs, DV]; exact ⟨_, _, rfl, rfl, _, _, rfl, rfl, _, _, rfl, rfl, _, _, rfl, rfl, _, _, rfl, rfl, _, _, rfl, rfl, _, _, rfl, rfl, rfl⟩)⟩, E2.out, E3.out, h5⟩
theorem term_k8 (s : ByteArray) (d b p q v : Nat) (w : World) (ok : TermOk s d) (hv : v + (d + 1) = 64) (hb : Rdb w b s p) (hp : p ≤ s.size) (hs : s.size ≤ 262144) (hk : rOne 9 s p = .ok 8 q) :
 Calls Tryz.prog 41 #[.pointer (some ⟨b, 0, none⟩), .int .i64 v] w fun e w' => RdE b s (.agg ZT) (RD T.ds) (rKind (fun p => rTerm s d p) s 8 q) w e w' := by
 have h64 : (v : Int) < 64 := by omega
 have hbl := Bk.lt hb
 have HO : Hid (Calls Tryz.prog 70 #[.pointer (some ⟨b, 0, none⟩), .int .i64 9] (W4 w b v) fun e w' => RdE b s (.int .i64 0) RI (.ok 8 q) (W4 w b v) e w') := Lib.hid (by rw [← hk]; exact oneOf_any b s p 9 (W4 w b v) (W4.rdb hb v) hp hs)
 show Calls Tryz.prog _ _ w fun e w' => RdE b s (.agg ZT) (RD T.ds) ((rSome (fun p => rTerm s d p) s q).map (T.tup 8)) w e w'
 obtain ⟨r, hrr⟩ : ∃ r, rSome (fun p => rTerm s d p) s q = r := ⟨_, rfl⟩
 rw [hrr]
 go_enter Tryz.func41, Tryz.ntmps41
 go_wp2_with fail
 refine wp_scope_fwd 0 rfl ?_
 go_wp2_with fail
 (with_reducible refine HO.out.mono ?_)
 rintro e w1 ⟨u, rfl, rfl, h3, h4, h5⟩
 have F1 := Lib.hid ((Fr.made w b v).only h4 hbl)
 have O1 := Lib.hid ((W4.only w b v).trans h4 (fun i hi => .inl hi))
 have F2 : Hid (Fr (w1.setCell ⟨w.heap.size + 1 + 1 + 1, 0, none⟩ (.int .i64 8)) w.heap.size b v #[.int .i64 8, .int .i64 0, .complex .f64 0 0, .string ⟨#[]⟩, .int .i64 0, .int .i64 0, .slice none 0 0]) := Lib.hid (by simpa using F1.out.set 0 (.int .i64 8))
 have R2 := Lib.hid (Bk.away h3 (p := ⟨w.heap.size + 1 + 1 + 1, 0, none⟩) (by show b ≠ w.heap.size + 1 + 1 + 1; omega) (.int .i64 8))
 have O2 := Lib.hid (O1.out.set (p := ⟨w.heap.size + 1 + 1 + 1, 0, none⟩) (.inr (by show w.heap.size ≤ w.heap.size + 1 + 1 + 1; omega)) (.int .i64 8))
 have r0 := (F1.out).r.cell0 (i := 0) rfl
 have v0 := (F1.out).v.cell0 (i := 0) rfl
 obtain ⟨x0, x1, x2, x3, x4, x5, x6⟩ := Bk.seven (F1.out).t
 have k0 := (F1.out).t.free 0
 have k1 := (F1.out).t.free 1
 have k2 := (F1.out).t.free 2
 have k3 := (F1.out).t.free 3
 have k4 := (F1.out).t.free 4
 have k5 := (F1.out).t.free 5
 have k6 := (F1.out).t.free 6
 clear h3 h4 HO
 have HG := Lib.hid (someT_any T.ds ds_len ds_one 75 #[] #[.pointer (some ⟨w.heap.size, 0, none⟩), .pointer (some ⟨w.heap.size + 1, 0, none⟩)] (fun p => rTerm s d p) b s q _ R2.out h5 hs enter_inner (fun q' w' hq' hb' ho' => inner_any s d b w.heap.size v q' w' ok (by omega) hb' hq' hs (F2.out.only ho' hbl).r (F2.out.only ho' hbl).v))
 have hm4 : w.heap.size + 1 + 1 + 1 < (w1.setCell ⟨w.heap.size + 1 + 1 + 1, 0, none⟩ (.int .i64 8)).heap.size := Bk.lt F2.out.t
 rw [hrr] at HG
 go_wp2_with fail
 clear r0 v0 x0 x1 x2 x3 x4 x5 x6 k0 k1 k2 k3 k4 k5 k6
 (with_reducible refine HG.out.mono ?_)
 intro e w2 h
 cases r with
 | ok l t =>
  obtain ⟨u, rfl, hu, g3, g4, g5⟩ := h
  have KU := Lib.hid hu
  unfold RL at hu
  simp only [DV] at hu
  obtain ⟨A, cap, rfl, -⟩ := hu
  have F3 := Lib.hid (F2.out.only g4 hbl)
  have O3 := Lib.hid (O2.out.trans g4 (fun i hi => .inl hi))
  have R3 := Lib.hid g3
  have F4 : Hid (Fr _ w.heap.size b v #[.int .i64 8, .int .i64 0, .complex .f64 0 0, .string ⟨#[]⟩, .int .i64 0, .int .i64 0, .slice A l.length cap]) := Lib.hid (by simpa using F3.out.set 6 (.slice A l.length cap))
  have O4 := Lib.hid (O3.out.set (p := ⟨w.heap.size + 1 + 1 + 1, 6, none⟩) (.inr (by show w.heap.size ≤ w.heap.size + 1 + 1 + 1; omega)) (.slice A l.length cap))
  have R4 := Lib.hid (Bk.away R3.out (p := ⟨w.heap.size + 1 + 1 + 1, 6, none⟩) (by show b ≠ w.heap.size + 1 + 1 + 1; omega) (.slice A l.length cap))
  have OS := Lib.hid ((Only.refl [w.heap.size + 1 + 1 + 1, w.heap.size + 1 + 1] w2).set (p := ⟨w.heap.size + 1 + 1 + 1, 6, none⟩) (.inl (by simp)) (.slice A l.length cap))
  have r0 := (F3.out).r.cell0 (i := 0) rfl
  have v0 := (F3.out).v.cell0 (i := 0) rfl
  obtain ⟨x0, x1, x2, x3, x4, x5, x6⟩ := Bk.seven (F3.out).t
  have k0 := (F3.out).t.free 0
  have k1 := (F3.out).t.free 1
  have k2 := (F3.out).t.free 2
  have k3 := (F3.out).t.free 3
  have k4 := (F3.out).t.free 4
  have k5 := (F3.out).t.free 5
  have k6 := (F3.out).t.free 6
  clear g3 g4
  have HE := Lib.hid (fun W' => Fr.yes (W' := W') #[.int .i64 8, .int .i64 0, .complex .f64 0 0, .string ⟨#[]⟩, .int .i64 0, .int .i64 0, .slice A l.length cap] F4.out rfl hbl R4.out O4.out)
  go_wp2_with (first
   | (refine wpList_load_row (by rfl) 52 _ (by rfl) (w.heap.size + 1 + 1 + 1) (by rfl) 52 #[.int .i64 8, .int .i64 0, .complex .f64 0 0, .string ⟨#[]⟩, .int .i64 0, .int .i64 0, .slice A l.length cap] (0, 0) _ F4.out.t Tryz.underlying52 (by rfl) (by rw [size7]; rfl) ?_)
   | (refine wpList_store_row (by rfl) _ _ _ (by rfl) (w.heap.size + 1 + 1) #[.int .i64 8, .int .i64 0, .complex .f64 0 0, .string ⟨#[]⟩, .int .i64 0, .int .i64 0, .slice A l.length cap] (by rfl) (by rfl) 52 ZT F4.out.o (by rw [size7]; rfl) (by rfl) (by simp [Value.oneCell']) ?_; have HE2 := HE.out _ rfl; generalize World.setRow _ _ _ = W5 at HE2 ⊢; clear HE; obtain ⟨e1, e2, e3, e4⟩ := HE2; have E2 := Lib.hid e2; have E3 := Lib.hid e3; have E4 := Lib.hid e4; obtain ⟨z0, z1, z2, z3, z4, z5, z6⟩ := Bk.seven e1; clear e1 e2 e3 e4))
  try rw [Exit.jump_ret]
  exact bodyPost_ret (v := .tuple #[.agg #[.int .i64 8, .int .i64 0, .complex .f64 0 0, .string ⟨#[]⟩, .int .i64 0, .int .i64 0, .slice A l.length cap], .bool true]) (by simp [results, Tryz.results41, go_sem, z0, z1, z2, z3, z4, z5, z6]) rfl ⟨_, rfl, ⟨#[.int .i64 8, .int .i64 0, .complex .f64 0 0, .string ⟨#[]⟩, .int .i64 0, .int .i64 0, .slice A l.length cap], rfl, (by
   have hD := DV.only (F' := fun g => w.heap.size ≤ g) (OS.out.trans E4.out (fun i hi => .inl (by simp at hi; simp [hi]))) (fun g hg hf => by simp at hg; omega) (fun g hf => by omega) _ _ KU.out
   simp only [T.ds, dss_flat, DVs, DV.v]
   exact ⟨_, _, rfl, rfl, _, _, rfl, rfl, _, _, rfl, rfl, _, _, rfl, rfl, _, _, rfl, rfl, _, _, rfl, rfl, _, _, rfl, hD, rfl⟩)⟩, E2.out, E3.out, g5⟩
 | bad t =>
  obtain ⟨rfl, g3, g4⟩ := h
  have F3 := Lib.hid (F2.out.only g4 hbl)
  have O3 := Lib.hid (O2.out.trans g4 (fun i hi => .inl hi))
  have R3 := Lib.hid g3
  have F4 : Hid (Fr _ w.heap.size b v #[.int .i64 8, .int .i64 0, .complex .f64 0 0, .string ⟨#[]⟩, .int .i64 0, .int .i64 0, .slice none 0 0]) := Lib.hid (by simpa using F3.out.set 6 (.slice none 0 0))
  have O4 := Lib.hid (O3.out.set (p := ⟨w.heap.size + 1 + 1 + 1, 6, none⟩) (.inr (by show w.heap.size ≤ w.heap.size + 1 + 1 + 1; omega)) (.slice none 0 0))
  have R4 := Lib.hid (Bk.away R3.out (p := ⟨w.heap.size + 1 + 1 + 1, 6, none⟩) (by show b ≠ w.heap.size + 1 + 1 + 1; omega) (.slice none 0 0))
  have r0 := (F3.out).r.cell0 (i := 0) rfl
  have v0 := (F3.out).v.cell0 (i := 0) rfl
  obtain ⟨x0, x1, x2, x3, x4, x5, x6⟩ := Bk.seven (F3.out).t
  have k0 := (F3.out).t.free 0
  have k1 := (F3.out).t.free 1
  have k2 := (F3.out).t.free 2
  have k3 := (F3.out).t.free 3
  have k4 := (F3.out).t.free 4
  have k5 := (F3.out).t.free 5
  have k6 := (F3.out).t.free 6
  clear g3 g4
  go_wp2_with fail
  refine wp_goto (And.intro rfl ?_)
  have HE := Lib.hid (fun W' => Fr.yes (W' := W') ZT F4.out rfl hbl R4.out O4.out)
  go_wp2_with (refine wpList_store_row (by rfl) _ _ _ (by rfl) (w.heap.size + 1 + 1) ZT (by rfl) (by rfl) 52 ZT F4.out.o (by rw [size7]; rfl) (by rfl) one7 ?_; have HE2 := HE.out _ rfl; generalize World.setRow _ _ _ = W5 at HE2 ⊢; clear HE; obtain ⟨e1, e2, e3, -⟩ := HE2; have E2 := Lib.hid e2; have E3 := Lib.hid e3; obtain ⟨z0, z1, z2, z3, z4, z5, z6⟩ := Bk.seven e1; clear e1 e2 e3)
  try rw [Exit.last_ret]
  exact bodyPost_ret (v := .tuple #[.agg ZT, .bool false]) (by simp [results, Tryz.results41, go_sem, z0, z1, z2, z3, z4, z5, z6]) rfl ⟨rfl, E2.out, E3.out⟩
theorem term_k9 (s : ByteArray) (d b p q v : Nat) (w : World) (ok : TermOk s d) (hv : v + (d + 1) = 64) (hb : Rdb w b s p) (hp : p ≤ s.size) (hs : s.size ≤ 262144) (hk : rOne 9 s p = .ok 9 q) :
 Calls Tryz.prog 41 #[.pointer (some ⟨b, 0, none⟩), .int .i64 v] w fun e w' => RdE b s (.agg ZT) (RD T.ds) (rKind (fun p => rTerm s d p) s 9 q) w e w' := by
 have h64 : (v : Int) < 64 := by omega
 have hbl := Bk.lt hb
 have HO : Hid (Calls Tryz.prog 70 #[.pointer (some ⟨b, 0, none⟩), .int .i64 9] (W4 w b v) fun e w' => RdE b s (.int .i64 0) RI (.ok 9 q) (W4 w b v) e w') := Lib.hid (by rw [← hk]; exact oneOf_any b s p 9 (W4 w b v) (W4.rdb hb v) hp hs)
 show Calls Tryz.prog _ _ w fun e w' => RdE b s (.agg ZT) (RD T.ds) ((rSome (fun p => rTerm s d p) s q).map (T.tup 9)) w e w'
 obtain ⟨r, hrr⟩ : ∃ r, rSome (fun p => rTerm s d p) s q = r := ⟨_, rfl⟩
 rw [hrr]
 go_enter Tryz.func41, Tryz.ntmps41
 go_wp2_with fail
 refine wp_scope_fwd 0 rfl ?_
 go_wp2_with fail
 (with_reducible refine HO.out.mono ?_)
 rintro e w1 ⟨u, rfl, rfl, h3, h4, h5⟩
 have F1 := Lib.hid ((Fr.made w b v).only h4 hbl)
 have O1 := Lib.hid ((W4.only w b v).trans h4 (fun i hi => .inl hi))
 have F2 : Hid (Fr (w1.setCell ⟨w.heap.size + 1 + 1 + 1, 0, none⟩ (.int .i64 9)) w.heap.size b v #[.int .i64 9, .int .i64 0, .complex .f64 0 0, .string ⟨#[]⟩, .int .i64 0, .int .i64 0, .slice none 0 0]) := Lib.hid (by simpa using F1.out.set 0 (.int .i64 9))
 have R2 := Lib.hid (Bk.away h3 (p := ⟨w.heap.size + 1 + 1 + 1, 0, none⟩) (by show b ≠ w.heap.size + 1 + 1 + 1; omega) (.int .i64 9))
 have O2 := Lib.hid (O1.out.set (p := ⟨w.heap.size + 1 + 1 + 1, 0, none⟩) (.inr (by show w.heap.size ≤ w.heap.size + 1 + 1 + 1; omega)) (.int .i64 9))
 have r0 := (F1.out).r.cell0 (i := 0) rfl
 have v0 := (F1.out).v.cell0 (i := 0) rfl
 obtain ⟨x0, x1, x2, x3, x4, x5, x6⟩ := Bk.seven (F1.out).t
 have k0 := (F1.out).t.free 0
 have k1 := (F1.out).t.free 1
 have k2 := (F1.out).t.free 2
 have k3 := (F1.out).t.free 3
 have k4 := (F1.out).t.free 4
 have k5 := (F1.out).t.free 5
 have k6 := (F1.out).t.free 6
 clear h3 h4 HO
 have HG := Lib.hid (someT_any T.ds ds_len ds_one 75 #[] #[.pointer (some ⟨w.heap.size, 0, none⟩), .pointer (some ⟨w.heap.size + 1, 0, none⟩)] (fun p => rTerm s d p) b s q _ R2.out h5 hs enter_inner (fun q' w' hq' hb' ho' => inner_any s d b w.heap.size v q' w' ok (by omega) hb' hq' hs (F2.out.only ho' hbl).r (F2.out.only ho' hbl).v))
 have hm4 : w.heap.size + 1 + 1 + 1 < (w1.setCell ⟨w.heap.size + 1 + 1 + 1, 0, none⟩ (.int .i64 9)).heap.size := Bk.lt F2.out.t
 rw [hrr] at HG
 go_wp2_with fail
 clear r0 v0 x0 x1 x2 x3 x4 x5 x6 k0 k1 k2 k3 k4 k5 k6
 (with_reducible refine HG.out.mono ?_)
 intro e w2 h
 cases r with
 | ok l t =>
  obtain ⟨u, rfl, hu, g3, g4, g5⟩ := h
  have KU := Lib.hid hu
  unfold RL at hu
  simp only [DV] at hu
  obtain ⟨A, cap, rfl, -⟩ := hu
  have F3 := Lib.hid (F2.out.only g4 hbl)
  have O3 := Lib.hid (O2.out.trans g4 (fun i hi => .inl hi))
  have R3 := Lib.hid g3
  have F4 : Hid (Fr _ w.heap.size b v #[.int .i64 9, .int .i64 0, .complex .f64 0 0, .string ⟨#[]⟩, .int .i64 0, .int .i64 0, .slice A l.length cap]) := Lib.hid (by simpa using F3.out.set 6 (.slice A l.length cap))
  have O4 := Lib.hid (O3.out.set (p := ⟨w.heap.size + 1 + 1 + 1, 6, none⟩) (.inr (by show w.heap.size ≤ w.heap.size + 1 + 1 + 1; omega)) (.slice A l.length cap))
  have R4 := Lib.hid (Bk.away R3.out (p := ⟨w.heap.size + 1 + 1 + 1, 6, none⟩) (by show b ≠ w.heap.size + 1 + 1 + 1; omega) (.slice A l.length cap))
  have OS := Lib.hid ((Only.refl [w.heap.size + 1 + 1 + 1, w.heap.size + 1 + 1] w2).set (p := ⟨w.heap.size + 1 + 1 + 1, 6, none⟩) (.inl (by simp)) (.slice A l.length cap))
  have r0 := (F3.out).r.cell0 (i := 0) rfl
  have v0 := (F3.out).v.cell0 (i := 0) rfl
  obtain ⟨x0, x1, x2, x3, x4, x5, x6⟩ := Bk.seven (F3.out).t
  have k0 := (F3.out).t.free 0
  have k1 := (F3.out).t.free 1
  have k2 := (F3.out).t.free 2
  have k3 := (F3.out).t.free 3
  have k4 := (F3.out).t.free 4
  have k5 := (F3.out).t.free 5
  have k6 := (F3.out).t.free 6
  clear g3 g4
  have HE := Lib.hid (fun W' => Fr.yes (W' := W') #[.int .i64 9, .int .i64 0, .complex .f64 0 0, .string ⟨#[]⟩, .int .i64 0, .int .i64 0, .slice A l.length cap] F4.out rfl hbl R4.out O4.out)
  go_wp2_with (first
   | (refine wpList_load_row (by rfl) 52 _ (by rfl) (w.heap.size + 1 + 1 + 1) (by rfl) 52 #[.int .i64 9, .int .i64 0, .complex .f64 0 0, .string ⟨#[]⟩, .int .i64 0, .int .i64 0, .slice A l.length cap] (0, 0) _ F4.out.t Tryz.underlying52 (by rfl) (by rw [size7]; rfl) ?_)
   | (refine wpList_store_row (by rfl) _ _ _ (by rfl) (w.heap.size + 1 + 1) #[.int .i64 9, .int .i64 0, .complex .f64 0 0, .string ⟨#[]⟩, .int .i64 0, .int .i64 0, .slice A l.length cap] (by rfl) (by rfl) 52 ZT F4.out.o (by rw [size7]; rfl) (by rfl) (by simp [Value.oneCell']) ?_; have HE2 := HE.out _ rfl; generalize World.setRow _ _ _ = W5 at HE2 ⊢; clear HE; obtain ⟨e1, e2, e3, e4⟩ := HE2; have E2 := Lib.hid e2; have E3 := Lib.hid e3; have E4 := Lib.hid e4; obtain ⟨z0, z1, z2, z3, z4, z5, z6⟩ := Bk.seven e1; clear e1 e2 e3 e4))
  try rw [Exit.jump_ret]
  exact bodyPost_ret (v := .tuple #[.agg #[.int .i64 9, .int .i64 0, .complex .f64 0 0, .string ⟨#[]⟩, .int .i64 0, .int .i64 0, .slice A l.length cap], .bool true]) (by simp [results, Tryz.results41, go_sem, z0, z1, z2, z3, z4, z5, z6]) rfl ⟨_, rfl, ⟨#[.int .i64 9, .int .i64 0, .complex .f64 0 0, .string ⟨#[]⟩, .int .i64 0, .int .i64 0, .slice A l.length cap], rfl, (by
   have hD := DV.only (F' := fun g => w.heap.size ≤ g) (OS.out.trans E4.out (fun i hi => .inl (by simp at hi; simp [hi]))) (fun g hg hf => by simp at hg; omega) (fun g hf => by omega) _ _ KU.out
   simp only [T.ds, dss_flat, DVs, DV.v]
   exact ⟨_, _, rfl, rfl, _, _, rfl, rfl, _, _, rfl, rfl, _, _, rfl, rfl, _, _, rfl, rfl, _, _, rfl, rfl, _, _, rfl, hD, rfl⟩)⟩, E2.out, E3.out, g5⟩
 | bad t =>
  obtain ⟨rfl, g3, g4⟩ := h
  have F3 := Lib.hid (F2.out.only g4 hbl)
  have O3 := Lib.hid (O2.out.trans g4 (fun i hi => .inl hi))
  have R3 := Lib.hid g3
  have F4 : Hid (Fr _ w.heap.size b v #[.int .i64 9, .int .i64 0, .complex .f64 0 0, .string ⟨#[]⟩, .int .i64 0, .int .i64 0, .slice none 0 0]) := Lib.hid (by simpa using F3.out.set 6 (.slice none 0 0))
  have O4 := Lib.hid (O3.out.set (p := ⟨w.heap.size + 1 + 1 + 1, 6, none⟩) (.inr (by show w.heap.size ≤ w.heap.size + 1 + 1 + 1; omega)) (.slice none 0 0))
  have R4 := Lib.hid (Bk.away R3.out (p := ⟨w.heap.size + 1 + 1 + 1, 6, none⟩) (by show b ≠ w.heap.size + 1 + 1 + 1; omega) (.slice none 0 0))
  have r0 := (F3.out).r.cell0 (i := 0) rfl
  have v0 := (F3.out).v.cell0 (i := 0) rfl
  obtain ⟨x0, x1, x2, x3, x4, x5, x6⟩ := Bk.seven (F3.out).t
  have k0 := (F3.out).t.free 0
  have k1 := (F3.out).t.free 1
  have k2 := (F3.out).t.free 2
  have k3 := (F3.out).t.free 3
  have k4 := (F3.out).t.free 4
  have k5 := (F3.out).t.free 5
  have k6 := (F3.out).t.free 6
  clear g3 g4
  go_wp2_with fail
  refine wp_goto (And.intro rfl ?_)
  have HE := Lib.hid (fun W' => Fr.yes (W' := W') ZT F4.out rfl hbl R4.out O4.out)
  go_wp2_with (refine wpList_store_row (by rfl) _ _ _ (by rfl) (w.heap.size + 1 + 1) ZT (by rfl) (by rfl) 52 ZT F4.out.o (by rw [size7]; rfl) (by rfl) one7 ?_; have HE2 := HE.out _ rfl; generalize World.setRow _ _ _ = W5 at HE2 ⊢; clear HE; obtain ⟨e1, e2, e3, -⟩ := HE2; have E2 := Lib.hid e2; have E3 := Lib.hid e3; obtain ⟨z0, z1, z2, z3, z4, z5, z6⟩ := Bk.seven e1; clear e1 e2 e3)
  try rw [Exit.last_ret]
  exact bodyPost_ret (v := .tuple #[.agg ZT, .bool false]) (by simp [results, Tryz.results41, go_sem, z0, z1, z2, z3, z4, z5, z6]) rfl ⟨rfl, E2.out, E3.out⟩
theorem term_k0 (s : ByteArray) (d b p q v : Nat) (w : World) (hv : v + (d + 1) = 64) (hb : Rdb w b s p) (hp : p ≤ s.size) (hs : s.size ≤ 262144) (hk : rOne 9 s p = .bad q) :
 Calls Tryz.prog 41 #[.pointer (some ⟨b, 0, none⟩), .int .i64 v] w fun e w' => RdE b s (.agg ZT) (RD T.ds) (.bad q) w e w' := by
 have h64 : (v : Int) < 64 := by omega
 have hbl := Bk.lt hb
 have HO : Hid (Calls Tryz.prog 70 #[.pointer (some ⟨b, 0, none⟩), .int .i64 9] (W4 w b v) fun e w' => RdE b s (.int .i64 0) RI (.bad q) (W4 w b v) e w') := Lib.hid (by rw [← hk]; exact oneOf_any b s p 9 (W4 w b v) (W4.rdb hb v) hp hs)
 go_enter Tryz.func41, Tryz.ntmps41
 go_wp2_with fail
 refine wp_scope_fwd 0 rfl ?_
 go_wp2_with fail
 (with_reducible refine HO.out.mono ?_)
 rintro e w1 ⟨rfl, h3, h4⟩
 have F1 := Lib.hid ((Fr.made w b v).only h4 hbl)
 have O1 := Lib.hid ((W4.only w b v).trans h4 (fun i hi => .inl hi))
 have F2 : Hid (Fr (w1.setCell ⟨w.heap.size + 1 + 1 + 1, 0, none⟩ (.int .i64 0)) w.heap.size b v #[.int .i64 0, .int .i64 0, .complex .f64 0 0, .string ⟨#[]⟩, .int .i64 0, .int .i64 0, .slice none 0 0]) := Lib.hid (by simpa using F1.out.set 0 (.int .i64 0))
 have R2 := Lib.hid (Bk.away h3 (p := ⟨w.heap.size + 1 + 1 + 1, 0, none⟩) (by show b ≠ w.heap.size + 1 + 1 + 1; omega) (.int .i64 0))
 have O2 := Lib.hid (O1.out.set (p := ⟨w.heap.size + 1 + 1 + 1, 0, none⟩) (.inr (by show w.heap.size ≤ w.heap.size + 1 + 1 + 1; omega)) (.int .i64 0))
 have r0 := (F1.out).r.cell0 (i := 0) rfl
 have v0 := (F1.out).v.cell0 (i := 0) rfl
 obtain ⟨x0, x1, x2, x3, x4, x5, x6⟩ := Bk.seven (F1.out).t
 have k0 := (F1.out).t.free 0
 have k1 := (F1.out).t.free 1
 have k2 := (F1.out).t.free 2
 have k3 := (F1.out).t.free 3
 have k4 := (F1.out).t.free 4
 have k5 := (F1.out).t.free 5
 have k6 := (F1.out).t.free 6
 clear h3 h4 HO
 go_wp2_with fail
 refine wp_goto (And.intro rfl ?_)
 have HE := Lib.hid (fun W' => Fr.yes (W' := W') ZT F2.out rfl hbl R2.out O2.out)
 go_wp2_with (refine wpList_store_row (by rfl) _ _ _ (by rfl) (w.heap.size + 1 + 1) ZT (by rfl) (by rfl) 52 ZT F2.out.o (by rw [size7]; rfl) (by rfl) one7 ?_; have HE2 := HE.out _ rfl; generalize World.setRow _ _ _ = W5 at HE2 ⊢; clear HE; obtain ⟨e1, e2, e3, -⟩ := HE2; have E2 := Lib.hid e2; have E3 := Lib.hid e3; obtain ⟨z0, z1, z2, z3, z4, z5, z6⟩ := Bk.seven e1; clear e1 e2 e3)
 try rw [Exit.last_ret]
 exact bodyPost_ret (v := .tuple #[.agg ZT, .bool false]) (by simp [results, Tryz.results41, go_sem, z0, z1, z2, z3, z4, z5, z6]) rfl ⟨rfl, E2.out, E3.out⟩
theorem rOne_bd {most : Nat} {s : ByteArray} {p k q : Nat} (h : rOne most s p = .ok k q) : 1 ≤ k ∧ k ≤ most := by
 unfold rOne rFit at h
 split at h
 ·split at h
  ·rename_i hf
   injection h with h1 h2
   subst h1
   simpa using hf
  ·cases h
 ·cases h
theorem term_any (s : ByteArray) : ∀ d, TermOk s d
 | 0 => term_deep s
 | d + 1 => by
  intro b p v w hv hb hp hs
  cases hk : rOne 9 s p with
  | bad q =>
   have e : rTerm s (d + 1) p = .bad q := by simp only [rTerm, hk, Rs.bind]
   rw [e]
   exact term_k0 s d b p q v w hv hb hp hs hk
  | ok k q =>
   have e : rTerm s (d + 1) p = rKind (fun p => rTerm s d p) s k q := by simp only [rTerm, hk, Rs.bind]
   rw [e]
   obtain ⟨h1, h9⟩ := rOne_bd hk
   have hc : k = 1 ∨ k = 2 ∨ k = 3 ∨ k = 4 ∨ k = 5 ∨ k = 6 ∨ k = 7 ∨ k = 8 ∨ k = 9 := by omega
   rcases hc with rfl | rfl | rfl | rfl | rfl | rfl | rfl | rfl | rfl
   ·exact term_k1 s d b p q v w hv hb hp hs hk
   ·exact term_k2 s d b p q v w hv hb hp hs hk
   ·exact term_k3 s d b p q v w hv hb hp hs hk
   ·exact term_k4 s d b p q v w hv hb hp hs hk
   ·exact term_k5 s d b p q v w hv hb hp hs hk
   ·exact term_k6 s d b p q v w hv hb hp hs hk
   ·exact term_k7 s d b p q v w hv hb hp hs hk
   ·exact term_k8 s d b p q v w (term_any s d) hv hb hp hs hk
   ·exact term_k9 s d b p q v w (term_any s d) hv hb hp hs hk
open Go
inductive QT where
 | zero | any | var (n : Int) | term (t : T) | kind (n : Int) | seq (k : Int) (l : List QT) (r : List QT)
theorem QT.ind {P : QT → Prop} (leaf : ∀ t, (∀ k l r, t ≠ .seq k l r) → P t) (seq : ∀ k l r, (∀ t ∈ l, P t) → (∀ t ∈ r, P t) → P (.seq k l r)) (t : QT) : P t :=
 QT.rec (motive_1 := P) (motive_2 := fun l => ∀ t ∈ l, P t) (leaf _ (by simp)) (leaf _ (by simp)) (fun _ => leaf _ (by simp)) (fun _ => leaf _ (by simp)) (fun _ => leaf _ (by simp))
  (fun k l r h h2 => seq k l r h h2) (by simp) (fun t l h1 h2 => by
    intro u hu
    rcases List.mem_cons.1 hu with rfl | hu
    ·exact h1
    ·exact h2 u hu) t
abbrev qD (k n : Int) (t : List D) (a b : D) : List D := [.v (.int .i64 k), .v (.int .i64 n)] ++ t ++ [a, b]
mutual
def QT.ds : QT → List D
 | .zero => qD 0 0 T.zero.ds noD noD
 | .any => qD 1 0 T.zero.ds noD noD
 | .var n => qD 2 n T.zero.ds noD noD
 | .term t => qD 3 0 t.ds noD noD
 | .kind n => qD 4 n T.zero.ds noD noD
 | .seq k l r => qD k 0 T.zero.ds (.sl l.length (QT.dss l)) (.sl r.length (QT.dss r))
def QT.dss : List QT → List D
 | [] => []
 | t :: l => t.ds ++ QT.dss l
end
theorem qdss_flat : ∀ l : List QT, QT.dss l = l.flatMap QT.ds
 | [] => by simp only [QT.dss]; rfl
 | t :: l => by simp only [QT.dss, List.flatMap_cons, qdss_flat l]
theorem qds_len (t : QT) : t.ds.length = 11 := by cases t <;> simp only [QT.ds, List.length_append, ds_len] <;> rfl
theorem qds_one (t : QT) : ∀ d ∈ t.ds, d.One := by
 have h0 : ∀ d ∈ T.zero.ds, d.One := ds_one _
 intro d hd
 cases t with
 | term t =>
  simp only [QT.ds, List.mem_append, List.mem_cons, List.not_mem_nil, or_false] at hd
  rcases hd with ((rfl | rfl) | hd) | (rfl | rfl)
  ·rfl
  ·rfl
  ·exact ds_one t d hd
  ·rfl
  ·rfl
 | _ =>
  simp only [QT.ds, List.mem_append, List.mem_cons, List.not_mem_nil, or_false] at hd
  rcases hd with ((rfl | rfl) | hd) | (rfl | rfl)
  ·rfl
  ·rfl
  ·exact h0 d hd
  ·first | trivial | rfl
  ·first | trivial | rfl
def rRest {α : Type} (one : Nat → Rs α) (s : ByteArray) (p : Nat) : Rs (List α) :=
 (rFit (fun n q => decide (n ≤ 1 ∧ n ≤ s.size - q)) s p).bind fun n q => if n = 0 then .ok [] q else (one q).map fun x => [x]
def rPK (one : Nat → Rs QT) (s : ByteArray) (k q : Nat) : Rs QT :=
 if k = 1 then .ok .any q
 else if k = 2 then (rCnt s q).map fun (n : Nat) => QT.var (n : Int)
 else if k = 3 then (rTerm s 64 q).map .term
 else if k = 4 then (rCnt s q).map fun (n : Nat) => QT.kind (n : Int)
 else if k = 5 then (rSome one s q).map fun l => .seq 5 l []
 else (rSome one s q).bind fun l t => (rRest one s t).map fun r => .seq 6 l r
def rPat (s : ByteArray) : Nat → Nat → Rs QT
 | 0, p => .bad p
 | d + 1, p => (rOne 6 s p).bind fun k q => rPK (fun p => rPat s d p) s k q
structure Arm where
 pat : QT
 goes : Int
def Arm.ds (a : Arm) : List D := a.pat.ds ++ [.v (.int .i64 a.goes)]
def rArm (s : ByteArray) (p : Nat) : Rs Arm := (rPat s 64 p).bind fun x q => (rCnt s q).map fun (n : Nat) => (⟨x, (n : Int)⟩ : Arm)
end Go.Proofs.YtcdefnbehlcgeaaGreatDoor
