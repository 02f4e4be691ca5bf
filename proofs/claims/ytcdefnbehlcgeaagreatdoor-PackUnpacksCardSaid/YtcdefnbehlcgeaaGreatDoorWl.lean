/- The program's reader of a pattern: its frame; kinds 1, 2, 4. -/
import Derived.Test.YtcdefnbehlcgeaaGreatDoorWk
set_option maxHeartbeats 4000000
set_option maxRecDepth 20000
set_option linter.unusedSimpArgs false
namespace Go.Proofs.YtcdefnbehlcgeaaGreatDoor
open Go.RowKit
structure FrQ (w : World) (m b v : Nat) (cs : Array Value) : Prop where
 r : Bk w m 61 #[.pointer (some ⟨b, 0, none⟩)]
 v : Bk w (m + 1) 3 #[.int .i64 v]
 o : Bk w (m + 1 + 1) 88 ZQ
 t : Bk w (m + 1 + 1 + 1) 88 cs
theorem FrQ.only {w w' : World} {m b v : Nat} {cs : Array Value} (h : FrQ w m b v cs) (o : Only [b] w w') (hb : b < m) : FrQ w' m b v cs :=
 ⟨h.r.only o (by simp; omega), h.v.only o (by simp; omega), h.o.only o (by simp; omega), h.t.only o (by simp; omega)⟩
theorem FrQ.set {w : World} {m b v : Nat} {cs : Array Value} (h : FrQ w m b v cs) (i : Nat) (u : Value) : FrQ (w.setCell ⟨m + 1 + 1 + 1, i, none⟩ u) m b v (cs.setIfInBounds i u) :=
 ⟨h.r.away (by show m ≠ m + 1 + 1 + 1; omega) u, h.v.away (by show m + 1 ≠ m + 1 + 1 + 1; omega) u, h.o.away (by show m + 1 + 1 ≠ m + 1 + 1 + 1; omega) u, Bk.set h.t i u⟩
abbrev W4Q (w : World) (b v : Nat) : World := (((w.alloc (.cells #[.pointer (some ⟨b, 0, none⟩)] 61)).alloc (.cells #[.int .i64 v] 3)).alloc (.cells ZQ 88)).alloc (.cells ZQ 88)
theorem FrQ.made (w : World) (b v : Nat) : FrQ (W4Q w b v) w.heap.size b v ZQ :=
 ⟨Bk.alloc (Bk.alloc (Bk.alloc (Bk.made w _ _) _) _) _,
  Bk.alloc (Bk.alloc (Bk.newAt (by rw [size_al])) _) _,
  Bk.alloc (Bk.newAt (by rw [size_al, size_al])) _,
  Bk.newAt (by rw [size_al, size_al, size_al])⟩
theorem W4Q.only (w : World) (b v : Nat) : Only [b] w (W4Q w b v) := ((((Only.refl [b] w).alloc _).alloc _).alloc _).alloc _
theorem W4Q.rdb {w : World} {b : Nat} {s : ByteArray} {p : Nat} (h : Rdb w b s p) (v : Nat) : Rdb (W4Q w b v) b s p := Bk.alloc (Bk.alloc (Bk.alloc (Bk.alloc h _) _) _) _
theorem Bk.eleven {w : World} {b : Nat} {t : TypeId} {v0 v1 v2 v3 v4 v5 v6 v7 v8 v9 v10 : Value} (h : Bk w b t #[v0, v1, v2, v3, v4, v5, v6, v7, v8, v9, v10]) :
 w.cell? ⟨b, 0, none⟩ = some v0 ∧ w.cell? ⟨b, 1, none⟩ = some v1 ∧ w.cell? ⟨b, 2, none⟩ = some v2 ∧ w.cell? ⟨b, 3, none⟩ = some v3 ∧ w.cell? ⟨b, 4, none⟩ = some v4 ∧ w.cell? ⟨b, 5, none⟩ = some v5 ∧ w.cell? ⟨b, 6, none⟩ = some v6 ∧ w.cell? ⟨b, 7, none⟩ = some v7 ∧ w.cell? ⟨b, 8, none⟩ = some v8 ∧ w.cell? ⟨b, 9, none⟩ = some v9 ∧ w.cell? ⟨b, 10, none⟩ = some v10 :=
 ⟨h.cell0 rfl, h.cell0 rfl, h.cell0 rfl, h.cell0 rfl, h.cell0 rfl, h.cell0 rfl, h.cell0 rfl, h.cell0 rfl, h.cell0 rfl, h.cell0 rfl, h.cell0 rfl⟩
theorem FrQ.yes {W W' : World} {m b v p : Nat} {cs : Array Value} {s : ByteArray} {w : World} (us : Array Value) (h : FrQ W m b v cs) (hw : w.heap.size = m) (hb : b < m) (hr : Rdb W b s p) (o : Only [b] w W) (e : W' = W.setRow (m + 1 + 1) us) :
 Bk W' (m + 1 + 1) 88 us ∧ Rdb W' b s p ∧ Only [b] w W' ∧ Only [m + 1 + 1] W W' := by
 obtain ⟨h1, h2⟩ := setRow_bk h.o us
 subst e
 exact ⟨h1, Bk.only hr h2 (by simp; omega), o.trans h2 (fun i hi => .inr (by simp at hi; omega)), h2⟩
def PatOk (s : ByteArray) (d : Nat) : Prop := ∀ (b p v : Nat) (w : World), v + d = 64 → Rdb w b s p → p ≤ s.size → s.size ≤ 262144 →
 Calls Tryz.prog 95 #[.pointer (some ⟨b, 0, none⟩), .int .i64 v] w fun e w' => RdE b s (.agg ZQ) (RD QT.ds) (rPat s d p) w e w'
theorem pat_deep (s : ByteArray) : PatOk s 0 := by
 intro b p v w hv hb hp hs
 have h64 : ¬ (v : Int) < 64 := by omega
 show Calls Tryz.prog _ _ w fun e w' => RdE b s (.agg ZQ) (RD QT.ds) (.bad p) w e w'
 have hbl := Bk.lt hb
 have R2 := Lib.hid (W4Q.rdb hb v)
 have F2 := Lib.hid (FrQ.made w b v)
 have O2 := Lib.hid (W4Q.only w b v)
 go_enter Tryz.func95, Tryz.ntmps95
 go_wp2_with fail
 refine wp_scope_fwd 0 rfl ?_
 go_wp2_with fail
 refine wp_goto (And.intro rfl ?_)
 have HE := Lib.hid (fun W' => FrQ.yes (W' := W') ZQ F2.out rfl hbl R2.out O2.out)
 go_wp2_with (refine wpList_store_row (by rfl) _ _ _ (by rfl) (w.heap.size + 1 + 1) ZQ (by rfl) (by rfl) 88 ZQ F2.out.o (by rw [size11]; rfl) (by rfl) one11 ?_; have HE2 := HE.out _ rfl; generalize World.setRow _ _ _ = W5 at HE2 ⊢; clear HE; obtain ⟨e1, e2, e3, -⟩ := HE2; have E2 := Lib.hid e2; have E3 := Lib.hid e3; obtain ⟨z0, z1, z2, z3, z4, z5, z6, z7, z8, z9, z10⟩ := Bk.eleven e1; clear e1 e2 e3)
 try rw [Exit.last_ret]
 exact bodyPost_ret (v := .tuple #[.agg ZQ, .bool false]) (by simp [results, Tryz.results95, go_sem, z0, z1, z2, z3, z4, z5, z6, z7, z8, z9, z10]) rfl ⟨rfl, E2.out, E3.out⟩
theorem pat_k0 (s : ByteArray) (d b p q v : Nat) (w : World) (hv : v + (d + 1) = 64) (hb : Rdb w b s p) (hp : p ≤ s.size) (hs : s.size ≤ 262144) (hk : rOne 6 s p = .bad q) :
 Calls Tryz.prog 95 #[.pointer (some ⟨b, 0, none⟩), .int .i64 v] w fun e w' => RdE b s (.agg ZQ) (RD QT.ds) (.bad q) w e w' := by
 have h64 : (v : Int) < 64 := by omega
 have hbl := Bk.lt hb
 have HO : Hid (Calls Tryz.prog 70 #[.pointer (some ⟨b, 0, none⟩), .int .i64 6] (W4Q w b v) fun e w' => RdE b s (.int .i64 0) RI (.bad q) (W4Q w b v) e w') := Lib.hid (by rw [← hk]; exact oneOf_any b s p 6 (W4Q w b v) (W4Q.rdb hb v) hp hs)
 go_enter Tryz.func95, Tryz.ntmps95
 go_wp2_with fail
 refine wp_scope_fwd 0 rfl ?_
 go_wp2_with fail
 (with_reducible refine HO.out.mono ?_)
 rintro e w1 ⟨rfl, h3, h4⟩
 have F1 := Lib.hid ((FrQ.made w b v).only h4 hbl)
 have O1 := Lib.hid ((W4Q.only w b v).trans h4 (fun i hi => .inl hi))
 have F2 : Hid (FrQ (w1.setCell ⟨w.heap.size + 1 + 1 + 1, 0, none⟩ (.int .i64 0)) w.heap.size b v #[.int .i64 0, .int .i64 0, .int .i64 0, .int .i64 0, .complex .f64 0 0, .string ⟨#[]⟩, .int .i64 0, .int .i64 0, .slice none 0 0, .slice none 0 0, .slice none 0 0]) := Lib.hid (by simpa using F1.out.set 0 (.int .i64 0))
 have R2 := Lib.hid (Bk.away h3 (p := ⟨w.heap.size + 1 + 1 + 1, 0, none⟩) (by show b ≠ w.heap.size + 1 + 1 + 1; omega) (.int .i64 0))
 have O2 := Lib.hid (O1.out.set (p := ⟨w.heap.size + 1 + 1 + 1, 0, none⟩) (.inr (by show w.heap.size ≤ w.heap.size + 1 + 1 + 1; omega)) (.int .i64 0))
 have r0 := (F1.out).r.cell0 (i := 0) rfl
 have v0 := (F1.out).v.cell0 (i := 0) rfl
 obtain ⟨x0, x1, x2, x3, x4, x5, x6, x7, x8, x9, x10⟩ := Bk.eleven (F1.out).t
 have k0 := (F1.out).t.free 0
 have k1 := (F1.out).t.free 1
 have k2 := (F1.out).t.free 2
 have k3 := (F1.out).t.free 3
 have k4 := (F1.out).t.free 4
 have k5 := (F1.out).t.free 5
 have k6 := (F1.out).t.free 6
 have k7 := (F1.out).t.free 7
 have k8 := (F1.out).t.free 8
 have k9 := (F1.out).t.free 9
 have k10 := (F1.out).t.free 10
 clear h3 h4 HO
 go_wp2_with fail
 refine wp_goto (And.intro rfl ?_)
 have HE := Lib.hid (fun W' => FrQ.yes (W' := W') ZQ F2.out rfl hbl R2.out O2.out)
 go_wp2_with (refine wpList_store_row (by rfl) _ _ _ (by rfl) (w.heap.size + 1 + 1) ZQ (by rfl) (by rfl) 88 ZQ F2.out.o (by rw [size11]; rfl) (by rfl) one11 ?_; have HE2 := HE.out _ rfl; generalize World.setRow _ _ _ = W5 at HE2 ⊢; clear HE; obtain ⟨e1, e2, e3, -⟩ := HE2; have E2 := Lib.hid e2; have E3 := Lib.hid e3; obtain ⟨z0, z1, z2, z3, z4, z5, z6, z7, z8, z9, z10⟩ := Bk.eleven e1; clear e1 e2 e3)
 try rw [Exit.last_ret]
 exact bodyPost_ret (v := .tuple #[.agg ZQ, .bool false]) (by simp [results, Tryz.results95, go_sem, z0, z1, z2, z3, z4, z5, z6, z7, z8, z9, z10]) rfl ⟨rfl, E2.out, E3.out⟩
theorem pat_k1 (s : ByteArray) (d b p q v : Nat) (w : World) (hv : v + (d + 1) = 64) (hb : Rdb w b s p) (hp : p ≤ s.size) (hs : s.size ≤ 262144) (hk : rOne 6 s p = .ok 1 q) :
 Calls Tryz.prog 95 #[.pointer (some ⟨b, 0, none⟩), .int .i64 v] w fun e w' => RdE b s (.agg ZQ) (RD QT.ds) ((rPK (fun p => rPat s d p) s 1 q)) w e w' := by
 have h64 : (v : Int) < 64 := by omega
 have hbl := Bk.lt hb
 have HO : Hid (Calls Tryz.prog 70 #[.pointer (some ⟨b, 0, none⟩), .int .i64 6] (W4Q w b v) fun e w' => RdE b s (.int .i64 0) RI (.ok 1 q) (W4Q w b v) e w') := Lib.hid (by rw [← hk]; exact oneOf_any b s p 6 (W4Q w b v) (W4Q.rdb hb v) hp hs)
 show Calls Tryz.prog _ _ w fun e w' => RdE b s (.agg ZQ) (RD QT.ds) (.ok .any q) w e w'
 go_enter Tryz.func95, Tryz.ntmps95
 go_wp2_with fail
 refine wp_scope_fwd 0 rfl ?_
 go_wp2_with fail
 (with_reducible refine HO.out.mono ?_)
 rintro e w1 ⟨u, rfl, rfl, h3, h4, h5⟩
 have F1 := Lib.hid ((FrQ.made w b v).only h4 hbl)
 have O1 := Lib.hid ((W4Q.only w b v).trans h4 (fun i hi => .inl hi))
 have F2 : Hid (FrQ (w1.setCell ⟨w.heap.size + 1 + 1 + 1, 0, none⟩ (.int .i64 1)) w.heap.size b v #[.int .i64 1, .int .i64 0, .int .i64 0, .int .i64 0, .complex .f64 0 0, .string ⟨#[]⟩, .int .i64 0, .int .i64 0, .slice none 0 0, .slice none 0 0, .slice none 0 0]) := Lib.hid (by simpa using F1.out.set 0 (.int .i64 1))
 have R2 := Lib.hid (Bk.away h3 (p := ⟨w.heap.size + 1 + 1 + 1, 0, none⟩) (by show b ≠ w.heap.size + 1 + 1 + 1; omega) (.int .i64 1))
 have O2 := Lib.hid (O1.out.set (p := ⟨w.heap.size + 1 + 1 + 1, 0, none⟩) (.inr (by show w.heap.size ≤ w.heap.size + 1 + 1 + 1; omega)) (.int .i64 1))
 have r0 := (F1.out).r.cell0 (i := 0) rfl
 have v0 := (F1.out).v.cell0 (i := 0) rfl
 obtain ⟨x0, x1, x2, x3, x4, x5, x6, x7, x8, x9, x10⟩ := Bk.eleven (F1.out).t
 have k0 := (F1.out).t.free 0
 have k1 := (F1.out).t.free 1
 have k2 := (F1.out).t.free 2
 have k3 := (F1.out).t.free 3
 have k4 := (F1.out).t.free 4
 have k5 := (F1.out).t.free 5
 have k6 := (F1.out).t.free 6
 have k7 := (F1.out).t.free 7
 have k8 := (F1.out).t.free 8
 have k9 := (F1.out).t.free 9
 have k10 := (F1.out).t.free 10
 clear h3 h4 HO
 have HE := Lib.hid (fun W' => FrQ.yes (W' := W') #[.int .i64 1, .int .i64 0, .int .i64 0, .int .i64 0, .complex .f64 0 0, .string ⟨#[]⟩, .int .i64 0, .int .i64 0, .slice none 0 0, .slice none 0 0, .slice none 0 0] F2.out rfl hbl R2.out O2.out)
 go_wp2_with (first
  | (refine wpList_load_row (by rfl) 88 _ (by rfl) (w.heap.size + 1 + 1 + 1) (by rfl) 88 #[.int .i64 1, .int .i64 0, .int .i64 0, .int .i64 0, .complex .f64 0 0, .string ⟨#[]⟩, .int .i64 0, .int .i64 0, .slice none 0 0, .slice none 0 0, .slice none 0 0] (0, 0) _ F2.out.t Tryz.underlying88 (by rfl) (by rw [size11]; rfl) ?_)
  | (refine wpList_store_row (by rfl) _ _ _ (by rfl) (w.heap.size + 1 + 1) #[.int .i64 1, .int .i64 0, .int .i64 0, .int .i64 0, .complex .f64 0 0, .string ⟨#[]⟩, .int .i64 0, .int .i64 0, .slice none 0 0, .slice none 0 0, .slice none 0 0] (by rfl) (by rfl) 88 ZQ F2.out.o (by rw [size11]; rfl) (by rfl) (by simp [Value.oneCell']) ?_; have HE2 := HE.out _ rfl; generalize World.setRow _ _ _ = W5 at HE2 ⊢; clear HE; obtain ⟨e1, e2, e3, e4⟩ := HE2; have E2 := Lib.hid e2; have E3 := Lib.hid e3; have E4 := Lib.hid e4; obtain ⟨z0, z1, z2, z3, z4, z5, z6, z7, z8, z9, z10⟩ := Bk.eleven e1; clear e1 e2 e3 e4))
 try rw [Exit.jump_ret]
 exact bodyPost_ret (v := .tuple #[.agg #[.int .i64 1, .int .i64 0, .int .i64 0, .int .i64 0, .complex .f64 0 0, .string ⟨#[]⟩, .int .i64 0, .int .i64 0, .slice none 0 0, .slice none 0 0, .slice none 0 0], .bool true]) (by simp [results, Tryz.results95, go_sem, z0, z1, z2, z3, z4, z5, z6, z7, z8, z9, z10]) rfl ⟨_, rfl, ⟨#[.int .i64 1, .int .i64 0, .int .i64 0, .int .i64 0, .complex .f64 0 0, .string ⟨#[]⟩, .int .i64 0, .int .i64 0, .slice none 0 0, .slice none 0 0, .slice none 0 0], rfl, (by simp only [QT.ds, T.ds, List.cons_append, List.nil_append, DVs, DV]; exact ⟨_, _, rfl, rfl, _, _, rfl, rfl, _, _, rfl, rfl, _, _, rfl, rfl, _, _, rfl, rfl, _, _, rfl, rfl, _, _, rfl, rfl, _, _, rfl, rfl, _, _, rfl, rfl, _, _, rfl, rfl, _, _, rfl, rfl, rfl⟩)⟩, E2.out, E3.out, h5⟩
theorem pat_k2 (s : ByteArray) (d b p q v : Nat) (w : World) (hv : v + (d + 1) = 64) (hb : Rdb w b s p) (hp : p ≤ s.size) (hs : s.size ≤ 262144) (hk : rOne 6 s p = .ok 2 q) :
 Calls Tryz.prog 95 #[.pointer (some ⟨b, 0, none⟩), .int .i64 v] w fun e w' => RdE b s (.agg ZQ) (RD QT.ds) ((rPK (fun p => rPat s d p) s 2 q)) w e w' := by
 have h64 : (v : Int) < 64 := by omega
 have hbl := Bk.lt hb
 have HO : Hid (Calls Tryz.prog 70 #[.pointer (some ⟨b, 0, none⟩), .int .i64 6] (W4Q w b v) fun e w' => RdE b s (.int .i64 0) RI (.ok 2 q) (W4Q w b v) e w') := Lib.hid (by rw [← hk]; exact oneOf_any b s p 6 (W4Q w b v) (W4Q.rdb hb v) hp hs)
 have HG := Lib.hid (fun w1 (h : Rdb w1 b s q) (hq : q ≤ s.size) => count_rd b s q w1 h hq hs)
 show Calls Tryz.prog _ _ w fun e w' => RdE b s (.agg ZQ) (RD QT.ds) ((rCnt s q).map (fun (n : Nat) => QT.var (n : Int))) w e w'
 generalize rCnt s q = r at HG ⊢
 go_enter Tryz.func95, Tryz.ntmps95
 go_wp2_with fail
 refine wp_scope_fwd 0 rfl ?_
 go_wp2_with fail
 (with_reducible refine HO.out.mono ?_)
 rintro e w1 ⟨u, rfl, rfl, h3, h4, h5⟩
 have F1 := Lib.hid ((FrQ.made w b v).only h4 hbl)
 have O1 := Lib.hid ((W4Q.only w b v).trans h4 (fun i hi => .inl hi))
 have F2 : Hid (FrQ (w1.setCell ⟨w.heap.size + 1 + 1 + 1, 0, none⟩ (.int .i64 2)) w.heap.size b v #[.int .i64 2, .int .i64 0, .int .i64 0, .int .i64 0, .complex .f64 0 0, .string ⟨#[]⟩, .int .i64 0, .int .i64 0, .slice none 0 0, .slice none 0 0, .slice none 0 0]) := Lib.hid (by simpa using F1.out.set 0 (.int .i64 2))
 have R2 := Lib.hid (Bk.away h3 (p := ⟨w.heap.size + 1 + 1 + 1, 0, none⟩) (by show b ≠ w.heap.size + 1 + 1 + 1; omega) (.int .i64 2))
 have O2 := Lib.hid (O1.out.set (p := ⟨w.heap.size + 1 + 1 + 1, 0, none⟩) (.inr (by show w.heap.size ≤ w.heap.size + 1 + 1 + 1; omega)) (.int .i64 2))
 have r0 := (F1.out).r.cell0 (i := 0) rfl
 have v0 := (F1.out).v.cell0 (i := 0) rfl
 obtain ⟨x0, x1, x2, x3, x4, x5, x6, x7, x8, x9, x10⟩ := Bk.eleven (F1.out).t
 have k0 := (F1.out).t.free 0
 have k1 := (F1.out).t.free 1
 have k2 := (F1.out).t.free 2
 have k3 := (F1.out).t.free 3
 have k4 := (F1.out).t.free 4
 have k5 := (F1.out).t.free 5
 have k6 := (F1.out).t.free 6
 have k7 := (F1.out).t.free 7
 have k8 := (F1.out).t.free 8
 have k9 := (F1.out).t.free 9
 have k10 := (F1.out).t.free 10
 clear h3 h4 HO
 go_wp2_with fail
 clear r0 v0 x0 x1 x2 x3 x4 x5 x6 x7 x8 x9 x10 k0 k1 k2 k3 k4 k5 k6 k7 k8 k9 k10
 (with_reducible refine (HG.out _ R2.out h5).mono ?_)
 intro e w2 h
 cases r with
 | ok y t =>
  obtain ⟨u, rfl, rfl, g3, g4, g5⟩ := h
  have F3 := Lib.hid (F2.out.only g4 hbl)
  have O3 := Lib.hid (O2.out.trans g4 (fun i hi => .inl hi))
  have R3 := Lib.hid g3
  have F4 : Hid (FrQ _ w.heap.size b v #[.int .i64 2, .int .i64 y, .int .i64 0, .int .i64 0, .complex .f64 0 0, .string ⟨#[]⟩, .int .i64 0, .int .i64 0, .slice none 0 0, .slice none 0 0, .slice none 0 0]) := Lib.hid (by simpa using F3.out.set 1 (.int .i64 y))
  have O4 := Lib.hid (O3.out.set (p := ⟨w.heap.size + 1 + 1 + 1, 1, none⟩) (.inr (by show w.heap.size ≤ w.heap.size + 1 + 1 + 1; omega)) (.int .i64 y))
  have R4 := Lib.hid (Bk.away R3.out (p := ⟨w.heap.size + 1 + 1 + 1, 1, none⟩) (by show b ≠ w.heap.size + 1 + 1 + 1; omega) (.int .i64 y))
  have r0 := (F3.out).r.cell0 (i := 0) rfl
  have v0 := (F3.out).v.cell0 (i := 0) rfl
  obtain ⟨x0, x1, x2, x3, x4, x5, x6, x7, x8, x9, x10⟩ := Bk.eleven (F3.out).t
  have k0 := (F3.out).t.free 0
  have k1 := (F3.out).t.free 1
  have k2 := (F3.out).t.free 2
  have k3 := (F3.out).t.free 3
  have k4 := (F3.out).t.free 4
  have k5 := (F3.out).t.free 5
  have k6 := (F3.out).t.free 6
  have k7 := (F3.out).t.free 7
  have k8 := (F3.out).t.free 8
  have k9 := (F3.out).t.free 9
  have k10 := (F3.out).t.free 10
  clear g3 g4
  have HE := Lib.hid (fun W' => FrQ.yes (W' := W') #[.int .i64 2, .int .i64 y, .int .i64 0, .int .i64 0, .complex .f64 0 0, .string ⟨#[]⟩, .int .i64 0, .int .i64 0, .slice none 0 0, .slice none 0 0, .slice none 0 0] F4.out rfl hbl R4.out O4.out)
  go_wp2_with (first
   | (refine wpList_load_row (by rfl) 88 _ (by rfl) (w.heap.size + 1 + 1 + 1) (by rfl) 88 #[.int .i64 2, .int .i64 y, .int .i64 0, .int .i64 0, .complex .f64 0 0, .string ⟨#[]⟩, .int .i64 0, .int .i64 0, .slice none 0 0, .slice none 0 0, .slice none 0 0] (0, 0) _ F4.out.t Tryz.underlying88 (by rfl) (by rw [size11]; rfl) ?_)
   | (refine wpList_store_row (by rfl) _ _ _ (by rfl) (w.heap.size + 1 + 1) #[.int .i64 2, .int .i64 y, .int .i64 0, .int .i64 0, .complex .f64 0 0, .string ⟨#[]⟩, .int .i64 0, .int .i64 0, .slice none 0 0, .slice none 0 0, .slice none 0 0] (by rfl) (by rfl) 88 ZQ F4.out.o (by rw [size11]; rfl) (by rfl) (by simp [Value.oneCell']) ?_; have HE2 := HE.out _ rfl; generalize World.setRow _ _ _ = W5 at HE2 ⊢; clear HE; obtain ⟨e1, e2, e3, e4⟩ := HE2; have E2 := Lib.hid e2; have E3 := Lib.hid e3; have E4 := Lib.hid e4; obtain ⟨z0, z1, z2, z3, z4, z5, z6, z7, z8, z9, z10⟩ := Bk.eleven e1; clear e1 e2 e3 e4))
  try rw [Exit.jump_ret]
  exact bodyPost_ret (v := .tuple #[.agg #[.int .i64 2, .int .i64 y, .int .i64 0, .int .i64 0, .complex .f64 0 0, .string ⟨#[]⟩, .int .i64 0, .int .i64 0, .slice none 0 0, .slice none 0 0, .slice none 0 0], .bool true]) (by simp [results, Tryz.results95, go_sem, z0, z1, z2, z3, z4, z5, z6, z7, z8, z9, z10]) rfl ⟨_, rfl, ⟨#[.int .i64 2, .int .i64 y, .int .i64 0, .int .i64 0, .complex .f64 0 0, .string ⟨#[]⟩, .int .i64 0, .int .i64 0, .slice none 0 0, .slice none 0 0, .slice none 0 0], rfl, (by simp only [QT.ds, T.ds, List.cons_append, List.nil_append, DVs, DV]; exact ⟨_, _, rfl, rfl, _, _, rfl, rfl, _, _, rfl, rfl, _, _, rfl, rfl, _, _, rfl, rfl, _, _, rfl, rfl, _, _, rfl, rfl, _, _, rfl, rfl, _, _, rfl, rfl, _, _, rfl, rfl, _, _, rfl, rfl, rfl⟩)⟩, E2.out, E3.out, g5⟩
 | bad t =>
  obtain ⟨rfl, g3, g4⟩ := h
  have F3 := Lib.hid (F2.out.only g4 hbl)
  have O3 := Lib.hid (O2.out.trans g4 (fun i hi => .inl hi))
  have R3 := Lib.hid g3
  have F4 : Hid (FrQ _ w.heap.size b v #[.int .i64 2, .int .i64 0, .int .i64 0, .int .i64 0, .complex .f64 0 0, .string ⟨#[]⟩, .int .i64 0, .int .i64 0, .slice none 0 0, .slice none 0 0, .slice none 0 0]) := Lib.hid (by simpa using F3.out.set 1 (.int .i64 0))
  have O4 := Lib.hid (O3.out.set (p := ⟨w.heap.size + 1 + 1 + 1, 1, none⟩) (.inr (by show w.heap.size ≤ w.heap.size + 1 + 1 + 1; omega)) (.int .i64 0))
  have R4 := Lib.hid (Bk.away R3.out (p := ⟨w.heap.size + 1 + 1 + 1, 1, none⟩) (by show b ≠ w.heap.size + 1 + 1 + 1; omega) (.int .i64 0))
  have r0 := (F3.out).r.cell0 (i := 0) rfl
  have v0 := (F3.out).v.cell0 (i := 0) rfl
  obtain ⟨x0, x1, x2, x3, x4, x5, x6, x7, x8, x9, x10⟩ := Bk.eleven (F3.out).t
  have k0 := (F3.out).t.free 0
  have k1 := (F3.out).t.free 1
  have k2 := (F3.out).t.free 2
  have k3 := (F3.out).t.free 3
  have k4 := (F3.out).t.free 4
  have k5 := (F3.out).t.free 5
  have k6 := (F3.out).t.free 6
  have k7 := (F3.out).t.free 7
  have k8 := (F3.out).t.free 8
  have k9 := (F3.out).t.free 9
  have k10 := (F3.out).t.free 10
  clear g3 g4
  go_wp2_with fail
  refine wp_goto (And.intro rfl ?_)
  have HE := Lib.hid (fun W' => FrQ.yes (W' := W') ZQ F4.out rfl hbl R4.out O4.out)
  go_wp2_with (refine wpList_store_row (by rfl) _ _ _ (by rfl) (w.heap.size + 1 + 1) ZQ (by rfl) (by rfl) 88 ZQ F4.out.o (by rw [size11]; rfl) (by rfl) one11 ?_; have HE2 := HE.out _ rfl; generalize World.setRow _ _ _ = W5 at HE2 ⊢; clear HE; obtain ⟨e1, e2, e3, -⟩ := HE2; have E2 := Lib.hid e2; have E3 := Lib.hid e3; obtain ⟨z0, z1, z2, z3, z4, z5, z6, z7, z8, z9, z10⟩ := Bk.eleven e1; clear e1 e2 e3)
  try rw [Exit.last_ret]
  exact bodyPost_ret (v := .tuple #[.agg ZQ, .bool false]) (by simp [results, Tryz.results95, go_sem, z0, z1, z2, z3, z4, z5, z6, z7, z8, z9, z10]) rfl ⟨rfl, E2.out, E3.out⟩
theorem pat_k4 (s : ByteArray) (d b p q v : Nat) (w : World) (hv : v + (d + 1) = 64) (hb : Rdb w b s p) (hp : p ≤ s.size) (hs : s.size ≤ 262144) (hk : rOne 6 s p = .ok 4 q) :
 Calls Tryz.prog 95 #[.pointer (some ⟨b, 0, none⟩), .int .i64 v] w fun e w' => RdE b s (.agg ZQ) (RD QT.ds) ((rPK (fun p => rPat s d p) s 4 q)) w e w' := by
 have h64 : (v : Int) < 64 := by omega
 have hbl := Bk.lt hb
 have HO : Hid (Calls Tryz.prog 70 #[.pointer (some ⟨b, 0, none⟩), .int .i64 6] (W4Q w b v) fun e w' => RdE b s (.int .i64 0) RI (.ok 4 q) (W4Q w b v) e w') := Lib.hid (by rw [← hk]; exact oneOf_any b s p 6 (W4Q w b v) (W4Q.rdb hb v) hp hs)
 have HG := Lib.hid (fun w1 (h : Rdb w1 b s q) (hq : q ≤ s.size) => count_rd b s q w1 h hq hs)
 show Calls Tryz.prog _ _ w fun e w' => RdE b s (.agg ZQ) (RD QT.ds) ((rCnt s q).map (fun (n : Nat) => QT.kind (n : Int))) w e w'
 generalize rCnt s q = r at HG ⊢
 go_enter Tryz.func95, Tryz.ntmps95
 go_wp2_with fail
 refine wp_scope_fwd 0 rfl ?_
 go_wp2_with fail
 (with_reducible refine HO.out.mono ?_)
 rintro e w1 ⟨u, rfl, rfl, h3, h4, h5⟩
 have F1 := Lib.hid ((FrQ.made w b v).only h4 hbl)
 have O1 := Lib.hid ((W4Q.only w b v).trans h4 (fun i hi => .inl hi))
 have F2 : Hid (FrQ (w1.setCell ⟨w.heap.size + 1 + 1 + 1, 0, none⟩ (.int .i64 4)) w.heap.size b v #[.int .i64 4, .int .i64 0, .int .i64 0, .int .i64 0, .complex .f64 0 0, .string ⟨#[]⟩, .int .i64 0, .int .i64 0, .slice none 0 0, .slice none 0 0, .slice none 0 0]) := Lib.hid (by simpa using F1.out.set 0 (.int .i64 4))
 have R2 := Lib.hid (Bk.away h3 (p := ⟨w.heap.size + 1 + 1 + 1, 0, none⟩) (by show b ≠ w.heap.size + 1 + 1 + 1; omega) (.int .i64 4))
 have O2 := Lib.hid (O1.out.set (p := ⟨w.heap.size + 1 + 1 + 1, 0, none⟩) (.inr (by show w.heap.size ≤ w.heap.size + 1 + 1 + 1; omega)) (.int .i64 4))
 have r0 := (F1.out).r.cell0 (i := 0) rfl
 have v0 := (F1.out).v.cell0 (i := 0) rfl
 obtain ⟨x0, x1, x2, x3, x4, x5, x6, x7, x8, x9, x10⟩ := Bk.eleven (F1.out).t
 have k0 := (F1.out).t.free 0
 have k1 := (F1.out).t.free 1
 have k2 := (F1.out).t.free 2
 have k3 := (F1.out).t.free 3
 have k4 := (F1.out).t.free 4
 have k5 := (F1.out).t.free 5
 have k6 := (F1.out).t.free 6
 have k7 := (F1.out).t.free 7
 have k8 := (F1.out).t.free 8
 have k9 := (F1.out).t.free 9
 have k10 := (F1.out).t.free 10
 clear h3 h4 HO
 go_wp2_with fail
 clear r0 v0 x0 x1 x2 x3 x4 x5 x6 x7 x8 x9 x10 k0 k1 k2 k3 k4 k5 k6 k7 k8 k9 k10
 (with_reducible refine (HG.out _ R2.out h5).mono ?_)
 intro e w2 h
 cases r with
 | ok y t =>
  obtain ⟨u, rfl, rfl, g3, g4, g5⟩ := h
  have F3 := Lib.hid (F2.out.only g4 hbl)
  have O3 := Lib.hid (O2.out.trans g4 (fun i hi => .inl hi))
  have R3 := Lib.hid g3
  have F4 : Hid (FrQ _ w.heap.size b v #[.int .i64 4, .int .i64 y, .int .i64 0, .int .i64 0, .complex .f64 0 0, .string ⟨#[]⟩, .int .i64 0, .int .i64 0, .slice none 0 0, .slice none 0 0, .slice none 0 0]) := Lib.hid (by simpa using F3.out.set 1 (.int .i64 y))
  have O4 := Lib.hid (O3.out.set (p := ⟨w.heap.size + 1 + 1 + 1, 1, none⟩) (.inr (by show w.heap.size ≤ w.heap.size + 1 + 1 + 1; omega)) (.int .i64 y))
  have R4 := Lib.hid (Bk.away R3.out (p := ⟨w.heap.size + 1 + 1 + 1, 1, none⟩) (by show b ≠ w.heap.size + 1 + 1 + 1; omega) (.int .i64 y))
  have r0 := (F3.out).r.cell0 (i := 0) rfl
  have v0 := (F3.out).v.cell0 (i := 0) rfl
  obtain ⟨x0, x1, x2, x3, x4, x5, x6, x7, x8, x9, x10⟩ := Bk.eleven (F3.out).t
  have k0 := (F3.out).t.free 0
  have k1 := (F3.out).t.free 1
  have k2 := (F3.out).t.free 2
  have k3 := (F3.out).t.free 3
  have k4 := (F3.out).t.free 4
  have k5 := (F3.out).t.free 5
  have k6 := (F3.out).t.free 6
  have k7 := (F3.out).t.free 7
  have k8 := (F3.out).t.free 8
  have k9 := (F3.out).t.free 9
  have k10 := (F3.out).t.free 10
  clear g3 g4
  have HE := Lib.hid (fun W' => FrQ.yes (W' := W') #[.int .i64 4, .int .i64 y, .int .i64 0, .int .i64 0, .complex .f64 0 0, .string ⟨#[]⟩, .int .i64 0, .int .i64 0, .slice none 0 0, .slice none 0 0, .slice none 0 0] F4.out rfl hbl R4.out O4.out)
  go_wp2_with (first
   | (refine wpList_load_row (by rfl) 88 _ (by rfl) (w.heap.size + 1 + 1 + 1) (by rfl) 88 #[.int .i64 4, .int .i64 y, .int .i64 0, .int .i64 0, .complex .f64 0 0, .string ⟨#[]⟩, .int .i64 0, .int .i64 0, .slice none 0 0, .slice none 0 0, .slice none 0 0] (0, 0) _ F4.out.t Tryz.underlying88 (by rfl) (by rw [size11]; rfl) ?_)
   | (refine wpList_store_row (by rfl) _ _ _ (by rfl) (w.heap.size + 1 + 1) #[.int .i64 4, .int .i64 y, .int .i64 0, .int .i64 0, .complex .f64 0 0, .string ⟨#[]⟩, .int .i64 0, .int .i64 0, .slice none 0 0, .slice none 0 0, .slice none 0 0] (by rfl) (by rfl) 88 ZQ F4.out.o (by rw [size11]; rfl) (by rfl) (by simp [Value.oneCell']) ?_; have HE2 := HE.out _ rfl; generalize World.setRow _ _ _ = W5 at HE2 ⊢; clear HE; obtain ⟨e1, e2, e3, e4⟩ := HE2; have E2 := Lib.hid e2; have E3 := Lib.hid e3; have E4 := Lib.hid e4; obtain ⟨z0, z1, z2, z3, z4, z5, z6, z7, z8, z9, z10⟩ := Bk.eleven e1; clear e1 e2 e3 e4))
  try rw [Exit.jump_ret]
  exact bodyPost_ret (v := .tuple #[.agg #[.int .i64 4, .int .i64 y, .int .i64 0, .int .i64 0, .complex .f64 0 0, .string ⟨#[]⟩, .int .i64 0, .int .i64 0, .slice none 0 0, .slice none 0 0, .slice none 0 0], .bool true]) (by simp [results, Tryz.results95, go_sem, z0, z1, z2, z3, z4, z5, z6, z7, z8, z9, z10]) rfl ⟨_, rfl, ⟨#[.int .i64 4, .int .i64 y, .int .i64 0, .int .i64 0, .complex .f64 0 0, .string ⟨#[]⟩, .int .i64 0, .int .i64 0, .slice none 0 0, .slice none 0 0, .slice none 0 0], rfl, (by simp only [QT.ds, T.ds, List.cons_append, List.nil_append, DVs, DV]; exact ⟨_, _, rfl, rfl, _, _, rfl, rfl, _, _, rfl, rfl, _, _, rfl, rfl, _, _, rfl, rfl, _, _, rfl, rfl, _, _, rfl, rfl, _, _, rfl, rfl, _, _, rfl, rfl, _, _, rfl, rfl, _, _, rfl, rfl, rfl⟩)⟩, E2.out, E3.out, g5⟩
 | bad t =>
  obtain ⟨rfl, g3, g4⟩ := h
  have F3 := Lib.hid (F2.out.only g4 hbl)
  have O3 := Lib.hid (O2.out.trans g4 (fun i hi => .inl hi))
  have R3 := Lib.hid g3
  have F4 : Hid (FrQ _ w.heap.size b v #[.int .i64 4, .int .i64 0, .int .i64 0, .int .i64 0, .complex .f64 0 0, .string ⟨#[]⟩, .int .i64 0, .int .i64 0, .slice none 0 0, .slice none 0 0, .slice none 0 0]) := Lib.hid (by simpa using F3.out.set 1 (.int .i64 0))
  have O4 := Lib.hid (O3.out.set (p := ⟨w.heap.size + 1 + 1 + 1, 1, none⟩) (.inr (by show w.heap.size ≤ w.heap.size + 1 + 1 + 1; omega)) (.int .i64 0))
  have R4 := Lib.hid (Bk.away R3.out (p := ⟨w.heap.size + 1 + 1 + 1, 1, none⟩) (by show b ≠ w.heap.size + 1 + 1 + 1; omega) (.int .i64 0))
  have r0 := (F3.out).r.cell0 (i := 0) rfl
  have v0 := (F3.out).v.cell0 (i := 0) rfl
  obtain ⟨x0, x1, x2, x3, x4, x5, x6, x7, x8, x9, x10⟩ := Bk.eleven (F3.out).t
  have k0 := (F3.out).t.free 0
  have k1 := (F3.out).t.free 1
  have k2 := (F3.out).t.free 2
  have k3 := (F3.out).t.free 3
  have k4 := (F3.out).t.free 4
  have k5 := (F3.out).t.free 5
  have k6 := (F3.out).t.free 6
  have k7 := (F3.out).t.free 7
  have k8 := (F3.out).t.free 8
  have k9 := (F3.out).t.free 9
  have k10 := (F3.out).t.free 10
  clear g3 g4
  go_wp2_with fail
  refine wp_goto (And.intro rfl ?_)
  have HE := Lib.hid (fun W' => FrQ.yes (W' := W') ZQ F4.out rfl hbl R4.out O4.out)
  go_wp2_with (refine wpList_store_row (by rfl) _ _ _ (by rfl) (w.heap.size + 1 + 1) ZQ (by rfl) (by rfl) 88 ZQ F4.out.o (by rw [size11]; rfl) (by rfl) one11 ?_; have HE2 := HE.out _ rfl; generalize World.setRow _ _ _ = W5 at HE2 ⊢; clear HE; obtain ⟨e1, e2, e3, -⟩ := HE2; have E2 := Lib.hid e2; have E3 := Lib.hid e3; obtain ⟨z0, z1, z2, z3, z4, z5, z6, z7, z8, z9, z10⟩ := Bk.eleven e1; clear e1 e2 e3)
  try rw [Exit.last_ret]
  exact bodyPost_ret (v := .tuple #[.agg ZQ, .bool false]) (by simp [results, Tryz.results95, go_sem, z0, z1, z2, z3, z4, z5, z6, z7, z8, z9, z10]) rfl ⟨rfl, E2.out, E3.out⟩
end Go.Proofs.YtcdefnbehlcgeaaGreatDoor
