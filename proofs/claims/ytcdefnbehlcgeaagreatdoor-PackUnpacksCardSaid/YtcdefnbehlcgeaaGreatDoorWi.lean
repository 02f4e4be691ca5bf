/- The program's reader of a term, kind by kind. -/
import Derived.Test.YtcdefnbehlcgeaaGreatDoorWh
set_option maxHeartbeats 4000000
set_option maxRecDepth 20000
namespace Go.Proofs.YtcdefnbehlcgeaaGreatDoor
open Go.RowKit
theorem Fr.yes {W W' : World} {m b v p : Nat} {cs : Array Value} {s : ByteArray} {w : World} (us : Array Value) (h : Fr W m b v cs) (hw : w.heap.size = m) (hb : b < m) (hr : Rdb W b s p) (o : Only [b] w W) (e : W' = W.setRow (m + 1 + 1) us) :
 Bk W' (m + 1 + 1) 52 us ∧ Rdb W' b s p ∧ Only [b] w W' ∧ Only [m + 1 + 1] W W' := by
 obtain ⟨h1, h2⟩ := setRow_bk h.o us
 subst e
 exact ⟨h1, Bk.only hr h2 (by simp; omega), o.trans h2 (fun i hi => .inr (by simp at hi; omega)), h2⟩
theorem store_cx {w : World} {p : Addr} {v0 : Value} {x y : Nat} (h : w.cell? p = some v0) (hf : w.frozen? p = false) : (store p (.complex .f64 x y)).run Tryz.prog w = .ok () (w.setCell p (.complex .f64 x y)) := by
 simp [store, Sem.run, go_sem, h, hf]
theorem term_k2 (s : ByteArray) (d b p q v : Nat) (w : World) (hv : v + (d + 1) = 64) (hb : Rdb w b s p) (hp : p ≤ s.size) (hs : s.size ≤ 262144) (hk : rOne 9 s p = .ok 2 q) :
 Calls Tryz.prog 41 #[.pointer (some ⟨b, 0, none⟩), .int .i64 v] w fun e w' => RdE b s (.agg ZT) (RD T.ds) (rKind (fun p => rTerm s d p) s 2 q) w e w' := by
 have h64 : (v : Int) < 64 := by omega
 have hbl := Bk.lt hb
 have HO : Hid (Calls Tryz.prog 70 #[.pointer (some ⟨b, 0, none⟩), .int .i64 9] (W4 w b v) fun e w' => RdE b s (.int .i64 0) RI (.ok 2 q) (W4 w b v) e w') := Lib.hid (by rw [← hk]; exact oneOf_any b s p 9 (W4 w b v) (W4.rdb hb v) hp hs)
 have HG := Lib.hid (fun w1 (h : Rdb w1 b s q) (hq : q ≤ s.size) => count_rd b s q w1 h hq hs)
 show Calls Tryz.prog _ _ w fun e w' => RdE b s (.agg ZT) (RD T.ds) ((rCnt s q).map (fun (n : Nat) => T.bool (n : Int))) w e w'
 generalize rCnt s q = r at HG ⊢
 go_enter Tryz.func41, Tryz.ntmps41
 go_wp2_with fail
 refine wp_scope_fwd 0 rfl ?_
 go_wp2_with fail
 (with_reducible refine HO.out.mono ?_)
 rintro e w1 ⟨u, rfl, rfl, h3, h4, h5⟩
 have F1 := Lib.hid ((Fr.made w b v).only h4 hbl)
 have O1 := Lib.hid ((W4.only w b v).trans h4 (fun i hi => .inl hi))
 have F2 : Hid (Fr (w1.setCell ⟨w.heap.size + 1 + 1 + 1, 0, none⟩ (.int .i64 2)) w.heap.size b v #[.int .i64 2, .int .i64 0, .complex .f64 0 0, .string ⟨#[]⟩, .int .i64 0, .int .i64 0, .slice none 0 0]) := Lib.hid (by simpa using F1.out.set 0 (.int .i64 2))
 have R2 := Lib.hid (Bk.away h3 (p := ⟨w.heap.size + 1 + 1 + 1, 0, none⟩) (by show b ≠ w.heap.size + 1 + 1 + 1; omega) (.int .i64 2))
 have O2 := Lib.hid (O1.out.set (p := ⟨w.heap.size + 1 + 1 + 1, 0, none⟩) (.inr (by show w.heap.size ≤ w.heap.size + 1 + 1 + 1; omega)) (.int .i64 2))
 have r0 := (F1.out).r.cell0 (i := 0) rfl
 have v0 := (F1.out).v.cell0 (i := 0) rfl
 obtain ⟨x0, x1, x2, x3, x4, x5, x6⟩ := Bk.seven (F1.out).t
 have k0 := (F1.out).t.free 0
 have k1 := (F1.out).t.free 1
 have k2 := (F1.out).t.free 2
 have k3 := (F1.out).t.free 3
 have k4 := (F1.out).t.free 4
 have k5 := (F1.out).t.free 5
 have k6 := (F1.out).t.free 6
 clear h3 h4 HO
 go_wp2_with fail
 clear r0 v0 x0 x1 x2 x3 x4 x5 x6 k0 k1 k2 k3 k4 k5 k6
 (with_reducible refine (HG.out _ R2.out h5).mono ?_)
 intro e w2 h
 cases r with
 | ok y t =>
  obtain ⟨u, rfl, rfl, g3, g4, g5⟩ := h
  have F3 := Lib.hid (F2.out.only g4 hbl)
  have O3 := Lib.hid (O2.out.trans g4 (fun i hi => .inl hi))
  have R3 := Lib.hid g3
  have F4 : Hid (Fr _ w.heap.size b v #[.int .i64 2, .int .i64 y, .complex .f64 0 0, .string ⟨#[]⟩, .int .i64 0, .int .i64 0, .slice none 0 0]) := Lib.hid (by simpa using F3.out.set 1 (.int .i64 y))
  have O4 := Lib.hid (O3.out.set (p := ⟨w.heap.size + 1 + 1 + 1, 1, none⟩) (.inr (by show w.heap.size ≤ w.heap.size + 1 + 1 + 1; omega)) (.int .i64 y))
  have R4 := Lib.hid (Bk.away R3.out (p := ⟨w.heap.size + 1 + 1 + 1, 1, none⟩) (by show b ≠ w.heap.size + 1 + 1 + 1; omega) (.int .i64 y))
  have r0 := (F3.out).r.cell0 (i := 0) rfl
  have v0 := (F3.out).v.cell0 (i := 0) rfl
  obtain ⟨x0, x1, x2, x3, x4, x5, x6⟩ := Bk.seven (F3.out).t
  have k0 := (F3.out).t.free 0
  have k1 := (F3.out).t.free 1
  have k2 := (F3.out).t.free 2
  have k3 := (F3.out).t.free 3
  have k4 := (F3.out).t.free 4
  have k5 := (F3.out).t.free 5
  have k6 := (F3.out).t.free 6
  clear g3 g4
  have HE := Lib.hid (fun W' => Fr.yes (W' := W') #[.int .i64 2, .int .i64 y, .complex .f64 0 0, .string ⟨#[]⟩, .int .i64 0, .int .i64 0, .slice none 0 0] F4.out rfl hbl R4.out O4.out)
  go_wp2_with (first
   | (refine wpList_load_row (by rfl) 52 _ (by rfl) (w.heap.size + 1 + 1 + 1) (by rfl) 52 #[.int .i64 2, .int .i64 y, .complex .f64 0 0, .string ⟨#[]⟩, .int .i64 0, .int .i64 0, .slice none 0 0] (0, 0) _ F4.out.t Tryz.underlying52 (by rfl) (by rw [size7]; rfl) ?_)
   | (refine wpList_store_row (by rfl) _ _ _ (by rfl) (w.heap.size + 1 + 1) #[.int .i64 2, .int .i64 y, .complex .f64 0 0, .string ⟨#[]⟩, .int .i64 0, .int .i64 0, .slice none 0 0] (by rfl) (by rfl) 52 ZT F4.out.o (by rw [size7]; rfl) (by rfl) (by simp [Value.oneCell']) ?_; have HE2 := HE.out _ rfl; generalize World.setRow _ _ _ = W5 at HE2 ⊢; clear HE; obtain ⟨e1, e2, e3, e4⟩ := HE2; have E2 := Lib.hid e2; have E3 := Lib.hid e3; have E4 := Lib.hid e4; obtain ⟨z0, z1, z2, z3, z4, z5, z6⟩ := Bk.seven e1; clear e1 e2 e3 e4))
  try rw [Exit.jump_ret]
  exact bodyPost_ret (v := .tuple #[.agg #[.int .i64 2, .int .i64 y, .complex .f64 0 0, .string ⟨#[]⟩, .int .i64 0, .int .i64 0, .slice none 0 0], .bool true]) (by simp [results, Tryz.results41, go_sem, z0, z1, z2, z3, z4, z5, z6]) rfl ⟨_, rfl, ⟨#[.int .i64 2, .int .i64 y, .complex .f64 0 0, .string ⟨#[]⟩, .int .i64 0, .int .i64 0, .slice none 0 0], rfl, (by simp only [T.ds, DVs, DV]; exact ⟨_, _, rfl, rfl, _, _, rfl, rfl, _, _, rfl, rfl, _, _, rfl, rfl, _, _, rfl, rfl, _, _, rfl, rfl, _, _, rfl, rfl, rfl⟩)⟩, E2.out, E3.out, g5⟩
 | bad t =>
  obtain ⟨rfl, g3, g4⟩ := h
  have F3 := Lib.hid (F2.out.only g4 hbl)
  have O3 := Lib.hid (O2.out.trans g4 (fun i hi => .inl hi))
  have R3 := Lib.hid g3
  have F4 : Hid (Fr _ w.heap.size b v #[.int .i64 2, .int .i64 0, .complex .f64 0 0, .string ⟨#[]⟩, .int .i64 0, .int .i64 0, .slice none 0 0]) := Lib.hid (by simpa using F3.out.set 1 (.int .i64 0))
  have O4 := Lib.hid (O3.out.set (p := ⟨w.heap.size + 1 + 1 + 1, 1, none⟩) (.inr (by show w.heap.size ≤ w.heap.size + 1 + 1 + 1; omega)) (.int .i64 0))
  have R4 := Lib.hid (Bk.away R3.out (p := ⟨w.heap.size + 1 + 1 + 1, 1, none⟩) (by show b ≠ w.heap.size + 1 + 1 + 1; omega) (.int .i64 0))
  have r0 := (F3.out).r.cell0 (i := 0) rfl
  have v0 := (F3.out).v.cell0 (i := 0) rfl
  obtain ⟨x0, x1, x2, x3, x4, x5, x6⟩ := Bk.seven (F3.out).t
  have k0 := (F3.out).t.free 0
  have k1 := (F3.out).t.free 1
  have k2 := (F3.out).t.free 2
  have k3 := (F3.out).t.free 3
  have k4 := (F3.out).t.free 4
  have k5 := (F3.out).t.free 5
  have k6 := (F3.out).t.free 6
  clear g3 g4
  go_wp2_with fail
  refine wp_goto (And.intro rfl ?_)
  have HE := Lib.hid (fun W' => Fr.yes (W' := W') ZT F4.out rfl hbl R4.out O4.out)
  go_wp2_with (refine wpList_store_row (by rfl) _ _ _ (by rfl) (w.heap.size + 1 + 1) ZT (by rfl) (by rfl) 52 ZT F4.out.o (by rw [size7]; rfl) (by rfl) one7 ?_; have HE2 := HE.out _ rfl; generalize World.setRow _ _ _ = W5 at HE2 ⊢; clear HE; obtain ⟨e1, e2, e3, -⟩ := HE2; have E2 := Lib.hid e2; have E3 := Lib.hid e3; obtain ⟨z0, z1, z2, z3, z4, z5, z6⟩ := Bk.seven e1; clear e1 e2 e3)
  try rw [Exit.last_ret]
  exact bodyPost_ret (v := .tuple #[.agg ZT, .bool false]) (by simp [results, Tryz.results41, go_sem, z0, z1, z2, z3, z4, z5, z6]) rfl ⟨rfl, E2.out, E3.out⟩
theorem term_k3 (s : ByteArray) (d b p q v : Nat) (w : World) (hv : v + (d + 1) = 64) (hb : Rdb w b s p) (hp : p ≤ s.size) (hs : s.size ≤ 262144) (hk : rOne 9 s p = .ok 3 q) :
 Calls Tryz.prog 41 #[.pointer (some ⟨b, 0, none⟩), .int .i64 v] w fun e w' => RdE b s (.agg ZT) (RD T.ds) (rKind (fun p => rTerm s d p) s 3 q) w e w' := by
 have h64 : (v : Int) < 64 := by omega
 have hbl := Bk.lt hb
 have HO : Hid (Calls Tryz.prog 70 #[.pointer (some ⟨b, 0, none⟩), .int .i64 9] (W4 w b v) fun e w' => RdE b s (.int .i64 0) RI (.ok 3 q) (W4 w b v) e w') := Lib.hid (by rw [← hk]; exact oneOf_any b s p 9 (W4 w b v) (W4.rdb hb v) hp hs)
 have HG := Lib.hid (fun w1 (h : Rdb w1 b s q) (hq : q ≤ s.size) => number_any b s q w1 h hq hs)
 show Calls Tryz.prog _ _ w fun e w' => RdE b s (.agg ZT) (RD T.ds) ((rNum s q).map T.int) w e w'
 generalize rNum s q = r at HG ⊢
 go_enter Tryz.func41, Tryz.ntmps41
 go_wp2_with fail
 refine wp_scope_fwd 0 rfl ?_
 go_wp2_with fail
 (with_reducible refine HO.out.mono ?_)
 rintro e w1 ⟨u, rfl, rfl, h3, h4, h5⟩
 have F1 := Lib.hid ((Fr.made w b v).only h4 hbl)
 have O1 := Lib.hid ((W4.only w b v).trans h4 (fun i hi => .inl hi))
 have F2 : Hid (Fr (w1.setCell ⟨w.heap.size + 1 + 1 + 1, 0, none⟩ (.int .i64 3)) w.heap.size b v #[.int .i64 3, .int .i64 0, .complex .f64 0 0, .string ⟨#[]⟩, .int .i64 0, .int .i64 0, .slice none 0 0]) := Lib.hid (by simpa using F1.out.set 0 (.int .i64 3))
 have R2 := Lib.hid (Bk.away h3 (p := ⟨w.heap.size + 1 + 1 + 1, 0, none⟩) (by show b ≠ w.heap.size + 1 + 1 + 1; omega) (.int .i64 3))
 have O2 := Lib.hid (O1.out.set (p := ⟨w.heap.size + 1 + 1 + 1, 0, none⟩) (.inr (by show w.heap.size ≤ w.heap.size + 1 + 1 + 1; omega)) (.int .i64 3))
 have r0 := (F1.out).r.cell0 (i := 0) rfl
 have v0 := (F1.out).v.cell0 (i := 0) rfl
 obtain ⟨x0, x1, x2, x3, x4, x5, x6⟩ := Bk.seven (F1.out).t
 have k0 := (F1.out).t.free 0
 have k1 := (F1.out).t.free 1
 have k2 := (F1.out).t.free 2
 have k3 := (F1.out).t.free 3
 have k4 := (F1.out).t.free 4
 have k5 := (F1.out).t.free 5
 have k6 := (F1.out).t.free 6
 clear h3 h4 HO
 go_wp2_with fail
 clear r0 v0 x0 x1 x2 x3 x4 x5 x6 k0 k1 k2 k3 k4 k5 k6
 (with_reducible refine (HG.out _ R2.out h5).mono ?_)
 intro e w2 h
 cases r with
 | ok y t =>
  obtain ⟨u, rfl, rfl, g3, g4, g5⟩ := h
  have F3 := Lib.hid (F2.out.only g4 hbl)
  have O3 := Lib.hid (O2.out.trans g4 (fun i hi => .inl hi))
  have R3 := Lib.hid g3
  have F4 : Hid (Fr _ w.heap.size b v #[.int .i64 3, .int .i64 y, .complex .f64 0 0, .string ⟨#[]⟩, .int .i64 0, .int .i64 0, .slice none 0 0]) := Lib.hid (by simpa using F3.out.set 1 (.int .i64 y))
  have O4 := Lib.hid (O3.out.set (p := ⟨w.heap.size + 1 + 1 + 1, 1, none⟩) (.inr (by show w.heap.size ≤ w.heap.size + 1 + 1 + 1; omega)) (.int .i64 y))
  have R4 := Lib.hid (Bk.away R3.out (p := ⟨w.heap.size + 1 + 1 + 1, 1, none⟩) (by show b ≠ w.heap.size + 1 + 1 + 1; omega) (.int .i64 y))
  have r0 := (F3.out).r.cell0 (i := 0) rfl
  have v0 := (F3.out).v.cell0 (i := 0) rfl
  obtain ⟨x0, x1, x2, x3, x4, x5, x6⟩ := Bk.seven (F3.out).t
  have k0 := (F3.out).t.free 0
  have k1 := (F3.out).t.free 1
  have k2 := (F3.out).t.free 2
  have k3 := (F3.out).t.free 3
  have k4 := (F3.out).t.free 4
  have k5 := (F3.out).t.free 5
  have k6 := (F3.out).t.free 6
  clear g3 g4
  have HE := Lib.hid (fun W' => Fr.yes (W' := W') #[.int .i64 3, .int .i64 y, .complex .f64 0 0, .string ⟨#[]⟩, .int .i64 0, .int .i64 0, .slice none 0 0] F4.out rfl hbl R4.out O4.out)
  go_wp2_with (first
   | (refine wpList_load_row (by rfl) 52 _ (by rfl) (w.heap.size + 1 + 1 + 1) (by rfl) 52 #[.int .i64 3, .int .i64 y, .complex .f64 0 0, .string ⟨#[]⟩, .int .i64 0, .int .i64 0, .slice none 0 0] (0, 0) _ F4.out.t Tryz.underlying52 (by rfl) (by rw [size7]; rfl) ?_)
   | (refine wpList_store_row (by rfl) _ _ _ (by rfl) (w.heap.size + 1 + 1) #[.int .i64 3, .int .i64 y, .complex .f64 0 0, .string ⟨#[]⟩, .int .i64 0, .int .i64 0, .slice none 0 0] (by rfl) (by rfl) 52 ZT F4.out.o (by rw [size7]; rfl) (by rfl) (by simp [Value.oneCell']) ?_; have HE2 := HE.out _ rfl; generalize World.setRow _ _ _ = W5 at HE2 ⊢; clear HE; obtain ⟨e1, e2, e3, e4⟩ := HE2; have E2 := Lib.hid e2; have E3 := Lib.hid e3; have E4 := Lib.hid e4; obtain ⟨z0, z1, z2, z3, z4, z5, z6⟩ := Bk.seven e1; clear e1 e2 e3 e4))
  try rw [Exit.jump_ret]
  exact bodyPost_ret (v := .tuple #[.agg #[.int .i64 3, .int .i64 y, .complex .f64 0 0, .string ⟨#[]⟩, .int .i64 0, .int .i64 0, .slice none 0 0], .bool true]) (by simp [results, Tryz.results41, go_sem, z0, z1, z2, z3, z4, z5, z6]) rfl ⟨_, rfl, ⟨#[.int .i64 3, .int .i64 y, .complex .f64 0 0, .string ⟨#[]⟩, .int .i64 0, .int .i64 0, .slice none 0 0], rfl, (by simp only [T.ds, DVs, DV]; exact ⟨_, _, rfl, rfl, _, _, rfl, rfl, _, _, rfl, rfl, _, _, rfl, rfl, _, _, rfl, rfl, _, _, rfl, rfl, _, _, rfl, rfl, rfl⟩)⟩, E2.out, E3.out, g5⟩
 | bad t =>
  obtain ⟨rfl, g3, g4⟩ := h
  have F3 := Lib.hid (F2.out.only g4 hbl)
  have O3 := Lib.hid (O2.out.trans g4 (fun i hi => .inl hi))
  have R3 := Lib.hid g3
  have F4 : Hid (Fr _ w.heap.size b v #[.int .i64 3, .int .i64 0, .complex .f64 0 0, .string ⟨#[]⟩, .int .i64 0, .int .i64 0, .slice none 0 0]) := Lib.hid (by simpa using F3.out.set 1 (.int .i64 0))
  have O4 := Lib.hid (O3.out.set (p := ⟨w.heap.size + 1 + 1 + 1, 1, none⟩) (.inr (by show w.heap.size ≤ w.heap.size + 1 + 1 + 1; omega)) (.int .i64 0))
  have R4 := Lib.hid (Bk.away R3.out (p := ⟨w.heap.size + 1 + 1 + 1, 1, none⟩) (by show b ≠ w.heap.size + 1 + 1 + 1; omega) (.int .i64 0))
  have r0 := (F3.out).r.cell0 (i := 0) rfl
  have v0 := (F3.out).v.cell0 (i := 0) rfl
  obtain ⟨x0, x1, x2, x3, x4, x5, x6⟩ := Bk.seven (F3.out).t
  have k0 := (F3.out).t.free 0
  have k1 := (F3.out).t.free 1
  have k2 := (F3.out).t.free 2
  have k3 := (F3.out).t.free 3
  have k4 := (F3.out).t.free 4
  have k5 := (F3.out).t.free 5
  have k6 := (F3.out).t.free 6
  clear g3 g4
  go_wp2_with fail
  refine wp_goto (And.intro rfl ?_)
  have HE := Lib.hid (fun W' => Fr.yes (W' := W') ZT F4.out rfl hbl R4.out O4.out)
  go_wp2_with (refine wpList_store_row (by rfl) _ _ _ (by rfl) (w.heap.size + 1 + 1) ZT (by rfl) (by rfl) 52 ZT F4.out.o (by rw [size7]; rfl) (by rfl) one7 ?_; have HE2 := HE.out _ rfl; generalize World.setRow _ _ _ = W5 at HE2 ⊢; clear HE; obtain ⟨e1, e2, e3, -⟩ := HE2; have E2 := Lib.hid e2; have E3 := Lib.hid e3; obtain ⟨z0, z1, z2, z3, z4, z5, z6⟩ := Bk.seven e1; clear e1 e2 e3)
  try rw [Exit.last_ret]
  exact bodyPost_ret (v := .tuple #[.agg ZT, .bool false]) (by simp [results, Tryz.results41, go_sem, z0, z1, z2, z3, z4, z5, z6]) rfl ⟨rfl, E2.out, E3.out⟩
theorem term_k4 (s : ByteArray) (d b p q v : Nat) (w : World) (hv : v + (d + 1) = 64) (hb : Rdb w b s p) (hp : p ≤ s.size) (hs : s.size ≤ 262144) (hk : rOne 9 s p = .ok 4 q) :
 Calls Tryz.prog 41 #[.pointer (some ⟨b, 0, none⟩), .int .i64 v] w fun e w' => RdE b s (.agg ZT) (RD T.ds) (rKind (fun p => rTerm s d p) s 4 q) w e w' := by
 have h64 : (v : Int) < 64 := by omega
 have hbl := Bk.lt hb
 have HO : Hid (Calls Tryz.prog 70 #[.pointer (some ⟨b, 0, none⟩), .int .i64 9] (W4 w b v) fun e w' => RdE b s (.int .i64 0) RI (.ok 4 q) (W4 w b v) e w') := Lib.hid (by rw [← hk]; exact oneOf_any b s p 9 (W4 w b v) (W4.rdb hb v) hp hs)
 have HG := Lib.hid (fun w1 (h : Rdb w1 b s q) (hq : q ≤ s.size) => parts_any b s q w1 h hq hs)
 show Calls Tryz.prog _ _ w fun e w' => RdE b s (.agg ZT) (RD T.ds) ((rParts s q).map (fun x => T.com x.1 x.2)) w e w'
 generalize rParts s q = r at HG ⊢
 go_enter Tryz.func41, Tryz.ntmps41
 go_wp2_with fail
 refine wp_scope_fwd 0 rfl ?_
 go_wp2_with fail
 (with_reducible refine HO.out.mono ?_)
 rintro e w1 ⟨u, rfl, rfl, h3, h4, h5⟩
 have F1 := Lib.hid ((Fr.made w b v).only h4 hbl)
 have O1 := Lib.hid ((W4.only w b v).trans h4 (fun i hi => .inl hi))
 have F2 : Hid (Fr (w1.setCell ⟨w.heap.size + 1 + 1 + 1, 0, none⟩ (.int .i64 4)) w.heap.size b v #[.int .i64 4, .int .i64 0, .complex .f64 0 0, .string ⟨#[]⟩, .int .i64 0, .int .i64 0, .slice none 0 0]) := Lib.hid (by simpa using F1.out.set 0 (.int .i64 4))
 have R2 := Lib.hid (Bk.away h3 (p := ⟨w.heap.size + 1 + 1 + 1, 0, none⟩) (by show b ≠ w.heap.size + 1 + 1 + 1; omega) (.int .i64 4))
 have O2 := Lib.hid (O1.out.set (p := ⟨w.heap.size + 1 + 1 + 1, 0, none⟩) (.inr (by show w.heap.size ≤ w.heap.size + 1 + 1 + 1; omega)) (.int .i64 4))
 have r0 := (F1.out).r.cell0 (i := 0) rfl
 have v0 := (F1.out).v.cell0 (i := 0) rfl
 obtain ⟨x0, x1, x2, x3, x4, x5, x6⟩ := Bk.seven (F1.out).t
 have k0 := (F1.out).t.free 0
 have k1 := (F1.out).t.free 1
 have k2 := (F1.out).t.free 2
 have k3 := (F1.out).t.free 3
 have k4 := (F1.out).t.free 4
 have k5 := (F1.out).t.free 5
 have k6 := (F1.out).t.free 6
 clear h3 h4 HO
 go_wp2_with fail
 clear r0 v0 x0 x1 x2 x3 x4 x5 x6 k0 k1 k2 k3 k4 k5 k6
 (with_reducible refine (HG.out _ R2.out h5).mono ?_)
 intro e w2 h
 cases r with
 | ok y t =>
  obtain ⟨u, rfl, rfl, g3, g4, g5⟩ := h
  have F3 := Lib.hid (F2.out.only g4 hbl)
  have O3 := Lib.hid (O2.out.trans g4 (fun i hi => .inl hi))
  have R3 := Lib.hid g3
  have F4 : Hid (Fr _ w.heap.size b v #[.int .i64 4, .int .i64 0, .complex .f64 (floatOfInt .f64 y.1) (floatOfInt .f64 y.2), .string ⟨#[]⟩, .int .i64 0, .int .i64 0, .slice none 0 0]) := Lib.hid (by simpa using F3.out.set 2 (.complex .f64 (floatOfInt .f64 y.1) (floatOfInt .f64 y.2)))
  have O4 := Lib.hid (O3.out.set (p := ⟨w.heap.size + 1 + 1 + 1, 2, none⟩) (.inr (by show w.heap.size ≤ w.heap.size + 1 + 1 + 1; omega)) (.complex .f64 (floatOfInt .f64 y.1) (floatOfInt .f64 y.2)))
  have R4 := Lib.hid (Bk.away R3.out (p := ⟨w.heap.size + 1 + 1 + 1, 2, none⟩) (by show b ≠ w.heap.size + 1 + 1 + 1; omega) (.complex .f64 (floatOfInt .f64 y.1) (floatOfInt .f64 y.2)))
  have r0 := (F3.out).r.cell0 (i := 0) rfl
  have v0 := (F3.out).v.cell0 (i := 0) rfl
  obtain ⟨x0, x1, x2, x3, x4, x5, x6⟩ := Bk.seven (F3.out).t
  have k0 := (F3.out).t.free 0
  have k1 := (F3.out).t.free 1
  have k2 := (F3.out).t.free 2
  have k3 := (F3.out).t.free 3
  have k4 := (F3.out).t.free 4
  have k5 := (F3.out).t.free 5
  have k6 := (F3.out).t.free 6
  have hcx := store_cx (x := floatOfInt .f64 y.1) (y := floatOfInt .f64 y.2) x2 k2
  clear g3 g4
  have HE := Lib.hid (fun W' => Fr.yes (W' := W') #[.int .i64 4, .int .i64 0, .complex .f64 (floatOfInt .f64 y.1) (floatOfInt .f64 y.2), .string ⟨#[]⟩, .int .i64 0, .int .i64 0, .slice none 0 0] F4.out rfl hbl R4.out O4.out)
  go_wp2_with (first
   | (refine wpList_load_row (by rfl) 52 _ (by rfl) (w.heap.size + 1 + 1 + 1) (by rfl) 52 #[.int .i64 4, .int .i64 0, .complex .f64 (floatOfInt .f64 y.1) (floatOfInt .f64 y.2), .string ⟨#[]⟩, .int .i64 0, .int .i64 0, .slice none 0 0] (0, 0) _ F4.out.t Tryz.underlying52 (by rfl) (by rw [size7]; rfl) ?_)
   | (refine wpList_store_row (by rfl) _ _ _ (by rfl) (w.heap.size + 1 + 1) #[.int .i64 4, .int .i64 0, .complex .f64 (floatOfInt .f64 y.1) (floatOfInt .f64 y.2), .string ⟨#[]⟩, .int .i64 0, .int .i64 0, .slice none 0 0] (by rfl) (by rfl) 52 ZT F4.out.o (by rw [size7]; rfl) (by rfl) (by simp [Value.oneCell']) ?_; have HE2 := HE.out _ rfl; generalize World.setRow _ _ _ = W5 at HE2 ⊢; clear HE; obtain ⟨e1, e2, e3, e4⟩ := HE2; have E2 := Lib.hid e2; have E3 := Lib.hid e3; have E4 := Lib.hid e4; obtain ⟨z0, z1, z2, z3, z4, z5, z6⟩ := Bk.seven e1; clear e1 e2 e3 e4))
  try rw [Exit.jump_ret]
  exact bodyPost_ret (v := .tuple #[.agg #[.int .i64 4, .int .i64 0, .complex .f64 (floatOfInt .f64 y.1) (floatOfInt .f64 y.2), .string ⟨#[]⟩, .int .i64 0, .int .i64 0, .slice none 0 0], .bool true]) (by simp [results, Tryz.results41, go_sem, z0, z1, z2, z3, z4, z5, z6]) rfl ⟨_, rfl, ⟨#[.int .i64 4, .int .i64 0, .complex .f64 (floatOfInt .f64 y.1) (floatOfInt .f64 y.2), .string ⟨#[]⟩, .int .i64 0, .int .i64 0, .slice none 0 0], rfl, (by simp only [T.ds, DVs, DV]; exact ⟨_, _, rfl, rfl, _, _, rfl, rfl, _, _, rfl, rfl, _, _, rfl, rfl, _, _, rfl, rfl, _, _, rfl, rfl, _, _, rfl, rfl, rfl⟩)⟩, E2.out, E3.out, g5⟩
 | bad t =>
  obtain ⟨rfl, g3, g4⟩ := h
  have F3 := Lib.hid (F2.out.only g4 hbl)
  have O3 := Lib.hid (O2.out.trans g4 (fun i hi => .inl hi))
  have R3 := Lib.hid g3
  have F4 : Hid (Fr _ w.heap.size b v #[.int .i64 4, .int .i64 0, .complex .f64 0 0, .string ⟨#[]⟩, .int .i64 0, .int .i64 0, .slice none 0 0]) := Lib.hid (by simpa using F3.out.set 2 (.complex .f64 0 0))
  have O4 := Lib.hid (O3.out.set (p := ⟨w.heap.size + 1 + 1 + 1, 2, none⟩) (.inr (by show w.heap.size ≤ w.heap.size + 1 + 1 + 1; omega)) (.complex .f64 0 0))
  have R4 := Lib.hid (Bk.away R3.out (p := ⟨w.heap.size + 1 + 1 + 1, 2, none⟩) (by show b ≠ w.heap.size + 1 + 1 + 1; omega) (.complex .f64 0 0))
  have r0 := (F3.out).r.cell0 (i := 0) rfl
  have v0 := (F3.out).v.cell0 (i := 0) rfl
  obtain ⟨x0, x1, x2, x3, x4, x5, x6⟩ := Bk.seven (F3.out).t
  have k0 := (F3.out).t.free 0
  have k1 := (F3.out).t.free 1
  have k2 := (F3.out).t.free 2
  have k3 := (F3.out).t.free 3
  have k4 := (F3.out).t.free 4
  have k5 := (F3.out).t.free 5
  have k6 := (F3.out).t.free 6
  have hcx := store_cx (x := 0) (y := 0) x2 k2
  clear g3 g4
  go_wp2_with fail
  refine wp_goto (And.intro rfl ?_)
  have HE := Lib.hid (fun W' => Fr.yes (W' := W') ZT F4.out rfl hbl R4.out O4.out)
  go_wp2_with (refine wpList_store_row (by rfl) _ _ _ (by rfl) (w.heap.size + 1 + 1) ZT (by rfl) (by rfl) 52 ZT F4.out.o (by rw [size7]; rfl) (by rfl) one7 ?_; have HE2 := HE.out _ rfl; generalize World.setRow _ _ _ = W5 at HE2 ⊢; clear HE; obtain ⟨e1, e2, e3, -⟩ := HE2; have E2 := Lib.hid e2; have E3 := Lib.hid e3; obtain ⟨z0, z1, z2, z3, z4, z5, z6⟩ := Bk.seven e1; clear e1 e2 e3)
  try rw [Exit.last_ret]
  exact bodyPost_ret (v := .tuple #[.agg ZT, .bool false]) (by simp [results, Tryz.results41, go_sem, z0, z1, z2, z3, z4, z5, z6]) rfl ⟨rfl, E2.out, E3.out⟩
theorem term_k5 (s : ByteArray) (d b p q v : Nat) (w : World) (hv : v + (d + 1) = 64) (hb : Rdb w b s p) (hp : p ≤ s.size) (hs : s.size ≤ 262144) (hk : rOne 9 s p = .ok 5 q) :
 Calls Tryz.prog 41 #[.pointer (some ⟨b, 0, none⟩), .int .i64 v] w fun e w' => RdE b s (.agg ZT) (RD T.ds) (rKind (fun p => rTerm s d p) s 5 q) w e w' := by
 have h64 : (v : Int) < 64 := by omega
 have hbl := Bk.lt hb
 have HO : Hid (Calls Tryz.prog 70 #[.pointer (some ⟨b, 0, none⟩), .int .i64 9] (W4 w b v) fun e w' => RdE b s (.int .i64 0) RI (.ok 5 q) (W4 w b v) e w') := Lib.hid (by rw [← hk]; exact oneOf_any b s p 9 (W4 w b v) (W4.rdb hb v) hp hs)
 have HG := Lib.hid (fun w1 (h : Rdb w1 b s q) (hq : q ≤ s.size) => name_any b s q w1 h hq hs)
 show Calls Tryz.prog _ _ w fun e w' => RdE b s (.agg ZT) (RD T.ds) ((rName s q).map T.atom) w e w'
 generalize rName s q = r at HG ⊢
 go_enter Tryz.func41, Tryz.ntmps41
 go_wp2_with fail
 refine wp_scope_fwd 0 rfl ?_
 go_wp2_with fail
 (with_reducible refine HO.out.mono ?_)
 rintro e w1 ⟨u, rfl, rfl, h3, h4, h5⟩
 have F1 := Lib.hid ((Fr.made w b v).only h4 hbl)
 have O1 := Lib.hid ((W4.only w b v).trans h4 (fun i hi => .inl hi))
 have F2 : Hid (Fr (w1.setCell ⟨w.heap.size + 1 + 1 + 1, 0, none⟩ (.int .i64 5)) w.heap.size b v #[.int .i64 5, .int .i64 0, .complex .f64 0 0, .string ⟨#[]⟩, .int .i64 0, .int .i64 0, .slice none 0 0]) := Lib.hid (by simpa using F1.out.set 0 (.int .i64 5))
 have R2 := Lib.hid (Bk.away h3 (p := ⟨w.heap.size + 1 + 1 + 1, 0, none⟩) (by show b ≠ w.heap.size + 1 + 1 + 1; omega) (.int .i64 5))
 have O2 := Lib.hid (O1.out.set (p := ⟨w.heap.size + 1 + 1 + 1, 0, none⟩) (.inr (by show w.heap.size ≤ w.heap.size + 1 + 1 + 1; omega)) (.int .i64 5))
 have r0 := (F1.out).r.cell0 (i := 0) rfl
 have v0 := (F1.out).v.cell0 (i := 0) rfl
 obtain ⟨x0, x1, x2, x3, x4, x5, x6⟩ := Bk.seven (F1.out).t
 have k0 := (F1.out).t.free 0
 have k1 := (F1.out).t.free 1
 have k2 := (F1.out).t.free 2
 have k3 := (F1.out).t.free 3
 have k4 := (F1.out).t.free 4
 have k5 := (F1.out).t.free 5
 have k6 := (F1.out).t.free 6
 clear h3 h4 HO
 go_wp2_with fail
 clear r0 v0 x0 x1 x2 x3 x4 x5 x6 k0 k1 k2 k3 k4 k5 k6
 (with_reducible refine (HG.out _ R2.out h5).mono ?_)
 intro e w2 h
 cases r with
 | ok y t =>
  obtain ⟨u, rfl, rfl, g3, g4, g5⟩ := h
  have F3 := Lib.hid (F2.out.only g4 hbl)
  have O3 := Lib.hid (O2.out.trans g4 (fun i hi => .inl hi))
  have R3 := Lib.hid g3
  have F4 : Hid (Fr _ w.heap.size b v #[.int .i64 5, .int .i64 0, .complex .f64 0 0, .string y, .int .i64 0, .int .i64 0, .slice none 0 0]) := Lib.hid (by simpa using F3.out.set 3 (.string y))
  have O4 := Lib.hid (O3.out.set (p := ⟨w.heap.size + 1 + 1 + 1, 3, none⟩) (.inr (by show w.heap.size ≤ w.heap.size + 1 + 1 + 1; omega)) (.string y))
  have R4 := Lib.hid (Bk.away R3.out (p := ⟨w.heap.size + 1 + 1 + 1, 3, none⟩) (by show b ≠ w.heap.size + 1 + 1 + 1; omega) (.string y))
  have r0 := (F3.out).r.cell0 (i := 0) rfl
  have v0 := (F3.out).v.cell0 (i := 0) rfl
  obtain ⟨x0, x1, x2, x3, x4, x5, x6⟩ := Bk.seven (F3.out).t
  have k0 := (F3.out).t.free 0
  have k1 := (F3.out).t.free 1
  have k2 := (F3.out).t.free 2
  have k3 := (F3.out).t.free 3
  have k4 := (F3.out).t.free 4
  have k5 := (F3.out).t.free 5
  have k6 := (F3.out).t.free 6
  clear g3 g4
  have HE := Lib.hid (fun W' => Fr.yes (W' := W') #[.int .i64 5, .int .i64 0, .complex .f64 0 0, .string y, .int .i64 0, .int .i64 0, .slice none 0 0] F4.out rfl hbl R4.out O4.out)
  go_wp2_with (first
   | (refine wpList_load_row (by rfl) 52 _ (by rfl) (w.heap.size + 1 + 1 + 1) (by rfl) 52 #[.int .i64 5, .int .i64 0, .complex .f64 0 0, .string y, .int .i64 0, .int .i64 0, .slice none 0 0] (0, 0) _ F4.out.t Tryz.underlying52 (by rfl) (by rw [size7]; rfl) ?_)
   | (refine wpList_store_row (by rfl) _ _ _ (by rfl) (w.heap.size + 1 + 1) #[.int .i64 5, .int .i64 0, .complex .f64 0 0, .string y, .int .i64 0, .int .i64 0, .slice none 0 0] (by rfl) (by rfl) 52 ZT F4.out.o (by rw [size7]; rfl) (by rfl) (by simp [Value.oneCell']) ?_; have HE2 := HE.out _ rfl; generalize World.setRow _ _ _ = W5 at HE2 ⊢; clear HE; obtain ⟨e1, e2, e3, e4⟩ := HE2; have E2 := Lib.hid e2; have E3 := Lib.hid e3; have E4 := Lib.hid e4; obtain ⟨z0, z1, z2, z3, z4, z5, z6⟩ := Bk.seven e1; clear e1 e2 e3 e4))
  try rw [Exit.jump_ret]
  exact bodyPost_ret (v := .tuple #[.agg #[.int .i64 5, .int .i64 0, .complex .f64 0 0, .string y, .int .i64 0, .int .i64 0, .slice none 0 0], .bool true]) (by simp [results, Tryz.results41, go_sem, z0, z1, z2, z3, z4, z5, z6]) rfl ⟨_, rfl, ⟨#[.int .i64 5, .int .i64 0, .complex .f64 0 0, .string y, .int .i64 0, .int .i64 0, .slice none 0 0], rfl, (by simp only [T.ds, DVs, DV]; exact ⟨_, _, rfl, rfl, _, _, rfl, rfl, _, _, rfl, rfl, _, _, rfl, rfl, _, _, rfl, rfl, _, _, rfl, rfl, _, _, rfl, rfl, rfl⟩)⟩, E2.out, E3.out, g5⟩
 | bad t =>
  obtain ⟨rfl, g3, g4⟩ := h
  have F3 := Lib.hid (F2.out.only g4 hbl)
  have O3 := Lib.hid (O2.out.trans g4 (fun i hi => .inl hi))
  have R3 := Lib.hid g3
  have F4 : Hid (Fr _ w.heap.size b v #[.int .i64 5, .int .i64 0, .complex .f64 0 0, .string ⟨#[]⟩, .int .i64 0, .int .i64 0, .slice none 0 0]) := Lib.hid (by simpa using F3.out.set 3 (.string ⟨#[]⟩))
  have O4 := Lib.hid (O3.out.set (p := ⟨w.heap.size + 1 + 1 + 1, 3, none⟩) (.inr (by show w.heap.size ≤ w.heap.size + 1 + 1 + 1; omega)) (.string ⟨#[]⟩))
  have R4 := Lib.hid (Bk.away R3.out (p := ⟨w.heap.size + 1 + 1 + 1, 3, none⟩) (by show b ≠ w.heap.size + 1 + 1 + 1; omega) (.string ⟨#[]⟩))
  have r0 := (F3.out).r.cell0 (i := 0) rfl
  have v0 := (F3.out).v.cell0 (i := 0) rfl
  obtain ⟨x0, x1, x2, x3, x4, x5, x6⟩ := Bk.seven (F3.out).t
  have k0 := (F3.out).t.free 0
  have k1 := (F3.out).t.free 1
  have k2 := (F3.out).t.free 2
  have k3 := (F3.out).t.free 3
  have k4 := (F3.out).t.free 4
  have k5 := (F3.out).t.free 5
  have k6 := (F3.out).t.free 6
  clear g3 g4
  go_wp2_with fail
  refine wp_goto (And.intro rfl ?_)
  have HE := Lib.hid (fun W' => Fr.yes (W' := W') ZT F4.out rfl hbl R4.out O4.out)
  go_wp2_with (refine wpList_store_row (by rfl) _ _ _ (by rfl) (w.heap.size + 1 + 1) ZT (by rfl) (by rfl) 52 ZT F4.out.o (by rw [size7]; rfl) (by rfl) one7 ?_; have HE2 := HE.out _ rfl; generalize World.setRow _ _ _ = W5 at HE2 ⊢; clear HE; obtain ⟨e1, e2, e3, -⟩ := HE2; have E2 := Lib.hid e2; have E3 := Lib.hid e3; obtain ⟨z0, z1, z2, z3, z4, z5, z6⟩ := Bk.seven e1; clear e1 e2 e3)
  try rw [Exit.last_ret]
  exact bodyPost_ret (v := .tuple #[.agg ZT, .bool false]) (by simp [results, Tryz.results41, go_sem, z0, z1, z2, z3, z4, z5, z6]) rfl ⟨rfl, E2.out, E3.out⟩
theorem term_k6 (s : ByteArray) (d b p q v : Nat) (w : World) (hv : v + (d + 1) = 64) (hb : Rdb w b s p) (hp : p ≤ s.size) (hs : s.size ≤ 262144) (hk : rOne 9 s p = .ok 6 q) :
 Calls Tryz.prog 41 #[.pointer (some ⟨b, 0, none⟩), .int .i64 v] w fun e w' => RdE b s (.agg ZT) (RD T.ds) (rKind (fun p => rTerm s d p) s 6 q) w e w' := by
 have h64 : (v : Int) < 64 := by omega
 have hbl := Bk.lt hb
 have HO : Hid (Calls Tryz.prog 70 #[.pointer (some ⟨b, 0, none⟩), .int .i64 9] (W4 w b v) fun e w' => RdE b s (.int .i64 0) RI (.ok 6 q) (W4 w b v) e w') := Lib.hid (by rw [← hk]; exact oneOf_any b s p 9 (W4 w b v) (W4.rdb hb v) hp hs)
 have HG := Lib.hid (fun w1 (h : Rdb w1 b s q) (hq : q ≤ s.size) => pid_any b s q w1 h hq hs)
 show Calls Tryz.prog _ _ w fun e w' => RdE b s (.agg ZT) (RD T.ds) ((rPid s q).map (fun x => T.pid (x.1 : Int) (x.2 : Int))) w e w'
 generalize rPid s q = r at HG ⊢
 go_enter Tryz.func41, Tryz.ntmps41
 go_wp2_with fail
 refine wp_scope_fwd 0 rfl ?_
 go_wp2_with fail
 (with_reducible refine HO.out.mono ?_)
 rintro e w1 ⟨u, rfl, rfl, h3, h4, h5⟩
 have F1 := Lib.hid ((Fr.made w b v).only h4 hbl)
 have O1 := Lib.hid ((W4.only w b v).trans h4 (fun i hi => .inl hi))
 have F2 : Hid (Fr (w1.setCell ⟨w.heap.size + 1 + 1 + 1, 0, none⟩ (.int .i64 6)) w.heap.size b v #[.int .i64 6, .int .i64 0, .complex .f64 0 0, .string ⟨#[]⟩, .int .i64 0, .int .i64 0, .slice none 0 0]) := Lib.hid (by simpa using F1.out.set 0 (.int .i64 6))
 have R2 := Lib.hid (Bk.away h3 (p := ⟨w.heap.size + 1 + 1 + 1, 0, none⟩) (by show b ≠ w.heap.size + 1 + 1 + 1; omega) (.int .i64 6))
 have O2 := Lib.hid (O1.out.set (p := ⟨w.heap.size + 1 + 1 + 1, 0, none⟩) (.inr (by show w.heap.size ≤ w.heap.size + 1 + 1 + 1; omega)) (.int .i64 6))
 have r0 := (F1.out).r.cell0 (i := 0) rfl
 have v0 := (F1.out).v.cell0 (i := 0) rfl
 obtain ⟨x0, x1, x2, x3, x4, x5, x6⟩ := Bk.seven (F1.out).t
 have k0 := (F1.out).t.free 0
 have k1 := (F1.out).t.free 1
 have k2 := (F1.out).t.free 2
 have k3 := (F1.out).t.free 3
 have k4 := (F1.out).t.free 4
 have k5 := (F1.out).t.free 5
 have k6 := (F1.out).t.free 6
 clear h3 h4 HO
 go_wp2_with fail
 clear r0 v0 x0 x1 x2 x3 x4 x5 x6 k0 k1 k2 k3 k4 k5 k6
 (with_reducible refine (HG.out _ R2.out h5).mono ?_)
 intro e w2 h
 cases r with
 | ok y t =>
  obtain ⟨u, rfl, rfl, g3, g4, g5⟩ := h
  have F3 := Lib.hid (F2.out.only g4 hbl)
  have O3 := Lib.hid (O2.out.trans g4 (fun i hi => .inl hi))
  have R3 := Lib.hid g3
  have F4 : Hid (Fr _ w.heap.size b v #[.int .i64 6, .int .i64 0, .complex .f64 0 0, .string ⟨#[]⟩, .int .i64 y.1, .int .i64 0, .slice none 0 0]) := Lib.hid (by simpa using F3.out.set 4 (.int .i64 y.1))
  have O4 := Lib.hid (O3.out.set (p := ⟨w.heap.size + 1 + 1 + 1, 4, none⟩) (.inr (by show w.heap.size ≤ w.heap.size + 1 + 1 + 1; omega)) (.int .i64 y.1))
  have R4 := Lib.hid (Bk.away R3.out (p := ⟨w.heap.size + 1 + 1 + 1, 4, none⟩) (by show b ≠ w.heap.size + 1 + 1 + 1; omega) (.int .i64 y.1))
  have F5 : Hid (Fr _ w.heap.size b v #[.int .i64 6, .int .i64 0, .complex .f64 0 0, .string ⟨#[]⟩, .int .i64 y.1, .int .i64 y.2, .slice none 0 0]) := Lib.hid (by simpa using F4.out.set 5 (.int .i64 y.2))
  have O5 := Lib.hid (O4.out.set (p := ⟨w.heap.size + 1 + 1 + 1, 5, none⟩) (.inr (by show w.heap.size ≤ w.heap.size + 1 + 1 + 1; omega)) (.int .i64 y.2))
  have R5 := Lib.hid (Bk.away R4.out (p := ⟨w.heap.size + 1 + 1 + 1, 5, none⟩) (by show b ≠ w.heap.size + 1 + 1 + 1; omega) (.int .i64 y.2))
  have r0 := (F3.out).r.cell0 (i := 0) rfl
  have v0 := (F3.out).v.cell0 (i := 0) rfl
  obtain ⟨x0, x1, x2, x3, x4, x5, x6⟩ := Bk.seven (F3.out).t
  have k0 := (F3.out).t.free 0
  have k1 := (F3.out).t.free 1
  have k2 := (F3.out).t.free 2
  have k3 := (F3.out).t.free 3
  have k4 := (F3.out).t.free 4
  have k5 := (F3.out).t.free 5
  have k6 := (F3.out).t.free 6
  clear g3 g4
  have HE := Lib.hid (fun W' => Fr.yes (W' := W') #[.int .i64 6, .int .i64 0, .complex .f64 0 0, .string ⟨#[]⟩, .int .i64 y.1, .int .i64 y.2, .slice none 0 0] F5.out rfl hbl R5.out O5.out)
  go_wp2_with (first
   | (refine wpList_load_row (by rfl) 52 _ (by rfl) (w.heap.size + 1 + 1 + 1) (by rfl) 52 #[.int .i64 6, .int .i64 0, .complex .f64 0 0, .string ⟨#[]⟩, .int .i64 y.1, .int .i64 y.2, .slice none 0 0] (0, 0) _ F5.out.t Tryz.underlying52 (by rfl) (by rw [size7]; rfl) ?_)
   | (refine wpList_store_row (by rfl) _ _ _ (by rfl) (w.heap.size + 1 + 1) #[.int .i64 6, .int .i64 0, .complex .f64 0 0, .string ⟨#[]⟩, .int .i64 y.1, .int .i64 y.2, .slice none 0 0] (by rfl) (by rfl) 52 ZT F5.out.o (by rw [size7]; rfl) (by rfl) (by simp [Value.oneCell']) ?_; have HE2 := HE.out _ rfl; generalize World.setRow _ _ _ = W5 at HE2 ⊢; clear HE; obtain ⟨e1, e2, e3, e4⟩ := HE2; have E2 := Lib.hid e2; have E3 := Lib.hid e3; have E4 := Lib.hid e4; obtain ⟨z0, z1, z2, z3, z4, z5, z6⟩ := Bk.seven e1; clear e1 e2 e3 e4))
  try rw [Exit.jump_ret]
  exact bodyPost_ret (v := .tuple #[.agg #[.int .i64 6, .int .i64 0, .complex .f64 0 0, .string ⟨#[]⟩, .int .i64 y.1, .int .i64 y.2, .slice none 0 0], .bool true]) (by simp [results, Tryz.results41, go_sem, z0, z1, z2, z3, z4, z5, z6]) rfl ⟨_, rfl, ⟨#[.int .i64 6, .int .i64 0, .complex .f64 0 0, .string ⟨#[]⟩, .int .i64 y.1, .int .i64 y.2, .slice none 0 0], rfl, (by simp only [T.ds, DVs, DV]; exact ⟨_, _, rfl, rfl, _, _, rfl, rfl, _, _, rfl, rfl, _, _, rfl, rfl, _, _, rfl, rfl, _, _, rfl, rfl, _, _, rfl, rfl, rfl⟩)⟩, E2.out, E3.out, g5⟩
 | bad t =>
  obtain ⟨rfl, g3, g4⟩ := h
  have F3 := Lib.hid (F2.out.only g4 hbl)
  have O3 := Lib.hid (O2.out.trans g4 (fun i hi => .inl hi))
  have R3 := Lib.hid g3
  have F4 : Hid (Fr _ w.heap.size b v #[.int .i64 6, .int .i64 0, .complex .f64 0 0, .string ⟨#[]⟩, .int .i64 0, .int .i64 0, .slice none 0 0]) := Lib.hid (by simpa using F3.out.set 4 (.int .i64 0))
  have O4 := Lib.hid (O3.out.set (p := ⟨w.heap.size + 1 + 1 + 1, 4, none⟩) (.inr (by show w.heap.size ≤ w.heap.size + 1 + 1 + 1; omega)) (.int .i64 0))
  have R4 := Lib.hid (Bk.away R3.out (p := ⟨w.heap.size + 1 + 1 + 1, 4, none⟩) (by show b ≠ w.heap.size + 1 + 1 + 1; omega) (.int .i64 0))
  have F5 : Hid (Fr _ w.heap.size b v #[.int .i64 6, .int .i64 0, .complex .f64 0 0, .string ⟨#[]⟩, .int .i64 0, .int .i64 0, .slice none 0 0]) := Lib.hid (by simpa using F4.out.set 5 (.int .i64 0))
  have O5 := Lib.hid (O4.out.set (p := ⟨w.heap.size + 1 + 1 + 1, 5, none⟩) (.inr (by show w.heap.size ≤ w.heap.size + 1 + 1 + 1; omega)) (.int .i64 0))
  have R5 := Lib.hid (Bk.away R4.out (p := ⟨w.heap.size + 1 + 1 + 1, 5, none⟩) (by show b ≠ w.heap.size + 1 + 1 + 1; omega) (.int .i64 0))
  have r0 := (F3.out).r.cell0 (i := 0) rfl
  have v0 := (F3.out).v.cell0 (i := 0) rfl
  obtain ⟨x0, x1, x2, x3, x4, x5, x6⟩ := Bk.seven (F3.out).t
  have k0 := (F3.out).t.free 0
  have k1 := (F3.out).t.free 1
  have k2 := (F3.out).t.free 2
  have k3 := (F3.out).t.free 3
  have k4 := (F3.out).t.free 4
  have k5 := (F3.out).t.free 5
  have k6 := (F3.out).t.free 6
  clear g3 g4
  go_wp2_with fail
  refine wp_goto (And.intro rfl ?_)
  have HE := Lib.hid (fun W' => Fr.yes (W' := W') ZT F5.out rfl hbl R5.out O5.out)
  go_wp2_with (refine wpList_store_row (by rfl) _ _ _ (by rfl) (w.heap.size + 1 + 1) ZT (by rfl) (by rfl) 52 ZT F5.out.o (by rw [size7]; rfl) (by rfl) one7 ?_; have HE2 := HE.out _ rfl; generalize World.setRow _ _ _ = W5 at HE2 ⊢; clear HE; obtain ⟨e1, e2, e3, -⟩ := HE2; have E2 := Lib.hid e2; have E3 := Lib.hid e3; obtain ⟨z0, z1, z2, z3, z4, z5, z6⟩ := Bk.seven e1; clear e1 e2 e3)
  try rw [Exit.last_ret]
  exact bodyPost_ret (v := .tuple #[.agg ZT, .bool false]) (by simp [results, Tryz.results41, go_sem, z0, z1, z2, z3, z4, z5, z6]) rfl ⟨rfl, E2.out, E3.out⟩
theorem term_k7 (s : ByteArray) (d b p q v : Nat) (w : World) (hv : v + (d + 1) = 64) (hb : Rdb w b s p) (hp : p ≤ s.size) (hs : s.size ≤ 262144) (hk : rOne 9 s p = .ok 7 q) :
 Calls Tryz.prog 41 #[.pointer (some ⟨b, 0, none⟩), .int .i64 v] w fun e w' => RdE b s (.agg ZT) (RD T.ds) (rKind (fun p => rTerm s d p) s 7 q) w e w' := by
 have h64 : (v : Int) < 64 := by omega
 have hbl := Bk.lt hb
 have HO : Hid (Calls Tryz.prog 70 #[.pointer (some ⟨b, 0, none⟩), .int .i64 9] (W4 w b v) fun e w' => RdE b s (.int .i64 0) RI (.ok 7 q) (W4 w b v) e w') := Lib.hid (by rw [← hk]; exact oneOf_any b s p 9 (W4 w b v) (W4.rdb hb v) hp hs)
 have HG := Lib.hid (fun w1 (h : Rdb w1 b s q) (hq : q ≤ s.size) => count_rd b s q w1 h hq hs)
 show Calls Tryz.prog _ _ w fun e w' => RdE b s (.agg ZT) (RD T.ds) ((rCnt s q).map (fun (n : Nat) => T.ref (n : Int))) w e w'
 generalize rCnt s q = r at HG ⊢
 go_enter Tryz.func41, Tryz.ntmps41
 go_wp2_with fail
 refine wp_scope_fwd 0 rfl ?_
 go_wp2_with fail
 (with_reducible refine HO.out.mono ?_)
 rintro e w1 ⟨u, rfl, rfl, h3, h4, h5⟩
 have F1 := Lib.hid ((Fr.made w b v).only h4 hbl)
 have O1 := Lib.hid ((W4.only w b v).trans h4 (fun i hi => .inl hi))
 have F2 : Hid (Fr (w1.setCell ⟨w.heap.size + 1 + 1 + 1, 0, none⟩ (.int .i64 7)) w.heap.size b v #[.int .i64 7, .int .i64 0, .complex .f64 0 0, .string ⟨#[]⟩, .int .i64 0, .int .i64 0, .slice none 0 0]) := Lib.hid (by simpa using F1.out.set 0 (.int .i64 7))
 have R2 := Lib.hid (Bk.away h3 (p := ⟨w.heap.size + 1 + 1 + 1, 0, none⟩) (by show b ≠ w.heap.size + 1 + 1 + 1; omega) (.int .i64 7))
 have O2 := Lib.hid (O1.out.set (p := ⟨w.heap.size + 1 + 1 + 1, 0, none⟩) (.inr (by show w.heap.size ≤ w.heap.size + 1 + 1 + 1; omega)) (.int .i64 7))
 have r0 := (F1.out).r.cell0 (i := 0) rfl
 have v0 := (F1.out).v.cell0 (i := 0) rfl
 obtain ⟨x0, x1, x2, x3, x4, x5, x6⟩ := Bk.seven (F1.out).t
 have k0 := (F1.out).t.free 0
 have k1 := (F1.out).t.free 1
 have k2 := (F1.out).t.free 2
 have k3 := (F1.out).t.free 3
 have k4 := (F1.out).t.free 4
 have k5 := (F1.out).t.free 5
 have k6 := (F1.out).t.free 6
 clear h3 h4 HO
 go_wp2_with fail
 clear r0 v0 x0 x1 x2 x3 x4 x5 x6 k0 k1 k2 k3 k4 k5 k6
 (with_reducible refine (HG.out _ R2.out h5).mono ?_)
 intro e w2 h
 cases r with
 | ok y t =>
  obtain ⟨u, rfl, rfl, g3, g4, g5⟩ := h
  have F3 := Lib.hid (F2.out.only g4 hbl)
  have O3 := Lib.hid (O2.out.trans g4 (fun i hi => .inl hi))
  have R3 := Lib.hid g3
  have F4 : Hid (Fr _ w.heap.size b v #[.int .i64 7, .int .i64 y, .complex .f64 0 0, .string ⟨#[]⟩, .int .i64 0, .int .i64 0, .slice none 0 0]) := Lib.hid (by simpa using F3.out.set 1 (.int .i64 y))
  have O4 := Lib.hid (O3.out.set (p := ⟨w.heap.size + 1 + 1 + 1, 1, none⟩) (.inr (by show w.heap.size ≤ w.heap.size + 1 + 1 + 1; omega)) (.int .i64 y))
  have R4 := Lib.hid (Bk.away R3.out (p := ⟨w.heap.size + 1 + 1 + 1, 1, none⟩) (by show b ≠ w.heap.size + 1 + 1 + 1; omega) (.int .i64 y))
  have r0 := (F3.out).r.cell0 (i := 0) rfl
  have v0 := (F3.out).v.cell0 (i := 0) rfl
  obtain ⟨x0, x1, x2, x3, x4, x5, x6⟩ := Bk.seven (F3.out).t
  have k0 := (F3.out).t.free 0
  have k1 := (F3.out).t.free 1
  have k2 := (F3.out).t.free 2
  have k3 := (F3.out).t.free 3
  have k4 := (F3.out).t.free 4
  have k5 := (F3.out).t.free 5
  have k6 := (F3.out).t.free 6
  clear g3 g4
  have HE := Lib.hid (fun W' => Fr.yes (W' := W') #[.int .i64 7, .int .i64 y, .complex .f64 0 0, .string ⟨#[]⟩, .int .i64 0, .int .i64 0, .slice none 0 0] F4.out rfl hbl R4.out O4.out)
  go_wp2_with (first
   | (refine wpList_load_row (by rfl) 52 _ (by rfl) (w.heap.size + 1 + 1 + 1) (by rfl) 52 #[.int .i64 7, .int .i64 y, .complex .f64 0 0, .string ⟨#[]⟩, .int .i64 0, .int .i64 0, .slice none 0 0] (0, 0) _ F4.out.t Tryz.underlying52 (by rfl) (by rw [size7]; rfl) ?_)
   | (refine wpList_store_row (by rfl) _ _ _ (by rfl) (w.heap.size + 1 + 1) #[.int .i64 7, .int .i64 y, .complex .f64 0 0, .string ⟨#[]⟩, .int .i64 0, .int .i64 0, .slice none 0 0] (by rfl) (by rfl) 52 ZT F4.out.o (by rw [size7]; rfl) (by rfl) (by simp [Value.oneCell']) ?_; have HE2 := HE.out _ rfl; generalize World.setRow _ _ _ = W5 at HE2 ⊢; clear HE; obtain ⟨e1, e2, e3, e4⟩ := HE2; have E2 := Lib.hid e2; have E3 := Lib.hid e3; have E4 := Lib.hid e4; obtain ⟨z0, z1, z2, z3, z4, z5, z6⟩ := Bk.seven e1; clear e1 e2 e3 e4))
  try rw [Exit.jump_ret]
  exact bodyPost_ret (v := .tuple #[.agg #[.int .i64 7, .int .i64 y, .complex .f64 0 0, .string ⟨#[]⟩, .int .i64 0, .int .i64 0, .slice none 0 0], .bool true]) (by simp [results, Tryz.results41, go_sem, z0, z1, z2, z3, z4, z5, z6]) rfl ⟨_, rfl, ⟨#[.int .i64 7, .int .i64 y, .complex .f64 0 0, .string ⟨#[]⟩, .int .i64 0, .int .i64 0, .slice none 0 0], rfl, (by simp only [T.ds, DVs, DV]; exact ⟨_, _, rfl, rfl, _, _, rfl, rfl, _, _, rfl, rfl, _, _, rfl, rfl, _, _, rfl, rfl, _, _, rfl, rfl, _, _, rfl, rfl, rfl⟩)⟩, E2.out, E3.out, g5⟩
 | bad t =>
  obtain ⟨rfl, g3, g4⟩ := h
  have F3 := Lib.hid (F2.out.only g4 hbl)
  have O3 := Lib.hid (O2.out.trans g4 (fun i hi => .inl hi))
  have R3 := Lib.hid g3
  have F4 : Hid (Fr _ w.heap.size b v #[.int .i64 7, .int .i64 0, .complex .f64 0 0, .string ⟨#[]⟩, .int .i64 0, .int .i64 0, .slice none 0 0]) := Lib.hid (by simpa using F3.out.set 1 (.int .i64 0))
  have O4 := Lib.hid (O3.out.set (p := ⟨w.heap.size + 1 + 1 + 1, 1, none⟩) (.inr (by show w.heap.size ≤ w.heap.size + 1 + 1 + 1; omega)) (.int .i64 0))
  have R4 := Lib.hid (Bk.away R3.out (p := ⟨w.heap.size + 1 + 1 + 1, 1, none⟩) (by show b ≠ w.heap.size + 1 + 1 + 1; omega) (.int .i64 0))
  have r0 := (F3.out).r.cell0 (i := 0) rfl
  have v0 := (F3.out).v.cell0 (i := 0) rfl
  obtain ⟨x0, x1, x2, x3, x4, x5, x6⟩ := Bk.seven (F3.out).t
  have k0 := (F3.out).t.free 0
  have k1 := (F3.out).t.free 1
  have k2 := (F3.out).t.free 2
  have k3 := (F3.out).t.free 3
  have k4 := (F3.out).t.free 4
  have k5 := (F3.out).t.free 5
  have k6 := (F3.out).t.free 6
  clear g3 g4
  go_wp2_with fail
  refine wp_goto (And.intro rfl ?_)
  have HE := Lib.hid (fun W' => Fr.yes (W' := W') ZT F4.out rfl hbl R4.out O4.out)
  go_wp2_with (refine wpList_store_row (by rfl) _ _ _ (by rfl) (w.heap.size + 1 + 1) ZT (by rfl) (by rfl) 52 ZT F4.out.o (by rw [size7]; rfl) (by rfl) one7 ?_; have HE2 := HE.out _ rfl; generalize World.setRow _ _ _ = W5 at HE2 ⊢; clear HE; obtain ⟨e1, e2, e3, -⟩ := HE2; have E2 := Lib.hid e2; have E3 := Lib.hid e3; obtain ⟨z0, z1, z2, z3, z4, z5, z6⟩ := Bk.seven e1; clear e1 e2 e3)
  try rw [Exit.last_ret]
  exact bodyPost_ret (v := .tuple #[.agg ZT, .bool false]) (by simp [results, Tryz.results41, go_sem, z0, z1, z2, z3, z4, z5, z6]) rfl ⟨rfl, E2.out, E3.out⟩
end Go.Proofs.YtcdefnbehlcgeaaGreatDoor
