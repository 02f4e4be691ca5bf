/- The law's does: a call on both sides. -/
import Derived.Test.YtkodblhompphjaaVi
import Derived.Test.YtkodblhompphjaaVj
namespace Go.Proofs.Ytkodblhompphjaa
open Go.RowKit
set_option maxRecDepth 20000

/-- The program's ties, what TiesDoes does not ask. -/
structure TiesMore (R : TiesRep) : Prop where
  demon : ∀ {w b F l} (r : Int), R.rep w b F l → Calls Try.prog 25 #[ptB b, .int .i64 r] w fun e w' => e = .returned (.int .i64 (demF l r).2) ∧ ∃ F', R.rep w' b F' (demF l r).1 ∧ (∀ g ∈ F', g ∈ F ∨ w.heap.size ≤ g) ∧ Only F w w'
  copy : ∀ {w b F l}, R.rep w b F l → Calls Try.prog 11 #[ptB b] w fun e w' => ∃ b' F', e = .returned (ptB b') ∧ R.rep w' b' F' l ∧ (∀ g ∈ F', w.heap.size ≤ g) ∧ Only [] w w'
/-- What does answers: the document's ties behind it, and that both sides agree. -/
def DoesE (R : TiesRep) (w : World) (b : Nat) (F : List Nat) (u : Value) (xs ys : List Te) (e : Ending) (w' : World) : Prop :=
  ∃ v F', e = .returned (.tuple #[.agg (tiC true v), .bool true]) ∧ R.rep w' b F' ys ∧ LiesT w' w.heap.size v u xs ys ∧ (∀ g ∈ F', g ∈ F ∨ w.heap.size ≤ g) ∧ (∀ g, v.ownBlock = some g → v = u ∨ g ∉ F') ∧ Only F w w'
theorem LiesT.slice {w : World} {n m c : Nat} {v : Value} {A : Option Addr} {xs ys : List Te} (h : LiesT w n v (.slice A m c) xs ys) : ∃ A' m' c', v = .slice A' m' c' := by
  rcases h with ⟨h, -⟩ | h
  · exact ⟨_, _, _, h⟩
  · obtain ⟨A', c', e, -⟩ := h.form
    exact ⟨_, _, _, e⟩
/-- Behind the document's row the program's ties do something. -/
theorem LiesT.turn {w w' : World} {n : Nat} {v u : Value} {xs ys : List Te} (h : LiesT w n v u xs ys) {F : List Nat} (hF : ∀ g ∈ F, g < n) (o : Only F w w') : LiesT w' n v u xs ys := by
  rcases h with h | h
  · exact .inl h
  · exact .inr (h.only o fun g hg hm => by have := (h.block hg).1; have := hF g hm; omega)
theorem LiesT.only {w w' : World} {n : Nat} {v u : Value} {xs ys : List Te} {S : List Nat} (h : LiesT w n v u xs ys) (o : Only S w w') (hS : ∀ g, v.ownBlock = some g → n ≤ g → g ∉ S) : LiesT w' n v u xs ys := by
  rcases h with h | h
  · exact .inl h
  · exact .inr (h.only o fun g hg => hS g hg (h.block hg).1)
theorem LiesT.low {w : World} {n n' : Nat} {v u : Value} {xs ys : List Te} (h : LiesT w n v u xs ys) (hn : n' ≤ n) : LiesT w n' v u xs ys := by
  rcases h with h | h
  · exact .inl h
  · exact .inr (h.low hn)
theorem LiesT.lt {w : World} {n : Nat} {v u : Value} {xs ys : List Te} (h : LiesT w n v u xs ys) : ∀ g, v.ownBlock = some g → v = u ∨ (n ≤ g ∧ g < w.heap.size) := by
  intro g hg
  rcases h with h | h
  · exact .inl h.1
  · exact .inr (h.block hg)
set_option maxHeartbeats 16000000 in
theorem does_1 (R : TiesRep) (K : TiesDoes R) (_M : TiesMore R) {w : World} {b : Nat} {F : List Nat} {xs : List Te} (hr : R.rep w b F xs) (A : Option Addr) (cap : Nat) (h : RdS KT w A xs) (o : TOp) (hk : o.kd = 1) :
    Calls Try.prog 9 #[ptB b, .agg (tiC true (.slice A xs.length cap)), .agg o.cs] w (DoesE R w b F (.slice A xs.length cap) xs (linkF xs ⟨o.an, o.ag⟩ ⟨o.bn, o.bg⟩).1) := by
  obtain ⟨kd, rf, an, ag, bn, bg⟩ := o
  dsimp only at hk
  subst hk
  have hxl : xs.length * 40 + 4096 ≤ 140737488355328 := by have := (K.may hr).2; omega
  obtain ⟨w0, e0⟩ : ∃ w0, w0 = ((w.alloc (.cells (tiC true (.slice A xs.length cap)) tyTi)).alloc (.cells (TOp.mk 1 rf an ag bn bg).cs 34)).alloc (.cells (tiC false (.slice none 0 0)) tyTi) := ⟨_, rfl⟩
  have o0 : Only [] w w0 := by rw [e0]; exact (((Only.refl [] w).alloc _).alloc _).alloc _
  have BT := Lib.hid (show Bk w0 w.heap.size tyTi (tiC true (.slice A xs.length cap)) from by rw [e0]; exact ((Bk.made w _ _).alloc _).alloc _)
  have BO := Lib.hid (show Bk w0 (w.heap.size + 1) 34 (TOp.mk 1 rf an ag bn bg).cs from by rw [e0]; exact (Bk.newAt (by simp)).alloc _)
  have BR := Lib.hid (show Bk w0 (w.heap.size + 1 + 1) tyTi (tiC false (.slice none 0 0)) from by rw [e0]; exact Bk.newAt (by simp))
  have H0 := Lib.hid (h.only o0 (by simp))
  have R0 := Lib.hid (R.only hr o0 (by simp))
  have FL := Lib.hid (R.lt hr)
  have O0 := Lib.hid o0
  have LW := Lib.hid (show w.heap.size + 3 ≤ w0.heap.size from by rw [e0]; simp)
  clear h hr o0
  go_enter Try.func9, Try.ntmps9
  go_upto_region 1 with fail
  rw [← e0]
  clear e0
  have s0 := BO.out.cell0 (i := 0) (v := .int .i64 1) rfl
  have s1 := BO.out.cell0 (i := 1) (v := .int .i64 rf) rfl
  have s2 := BO.out.cell0 (i := 2) (v := .int .i64 an) rfl
  have s3 := BO.out.cell0 (i := 3) (v := .int .i64 ag) rfl
  have s4 := BO.out.cell0 (i := 4) (v := .int .i64 bn) rfl
  have s5 := BO.out.cell0 (i := 5) (v := .int .i64 bg) rfl
  have t0 := BT.out.cell0 (i := 0) (v := .bool true) rfl
  have t1 := BT.out.cell0 (i := 1) (v := .slice A xs.length cap) rfl
  have K1 := Lib.hid (rlinkL_any A xs cap ⟨an, ag⟩ ⟨bn, bg⟩ w0 H0.out hxl)
  go_wp2_with fail
  (with_reducible refine K1.out.mono ?_)
  rintro e w1 ⟨v, rfl, hl1, o1⟩
  obtain ⟨Av, nv, cv, rfl⟩ := hl1.slice
  obtain ⟨ys, er, hF⟩ : ∃ ys er, linkF xs ⟨an, ag⟩ ⟨bn, bg⟩ = (ys, er) := ⟨_, _, rfl⟩
  rw [hF] at hl1
  have HF := Lib.hid hF
  have o12 : Only [] w1 (w1.alloc (.cells (tiC true (.slice Av nv cv)) tyTi)) := (Only.refl [] w1).alloc _
  have o2 := o1.trans o12 (by simp)
  have LW1 := Lib.hid (Nat.le_trans LW.out o1.size)
  have B2 := Lib.hid (BO.out.only o2 (by simp))
  have R2 := Lib.hid (BR.out.only o2 (by simp))
  have V2 := Lib.hid (Bk.made w1 tyTi (tiC true (.slice Av nv cv)))
  have P2 := Lib.hid (R.only R0.out o2 (by simp))
  have HL2 := Lib.hid (hl1.only o12 (by simp))
  have S12 := Lib.hid o12.size
  have LT2 := Lib.hid (fun g hg => hl1.lt g hg)
  have O2 := Lib.hid (O0.out.trans o2 (by simp))
  clear s0 s1 s2 s3 s4 s5 t0 t1 K1 hl1 hF o1 o2 o12
  go_upto_region 4 with fail
  rw [HF.out]
  generalize hw2 : w1.alloc (.cells (tiC true (.slice Av nv cv)) tyTi) = w2 at *
  have HCS := Lib.hid (show ∀ W' : World, Only ((w.heap.size + 1 + 1) :: F) w2 W' → (W'.cell? ⟨w.heap.size + 1, 1, none⟩ = some (.int .i64 rf) ∧ (W'.cell? ⟨w.heap.size + 1, 2, none⟩ = some (.int .i64 an) ∧ W'.cell? ⟨w.heap.size + 1, 3, none⟩ = some (.int .i64 ag)) ∧ (W'.cell? ⟨w.heap.size + 1, 4, none⟩ = some (.int .i64 bn) ∧ W'.cell? ⟨w.heap.size + 1, 5, none⟩ = some (.int .i64 bg))) ∧ W'.cell? ⟨w1.heap.size, 0, none⟩ = some (.bool true) ∧ W'.cell? ⟨w1.heap.size, 1, none⟩ = some (.slice Av nv cv) from fun W' oz => by
    have h1 : w.heap.size + 1 ∉ (w.heap.size + 1 + 1) :: F := fun hm => by
      rcases List.mem_cons.1 hm with hm | hm
      · omega
      · have := FL.out _ hm; omega
    have h2 : w1.heap.size ∉ (w.heap.size + 1 + 1) :: F := fun hm => by
      have h3 := LW1.out
      rcases List.mem_cons.1 hm with hm | hm
      · omega
      · have := FL.out _ hm; omega
    have b1 := B2.out.only oz h1
    have b2 := V2.out.only oz h2
    exact ⟨⟨b1.cell0 rfl, ⟨b1.cell0 rfl, b1.cell0 rfl⟩, b1.cell0 rfl, b1.cell0 rfl⟩, b2.cell0 rfl, b2.cell0 rfl⟩)
  have KW : Hid (∀ W', Only [] w2 W' → Calls Try.prog 16 #[ptB b, .agg (⟨an, ag⟩ : Pd).cs, .agg (⟨bn, bg⟩ : Pd).cs] W' fun e w' => e = .returned (.int .i64 er) ∧ ∃ F', R.rep w' b F' ys ∧ (∀ g ∈ F', g ∈ F ∨ w2.heap.size ≤ g) ∧ Only F w2 w') := Lib.hid (fun W' oz => by
    have := K.link ⟨an, ag⟩ ⟨bn, bg⟩ (R.only P2.out oz (by simp))
    rw [HF.out] at this
    exact this.mono fun e w' ⟨he, F', h1, h2, h3⟩ => ⟨he, F', h1, fun g hg => (h2 g hg).imp id (fun h => Nat.le_trans oz.size h), Only.trans (oz.more (by simp)) h3 (fun i hi => .inl hi)⟩)
  have q1 := HCS.out w2 (Only.refl _ _)
  have b1d := HCS.out w2.drew ((Only.refl _ w2).drew)
  have hE : (er == er) = true := beq_self_eq_true er
  clear hw2
  go_region_held3 (fun W' => (W'.cell? ⟨w.heap.size + 1, 1, none⟩ = some (.int .i64 rf) ∧ (W'.cell? ⟨w.heap.size + 1, 2, none⟩ = some (.int .i64 an) ∧ W'.cell? ⟨w.heap.size + 1, 3, none⟩ = some (.int .i64 ag)) ∧ (W'.cell? ⟨w.heap.size + 1, 4, none⟩ = some (.int .i64 bn) ∧ W'.cell? ⟨w.heap.size + 1, 5, none⟩ = some (.int .i64 bg))) ∧ W'.cell? ⟨w1.heap.size, 0, none⟩ = some (.bool true) ∧ W'.cell? ⟨w1.heap.size, 1, none⟩ = some (.slice Av nv cv)) (with_reducible (first | exact q1 | exact b1d | exact b5 | exact b6))
    (first
      | (go_at_call 16; (with_reducible refine (KW.out _ (by repeat (with_reducible (first | exact Only.refl _ _ | refine Only.drew ?_ | refine Only.drewN ?_ _)))).mono ?_); rintro e w5 ⟨rfl, F', h5, hF5, o5⟩; have H5 := Lib.hid h5; have HF5 := Lib.hid hF5; have O5 := Lib.hid o5; have o5c : Only ((w.heap.size + 1 + 1) :: F) w2 w5 := (o5.more (fun i hi => .inl (List.mem_cons_of_mem _ hi))); have b5 := HCS.out w5 o5c; have hnr : w.heap.size + 1 + 1 ∉ F := (fun hm => by have := FL.out _ hm; omega); have R5 := R2.out.only o5 hnr; have z0 := R5.cell0 (i := 0) (v := .bool false) rfl; have z1 := R5.cell0 (i := 1) (v := .slice none 0 0) rfl; have zf := R5.free; have b6 := HCS.out ((w5.setCell ⟨w.heap.size + 1 + 1, 0, none⟩ (.bool true)).setCell ⟨w.heap.size + 1 + 1, 1, none⟩ (.slice Av nv cv)) ((o5c.set (p := ⟨w.heap.size + 1 + 1, 0, none⟩) (.inl (List.mem_cons_self ..)) _).set (p := ⟨w.heap.size + 1 + 1, 1, none⟩) (.inl (List.mem_cons_self ..)) _); clear h5 hF5 o5 o5c hnr R5)
      | fail)
  all_goals
    go_wp2_with fail
    refine bodyPost_ret (v := .tuple #[.agg (tiC true (.slice Av nv cv)), .bool true]) (by simp [results, Try.results9, go_sem, z0, z1]) rfl ?_
    rw [HF.out]
    have l1 := LW.out
    have l2 := LW1.out
    have l3 := S12.out
    have oW : Only [w.heap.size + 1 + 1] w5 ((w5.setCell ⟨w.heap.size + 1 + 1, 0, none⟩ (.bool true)).setCell ⟨w.heap.size + 1 + 1, 1, none⟩ (.slice Av nv cv)) := ((Only.refl [w.heap.size + 1 + 1] w5).set (.inl (by simp)) _).set (.inl (by simp)) _
    refine ⟨_, F', rfl, R.only H5.out oW (fun g hg => ?_), (((HL2.out.turn (fun g hg => by have := FL.out g hg; omega) O5.out).only oW (fun g _ hn => by simp; omega)).low (show w.heap.size ≤ w0.heap.size by omega)), fun g hg => (HF5.out g hg).imp id (fun h => by omega), fun g hg => ?_, ((O2.out.more (T := F) (by simp)).trans O5.out (fun i hi => .inl hi)).trans oW (fun i hi => .inr (by simp at hi; omega))⟩
    · rcases HF5.out g hg with h | h
      · have := FL.out g h
        simp; omega
      · simp; omega
    · rcases LT2.out g hg with h | ⟨h, h'⟩
      · exact .inl h
      · right
        intro hm
        rcases HF5.out g hm with h5 | h5
        · have := FL.out g h5; omega
        · omega
set_option maxHeartbeats 16000000 in
theorem does_2 (R : TiesRep) (K : TiesDoes R) (_M : TiesMore R) {w : World} {b : Nat} {F : List Nat} {xs : List Te} (hr : R.rep w b F xs) (A : Option Addr) (cap : Nat) (h : RdS KT w A xs) (o : TOp) (hk : o.kd = 2) :
    Calls Try.prog 9 #[ptB b, .agg (tiC true (.slice A xs.length cap)), .agg o.cs] w (DoesE R w b F (.slice A xs.length cap) xs (unlinkF xs ⟨o.an, o.ag⟩ ⟨o.bn, o.bg⟩).1) := by
  obtain ⟨kd, rf, an, ag, bn, bg⟩ := o
  dsimp only at hk
  subst hk
  have hxl : xs.length * 40 + 4096 ≤ 140737488355328 := by have := (K.may hr).2; omega
  obtain ⟨w0, e0⟩ : ∃ w0, w0 = ((w.alloc (.cells (tiC true (.slice A xs.length cap)) tyTi)).alloc (.cells (TOp.mk 2 rf an ag bn bg).cs 34)).alloc (.cells (tiC false (.slice none 0 0)) tyTi) := ⟨_, rfl⟩
  have o0 : Only [] w w0 := by rw [e0]; exact (((Only.refl [] w).alloc _).alloc _).alloc _
  have BT := Lib.hid (show Bk w0 w.heap.size tyTi (tiC true (.slice A xs.length cap)) from by rw [e0]; exact ((Bk.made w _ _).alloc _).alloc _)
  have BO := Lib.hid (show Bk w0 (w.heap.size + 1) 34 (TOp.mk 2 rf an ag bn bg).cs from by rw [e0]; exact (Bk.newAt (by simp)).alloc _)
  have BR := Lib.hid (show Bk w0 (w.heap.size + 1 + 1) tyTi (tiC false (.slice none 0 0)) from by rw [e0]; exact Bk.newAt (by simp))
  have H0 := Lib.hid (h.only o0 (by simp))
  have R0 := Lib.hid (R.only hr o0 (by simp))
  have FL := Lib.hid (R.lt hr)
  have O0 := Lib.hid o0
  have LW := Lib.hid (show w.heap.size + 3 ≤ w0.heap.size from by rw [e0]; simp)
  clear h hr o0
  go_enter Try.func9, Try.ntmps9
  go_upto_region 1 with fail
  rw [← e0]
  clear e0
  have s0 := BO.out.cell0 (i := 0) (v := .int .i64 2) rfl
  have s1 := BO.out.cell0 (i := 1) (v := .int .i64 rf) rfl
  have s2 := BO.out.cell0 (i := 2) (v := .int .i64 an) rfl
  have s3 := BO.out.cell0 (i := 3) (v := .int .i64 ag) rfl
  have s4 := BO.out.cell0 (i := 4) (v := .int .i64 bn) rfl
  have s5 := BO.out.cell0 (i := 5) (v := .int .i64 bg) rfl
  have t0 := BT.out.cell0 (i := 0) (v := .bool true) rfl
  have t1 := BT.out.cell0 (i := 1) (v := .slice A xs.length cap) rfl
  have K1 := Lib.hid (runlink_any A xs cap ⟨an, ag⟩ ⟨bn, bg⟩ w0 H0.out hxl)
  go_wp2_with fail
  (with_reducible refine K1.out.mono ?_)
  rintro e w1 ⟨v, rfl, hl1, o1⟩
  obtain ⟨Av, nv, cv, rfl⟩ := hl1.slice
  obtain ⟨ys, er, hF⟩ : ∃ ys er, unlinkF xs ⟨an, ag⟩ ⟨bn, bg⟩ = (ys, er) := ⟨_, _, rfl⟩
  rw [hF] at hl1
  have HF := Lib.hid hF
  have o12 : Only [] w1 (w1.alloc (.cells (tiC true (.slice Av nv cv)) tyTi)) := (Only.refl [] w1).alloc _
  have o2 := o1.trans o12 (by simp)
  have LW1 := Lib.hid (Nat.le_trans LW.out o1.size)
  have B2 := Lib.hid (BO.out.only o2 (by simp))
  have R2 := Lib.hid (BR.out.only o2 (by simp))
  have V2 := Lib.hid (Bk.made w1 tyTi (tiC true (.slice Av nv cv)))
  have P2 := Lib.hid (R.only R0.out o2 (by simp))
  have HL2 := Lib.hid (hl1.only o12 (by simp))
  have S12 := Lib.hid o12.size
  have LT2 := Lib.hid (fun g hg => hl1.lt g hg)
  have O2 := Lib.hid (O0.out.trans o2 (by simp))
  clear s0 s1 s2 s3 s4 s5 t0 t1 K1 hl1 hF o1 o2 o12
  go_upto_region 7 with fail
  rw [HF.out]
  generalize hw2 : w1.alloc (.cells (tiC true (.slice Av nv cv)) tyTi) = w2 at *
  have HCS := Lib.hid (show ∀ W' : World, Only ((w.heap.size + 1 + 1) :: F) w2 W' → (W'.cell? ⟨w.heap.size + 1, 1, none⟩ = some (.int .i64 rf) ∧ (W'.cell? ⟨w.heap.size + 1, 2, none⟩ = some (.int .i64 an) ∧ W'.cell? ⟨w.heap.size + 1, 3, none⟩ = some (.int .i64 ag)) ∧ (W'.cell? ⟨w.heap.size + 1, 4, none⟩ = some (.int .i64 bn) ∧ W'.cell? ⟨w.heap.size + 1, 5, none⟩ = some (.int .i64 bg))) ∧ W'.cell? ⟨w1.heap.size, 0, none⟩ = some (.bool true) ∧ W'.cell? ⟨w1.heap.size, 1, none⟩ = some (.slice Av nv cv) from fun W' oz => by
    have h1 : w.heap.size + 1 ∉ (w.heap.size + 1 + 1) :: F := fun hm => by
      rcases List.mem_cons.1 hm with hm | hm
      · omega
      · have := FL.out _ hm; omega
    have h2 : w1.heap.size ∉ (w.heap.size + 1 + 1) :: F := fun hm => by
      have h3 := LW1.out
      rcases List.mem_cons.1 hm with hm | hm
      · omega
      · have := FL.out _ hm; omega
    have b1 := B2.out.only oz h1
    have b2 := V2.out.only oz h2
    exact ⟨⟨b1.cell0 rfl, ⟨b1.cell0 rfl, b1.cell0 rfl⟩, b1.cell0 rfl, b1.cell0 rfl⟩, b2.cell0 rfl, b2.cell0 rfl⟩)
  have KW : Hid (∀ W', Only [] w2 W' → Calls Try.prog 19 #[ptB b, .agg (⟨an, ag⟩ : Pd).cs, .agg (⟨bn, bg⟩ : Pd).cs] W' fun e w' => e = .returned (.int .i64 er) ∧ ∃ F', R.rep w' b F' ys ∧ (∀ g ∈ F', g ∈ F ∨ w2.heap.size ≤ g) ∧ Only F w2 w') := Lib.hid (fun W' oz => by
    have := K.unlink ⟨an, ag⟩ ⟨bn, bg⟩ (R.only P2.out oz (by simp))
    rw [HF.out] at this
    exact this.mono fun e w' ⟨he, F', h1, h2, h3⟩ => ⟨he, F', h1, fun g hg => (h2 g hg).imp id (fun h => Nat.le_trans oz.size h), Only.trans (oz.more (by simp)) h3 (fun i hi => .inl hi)⟩)
  have q1 := HCS.out w2 (Only.refl _ _)
  have b1d := HCS.out w2.drew ((Only.refl _ w2).drew)
  have hE : (er == er) = true := beq_self_eq_true er
  clear hw2
  go_region_held3 (fun W' => (W'.cell? ⟨w.heap.size + 1, 1, none⟩ = some (.int .i64 rf) ∧ (W'.cell? ⟨w.heap.size + 1, 2, none⟩ = some (.int .i64 an) ∧ W'.cell? ⟨w.heap.size + 1, 3, none⟩ = some (.int .i64 ag)) ∧ (W'.cell? ⟨w.heap.size + 1, 4, none⟩ = some (.int .i64 bn) ∧ W'.cell? ⟨w.heap.size + 1, 5, none⟩ = some (.int .i64 bg))) ∧ W'.cell? ⟨w1.heap.size, 0, none⟩ = some (.bool true) ∧ W'.cell? ⟨w1.heap.size, 1, none⟩ = some (.slice Av nv cv)) (with_reducible (first | exact q1 | exact b1d | exact b5 | exact b6))
    (first
      | (go_at_call 19; (with_reducible refine (KW.out _ (by repeat (with_reducible (first | exact Only.refl _ _ | refine Only.drew ?_ | refine Only.drewN ?_ _)))).mono ?_); rintro e w5 ⟨rfl, F', h5, hF5, o5⟩; have H5 := Lib.hid h5; have HF5 := Lib.hid hF5; have O5 := Lib.hid o5; have o5c : Only ((w.heap.size + 1 + 1) :: F) w2 w5 := (o5.more (fun i hi => .inl (List.mem_cons_of_mem _ hi))); have b5 := HCS.out w5 o5c; have hnr : w.heap.size + 1 + 1 ∉ F := (fun hm => by have := FL.out _ hm; omega); have R5 := R2.out.only o5 hnr; have z0 := R5.cell0 (i := 0) (v := .bool false) rfl; have z1 := R5.cell0 (i := 1) (v := .slice none 0 0) rfl; have zf := R5.free; have b6 := HCS.out ((w5.setCell ⟨w.heap.size + 1 + 1, 0, none⟩ (.bool true)).setCell ⟨w.heap.size + 1 + 1, 1, none⟩ (.slice Av nv cv)) ((o5c.set (p := ⟨w.heap.size + 1 + 1, 0, none⟩) (.inl (List.mem_cons_self ..)) _).set (p := ⟨w.heap.size + 1 + 1, 1, none⟩) (.inl (List.mem_cons_self ..)) _); clear h5 hF5 o5 o5c hnr R5)
      | fail)
  all_goals
    go_wp2_with fail
    refine bodyPost_ret (v := .tuple #[.agg (tiC true (.slice Av nv cv)), .bool true]) (by simp [results, Try.results9, go_sem, z0, z1]) rfl ?_
    rw [HF.out]
    have l1 := LW.out
    have l2 := LW1.out
    have l3 := S12.out
    have oW : Only [w.heap.size + 1 + 1] w5 ((w5.setCell ⟨w.heap.size + 1 + 1, 0, none⟩ (.bool true)).setCell ⟨w.heap.size + 1 + 1, 1, none⟩ (.slice Av nv cv)) := ((Only.refl [w.heap.size + 1 + 1] w5).set (.inl (by simp)) _).set (.inl (by simp)) _
    refine ⟨_, F', rfl, R.only H5.out oW (fun g hg => ?_), (((HL2.out.turn (fun g hg => by have := FL.out g hg; omega) O5.out).only oW (fun g _ hn => by simp; omega)).low (show w.heap.size ≤ w0.heap.size by omega)), fun g hg => (HF5.out g hg).imp id (fun h => by omega), fun g hg => ?_, ((O2.out.more (T := F) (by simp)).trans O5.out (fun i hi => .inl hi)).trans oW (fun i hi => .inr (by simp at hi; omega))⟩
    · rcases HF5.out g hg with h | h
      · have := FL.out g h
        simp; omega
      · simp; omega
    · rcases LT2.out g hg with h | ⟨h, h'⟩
      · exact .inl h
      · right
        intro hm
        rcases HF5.out g hm with h5 | h5
        · have := FL.out g h5; omega
        · omega
set_option maxHeartbeats 16000000 in
theorem does_3 (R : TiesRep) (K : TiesDoes R) (_M : TiesMore R) {w : World} {b : Nat} {F : List Nat} {xs : List Te} (hr : R.rep w b F xs) (A : Option Addr) (cap : Nat) (h : RdS KT w A xs) (o : TOp) (hk : o.kd = 3) :
    Calls Try.prog 9 #[ptB b, .agg (tiC true (.slice A xs.length cap)), .agg o.cs] w (DoesE R w b F (.slice A xs.length cap) xs (monF xs o.rf ⟨o.an, o.ag⟩ ⟨o.bn, o.bg⟩).1) := by
  obtain ⟨kd, rf, an, ag, bn, bg⟩ := o
  dsimp only at hk
  subst hk
  have hxl : xs.length * 40 + 4096 ≤ 140737488355328 := by have := (K.may hr).2; omega
  obtain ⟨w0, e0⟩ : ∃ w0, w0 = ((w.alloc (.cells (tiC true (.slice A xs.length cap)) tyTi)).alloc (.cells (TOp.mk 3 rf an ag bn bg).cs 34)).alloc (.cells (tiC false (.slice none 0 0)) tyTi) := ⟨_, rfl⟩
  have o0 : Only [] w w0 := by rw [e0]; exact (((Only.refl [] w).alloc _).alloc _).alloc _
  have BT := Lib.hid (show Bk w0 w.heap.size tyTi (tiC true (.slice A xs.length cap)) from by rw [e0]; exact ((Bk.made w _ _).alloc _).alloc _)
  have BO := Lib.hid (show Bk w0 (w.heap.size + 1) 34 (TOp.mk 3 rf an ag bn bg).cs from by rw [e0]; exact (Bk.newAt (by simp)).alloc _)
  have BR := Lib.hid (show Bk w0 (w.heap.size + 1 + 1) tyTi (tiC false (.slice none 0 0)) from by rw [e0]; exact Bk.newAt (by simp))
  have H0 := Lib.hid (h.only o0 (by simp))
  have R0 := Lib.hid (R.only hr o0 (by simp))
  have FL := Lib.hid (R.lt hr)
  have O0 := Lib.hid o0
  have LW := Lib.hid (show w.heap.size + 3 ≤ w0.heap.size from by rw [e0]; simp)
  clear h hr o0
  go_enter Try.func9, Try.ntmps9
  go_upto_region 1 with fail
  rw [← e0]
  clear e0
  have s0 := BO.out.cell0 (i := 0) (v := .int .i64 3) rfl
  have s1 := BO.out.cell0 (i := 1) (v := .int .i64 rf) rfl
  have s2 := BO.out.cell0 (i := 2) (v := .int .i64 an) rfl
  have s3 := BO.out.cell0 (i := 3) (v := .int .i64 ag) rfl
  have s4 := BO.out.cell0 (i := 4) (v := .int .i64 bn) rfl
  have s5 := BO.out.cell0 (i := 5) (v := .int .i64 bg) rfl
  have t0 := BT.out.cell0 (i := 0) (v := .bool true) rfl
  have t1 := BT.out.cell0 (i := 1) (v := .slice A xs.length cap) rfl
  have K1 := Lib.hid (rmonitor_any A xs cap rf ⟨an, ag⟩ ⟨bn, bg⟩ w0 H0.out hxl)
  go_wp2_with fail
  (with_reducible refine K1.out.mono ?_)
  rintro e w1 ⟨v, rfl, hl1, o1⟩
  obtain ⟨Av, nv, cv, rfl⟩ := hl1.slice
  obtain ⟨ys, er, hF⟩ : ∃ ys er, monF xs rf ⟨an, ag⟩ ⟨bn, bg⟩ = (ys, er) := ⟨_, _, rfl⟩
  rw [hF] at hl1
  have HF := Lib.hid hF
  have o12 : Only [] w1 (w1.alloc (.cells (tiC true (.slice Av nv cv)) tyTi)) := (Only.refl [] w1).alloc _
  have o2 := o1.trans o12 (by simp)
  have LW1 := Lib.hid (Nat.le_trans LW.out o1.size)
  have B2 := Lib.hid (BO.out.only o2 (by simp))
  have R2 := Lib.hid (BR.out.only o2 (by simp))
  have V2 := Lib.hid (Bk.made w1 tyTi (tiC true (.slice Av nv cv)))
  have P2 := Lib.hid (R.only R0.out o2 (by simp))
  have HL2 := Lib.hid (hl1.only o12 (by simp))
  have S12 := Lib.hid o12.size
  have LT2 := Lib.hid (fun g hg => hl1.lt g hg)
  have O2 := Lib.hid (O0.out.trans o2 (by simp))
  clear s0 s1 s2 s3 s4 s5 t0 t1 K1 hl1 hF o1 o2 o12
  go_upto_region 10 with fail
  rw [HF.out]
  generalize hw2 : w1.alloc (.cells (tiC true (.slice Av nv cv)) tyTi) = w2 at *
  have HCS := Lib.hid (show ∀ W' : World, Only ((w.heap.size + 1 + 1) :: F) w2 W' → (W'.cell? ⟨w.heap.size + 1, 1, none⟩ = some (.int .i64 rf) ∧ (W'.cell? ⟨w.heap.size + 1, 2, none⟩ = some (.int .i64 an) ∧ W'.cell? ⟨w.heap.size + 1, 3, none⟩ = some (.int .i64 ag)) ∧ (W'.cell? ⟨w.heap.size + 1, 4, none⟩ = some (.int .i64 bn) ∧ W'.cell? ⟨w.heap.size + 1, 5, none⟩ = some (.int .i64 bg))) ∧ W'.cell? ⟨w1.heap.size, 0, none⟩ = some (.bool true) ∧ W'.cell? ⟨w1.heap.size, 1, none⟩ = some (.slice Av nv cv) from fun W' oz => by
    have h1 : w.heap.size + 1 ∉ (w.heap.size + 1 + 1) :: F := fun hm => by
      rcases List.mem_cons.1 hm with hm | hm
      · omega
      · have := FL.out _ hm; omega
    have h2 : w1.heap.size ∉ (w.heap.size + 1 + 1) :: F := fun hm => by
      have h3 := LW1.out
      rcases List.mem_cons.1 hm with hm | hm
      · omega
      · have := FL.out _ hm; omega
    have b1 := B2.out.only oz h1
    have b2 := V2.out.only oz h2
    exact ⟨⟨b1.cell0 rfl, ⟨b1.cell0 rfl, b1.cell0 rfl⟩, b1.cell0 rfl, b1.cell0 rfl⟩, b2.cell0 rfl, b2.cell0 rfl⟩)
  have KW : Hid (∀ W', Only [] w2 W' → Calls Try.prog 20 #[ptB b, .int .i64 rf, .agg (⟨an, ag⟩ : Pd).cs, .agg (⟨bn, bg⟩ : Pd).cs] W' fun e w' => e = .returned (.int .i64 er) ∧ ∃ F', R.rep w' b F' ys ∧ (∀ g ∈ F', g ∈ F ∨ w2.heap.size ≤ g) ∧ Only F w2 w') := Lib.hid (fun W' oz => by
    have := K.monitor rf ⟨an, ag⟩ ⟨bn, bg⟩ (R.only P2.out oz (by simp))
    rw [HF.out] at this
    exact this.mono fun e w' ⟨he, F', h1, h2, h3⟩ => ⟨he, F', h1, fun g hg => (h2 g hg).imp id (fun h => Nat.le_trans oz.size h), Only.trans (oz.more (by simp)) h3 (fun i hi => .inl hi)⟩)
  have q1 := HCS.out w2 (Only.refl _ _)
  have b1d := HCS.out w2.drew ((Only.refl _ w2).drew)
  have hE : (er == er) = true := beq_self_eq_true er
  clear hw2
  go_region_held3 (fun W' => (W'.cell? ⟨w.heap.size + 1, 1, none⟩ = some (.int .i64 rf) ∧ (W'.cell? ⟨w.heap.size + 1, 2, none⟩ = some (.int .i64 an) ∧ W'.cell? ⟨w.heap.size + 1, 3, none⟩ = some (.int .i64 ag)) ∧ (W'.cell? ⟨w.heap.size + 1, 4, none⟩ = some (.int .i64 bn) ∧ W'.cell? ⟨w.heap.size + 1, 5, none⟩ = some (.int .i64 bg))) ∧ W'.cell? ⟨w1.heap.size, 0, none⟩ = some (.bool true) ∧ W'.cell? ⟨w1.heap.size, 1, none⟩ = some (.slice Av nv cv)) (with_reducible (first | exact q1 | exact b1d | exact b5 | exact b6))
    (first
      | (go_at_call 20; (with_reducible refine (KW.out _ (by repeat (with_reducible (first | exact Only.refl _ _ | refine Only.drew ?_ | refine Only.drewN ?_ _)))).mono ?_); rintro e w5 ⟨rfl, F', h5, hF5, o5⟩; have H5 := Lib.hid h5; have HF5 := Lib.hid hF5; have O5 := Lib.hid o5; have o5c : Only ((w.heap.size + 1 + 1) :: F) w2 w5 := (o5.more (fun i hi => .inl (List.mem_cons_of_mem _ hi))); have b5 := HCS.out w5 o5c; have hnr : w.heap.size + 1 + 1 ∉ F := (fun hm => by have := FL.out _ hm; omega); have R5 := R2.out.only o5 hnr; have z0 := R5.cell0 (i := 0) (v := .bool false) rfl; have z1 := R5.cell0 (i := 1) (v := .slice none 0 0) rfl; have zf := R5.free; have b6 := HCS.out ((w5.setCell ⟨w.heap.size + 1 + 1, 0, none⟩ (.bool true)).setCell ⟨w.heap.size + 1 + 1, 1, none⟩ (.slice Av nv cv)) ((o5c.set (p := ⟨w.heap.size + 1 + 1, 0, none⟩) (.inl (List.mem_cons_self ..)) _).set (p := ⟨w.heap.size + 1 + 1, 1, none⟩) (.inl (List.mem_cons_self ..)) _); clear h5 hF5 o5 o5c hnr R5)
      | fail)
  all_goals
    go_wp2_with fail
    refine bodyPost_ret (v := .tuple #[.agg (tiC true (.slice Av nv cv)), .bool true]) (by simp [results, Try.results9, go_sem, z0, z1]) rfl ?_
    rw [HF.out]
    have l1 := LW.out
    have l2 := LW1.out
    have l3 := S12.out
    have oW : Only [w.heap.size + 1 + 1] w5 ((w5.setCell ⟨w.heap.size + 1 + 1, 0, none⟩ (.bool true)).setCell ⟨w.heap.size + 1 + 1, 1, none⟩ (.slice Av nv cv)) := ((Only.refl [w.heap.size + 1 + 1] w5).set (.inl (by simp)) _).set (.inl (by simp)) _
    refine ⟨_, F', rfl, R.only H5.out oW (fun g hg => ?_), (((HL2.out.turn (fun g hg => by have := FL.out g hg; omega) O5.out).only oW (fun g _ hn => by simp; omega)).low (show w.heap.size ≤ w0.heap.size by omega)), fun g hg => (HF5.out g hg).imp id (fun h => by omega), fun g hg => ?_, ((O2.out.more (T := F) (by simp)).trans O5.out (fun i hi => .inl hi)).trans oW (fun i hi => .inr (by simp at hi; omega))⟩
    · rcases HF5.out g hg with h | h
      · have := FL.out g h
        simp; omega
      · simp; omega
    · rcases LT2.out g hg with h | ⟨h, h'⟩
      · exact .inl h
      · right
        intro hm
        rcases HF5.out g hm with h5 | h5
        · have := FL.out g h5; omega
        · omega
set_option maxHeartbeats 16000000 in
theorem does_4 (R : TiesRep) (K : TiesDoes R) (M : TiesMore R) {w : World} {b : Nat} {F : List Nat} {xs : List Te} (hr : R.rep w b F xs) (A : Option Addr) (cap : Nat) (h : RdS KT w A xs) (o : TOp) (hk : o.kd = 4) :
    Calls Try.prog 9 #[ptB b, .agg (tiC true (.slice A xs.length cap)), .agg o.cs] w (DoesE R w b F (.slice A xs.length cap) xs (demF xs o.rf).1) := by
  obtain ⟨kd, rf, an, ag, bn, bg⟩ := o
  dsimp only at hk
  subst hk
  have hxl : xs.length * 40 + 4096 ≤ 140737488355328 := by have := (K.may hr).2; omega
  obtain ⟨w0, e0⟩ : ∃ w0, w0 = ((w.alloc (.cells (tiC true (.slice A xs.length cap)) tyTi)).alloc (.cells (TOp.mk 4 rf an ag bn bg).cs 34)).alloc (.cells (tiC false (.slice none 0 0)) tyTi) := ⟨_, rfl⟩
  have o0 : Only [] w w0 := by rw [e0]; exact (((Only.refl [] w).alloc _).alloc _).alloc _
  have BT := Lib.hid (show Bk w0 w.heap.size tyTi (tiC true (.slice A xs.length cap)) from by rw [e0]; exact ((Bk.made w _ _).alloc _).alloc _)
  have BO := Lib.hid (show Bk w0 (w.heap.size + 1) 34 (TOp.mk 4 rf an ag bn bg).cs from by rw [e0]; exact (Bk.newAt (by simp)).alloc _)
  have BR := Lib.hid (show Bk w0 (w.heap.size + 1 + 1) tyTi (tiC false (.slice none 0 0)) from by rw [e0]; exact Bk.newAt (by simp))
  have H0 := Lib.hid (h.only o0 (by simp))
  have R0 := Lib.hid (R.only hr o0 (by simp))
  have FL := Lib.hid (R.lt hr)
  have O0 := Lib.hid o0
  have LW := Lib.hid (show w.heap.size + 3 ≤ w0.heap.size from by rw [e0]; simp)
  clear h hr o0
  go_enter Try.func9, Try.ntmps9
  go_upto_region 1 with fail
  rw [← e0]
  clear e0
  have s0 := BO.out.cell0 (i := 0) (v := .int .i64 4) rfl
  have s1 := BO.out.cell0 (i := 1) (v := .int .i64 rf) rfl
  have s2 := BO.out.cell0 (i := 2) (v := .int .i64 an) rfl
  have s3 := BO.out.cell0 (i := 3) (v := .int .i64 ag) rfl
  have s4 := BO.out.cell0 (i := 4) (v := .int .i64 bn) rfl
  have s5 := BO.out.cell0 (i := 5) (v := .int .i64 bg) rfl
  have t0 := BT.out.cell0 (i := 0) (v := .bool true) rfl
  have t1 := BT.out.cell0 (i := 1) (v := .slice A xs.length cap) rfl
  have K1 := Lib.hid (rdemon_any A xs cap rf w0 H0.out hxl)
  go_wp2_with fail
  (with_reducible refine K1.out.mono ?_)
  rintro e w1 ⟨v, rfl, hl1, o1⟩
  obtain ⟨Av, nv, cv, rfl⟩ := hl1.slice
  obtain ⟨ys, er, hF⟩ : ∃ ys er, demF xs rf = (ys, er) := ⟨_, _, rfl⟩
  rw [hF] at hl1
  have HF := Lib.hid hF
  have o12 : Only [] w1 (w1.alloc (.cells (tiC true (.slice Av nv cv)) tyTi)) := (Only.refl [] w1).alloc _
  have o2 := o1.trans o12 (by simp)
  have LW1 := Lib.hid (Nat.le_trans LW.out o1.size)
  have B2 := Lib.hid (BO.out.only o2 (by simp))
  have R2 := Lib.hid (BR.out.only o2 (by simp))
  have V2 := Lib.hid (Bk.made w1 tyTi (tiC true (.slice Av nv cv)))
  have P2 := Lib.hid (R.only R0.out o2 (by simp))
  have HL2 := Lib.hid (hl1.only o12 (by simp))
  have S12 := Lib.hid o12.size
  have LT2 := Lib.hid (fun g hg => hl1.lt g hg)
  have O2 := Lib.hid (O0.out.trans o2 (by simp))
  clear s0 s1 s2 s3 s4 s5 t0 t1 K1 hl1 hF o1 o2 o12
  go_upto_region 13 with fail
  rw [HF.out]
  generalize hw2 : w1.alloc (.cells (tiC true (.slice Av nv cv)) tyTi) = w2 at *
  have HCS := Lib.hid (show ∀ W' : World, Only ((w.heap.size + 1 + 1) :: F) w2 W' → (W'.cell? ⟨w.heap.size + 1, 1, none⟩ = some (.int .i64 rf) ∧ (W'.cell? ⟨w.heap.size + 1, 2, none⟩ = some (.int .i64 an) ∧ W'.cell? ⟨w.heap.size + 1, 3, none⟩ = some (.int .i64 ag)) ∧ (W'.cell? ⟨w.heap.size + 1, 4, none⟩ = some (.int .i64 bn) ∧ W'.cell? ⟨w.heap.size + 1, 5, none⟩ = some (.int .i64 bg))) ∧ W'.cell? ⟨w1.heap.size, 0, none⟩ = some (.bool true) ∧ W'.cell? ⟨w1.heap.size, 1, none⟩ = some (.slice Av nv cv) from fun W' oz => by
    have h1 : w.heap.size + 1 ∉ (w.heap.size + 1 + 1) :: F := fun hm => by
      rcases List.mem_cons.1 hm with hm | hm
      · omega
      · have := FL.out _ hm; omega
    have h2 : w1.heap.size ∉ (w.heap.size + 1 + 1) :: F := fun hm => by
      have h3 := LW1.out
      rcases List.mem_cons.1 hm with hm | hm
      · omega
      · have := FL.out _ hm; omega
    have b1 := B2.out.only oz h1
    have b2 := V2.out.only oz h2
    exact ⟨⟨b1.cell0 rfl, ⟨b1.cell0 rfl, b1.cell0 rfl⟩, b1.cell0 rfl, b1.cell0 rfl⟩, b2.cell0 rfl, b2.cell0 rfl⟩)
  have KW : Hid (∀ W', Only [] w2 W' → Calls Try.prog 25 #[ptB b, .int .i64 rf] W' fun e w' => e = .returned (.int .i64 er) ∧ ∃ F', R.rep w' b F' ys ∧ (∀ g ∈ F', g ∈ F ∨ w2.heap.size ≤ g) ∧ Only F w2 w') := Lib.hid (fun W' oz => by
    have := M.demon rf (R.only P2.out oz (by simp))
    rw [HF.out] at this
    exact this.mono fun e w' ⟨he, F', h1, h2, h3⟩ => ⟨he, F', h1, fun g hg => (h2 g hg).imp id (fun h => Nat.le_trans oz.size h), Only.trans (oz.more (by simp)) h3 (fun i hi => .inl hi)⟩)
  have q1 := HCS.out w2 (Only.refl _ _)
  have b1d := HCS.out w2.drew ((Only.refl _ w2).drew)
  have hE : (er == er) = true := beq_self_eq_true er
  clear hw2
  go_region_held3 (fun W' => (W'.cell? ⟨w.heap.size + 1, 1, none⟩ = some (.int .i64 rf) ∧ (W'.cell? ⟨w.heap.size + 1, 2, none⟩ = some (.int .i64 an) ∧ W'.cell? ⟨w.heap.size + 1, 3, none⟩ = some (.int .i64 ag)) ∧ (W'.cell? ⟨w.heap.size + 1, 4, none⟩ = some (.int .i64 bn) ∧ W'.cell? ⟨w.heap.size + 1, 5, none⟩ = some (.int .i64 bg))) ∧ W'.cell? ⟨w1.heap.size, 0, none⟩ = some (.bool true) ∧ W'.cell? ⟨w1.heap.size, 1, none⟩ = some (.slice Av nv cv)) (with_reducible (first | exact q1 | exact b1d | exact b5 | exact b6))
    (first
      | (go_at_call 25; (with_reducible refine (KW.out _ (by repeat (with_reducible (first | exact Only.refl _ _ | refine Only.drew ?_ | refine Only.drewN ?_ _)))).mono ?_); rintro e w5 ⟨rfl, F', h5, hF5, o5⟩; have H5 := Lib.hid h5; have HF5 := Lib.hid hF5; have O5 := Lib.hid o5; have o5c : Only ((w.heap.size + 1 + 1) :: F) w2 w5 := (o5.more (fun i hi => .inl (List.mem_cons_of_mem _ hi))); have b5 := HCS.out w5 o5c; have hnr : w.heap.size + 1 + 1 ∉ F := (fun hm => by have := FL.out _ hm; omega); have R5 := R2.out.only o5 hnr; have z0 := R5.cell0 (i := 0) (v := .bool false) rfl; have z1 := R5.cell0 (i := 1) (v := .slice none 0 0) rfl; have zf := R5.free; have b6 := HCS.out ((w5.setCell ⟨w.heap.size + 1 + 1, 0, none⟩ (.bool true)).setCell ⟨w.heap.size + 1 + 1, 1, none⟩ (.slice Av nv cv)) ((o5c.set (p := ⟨w.heap.size + 1 + 1, 0, none⟩) (.inl (List.mem_cons_self ..)) _).set (p := ⟨w.heap.size + 1 + 1, 1, none⟩) (.inl (List.mem_cons_self ..)) _); clear h5 hF5 o5 o5c hnr R5)
      | fail)
  all_goals
    go_wp2_with fail
    refine bodyPost_ret (v := .tuple #[.agg (tiC true (.slice Av nv cv)), .bool true]) (by simp [results, Try.results9, go_sem, z0, z1]) rfl ?_
    rw [HF.out]
    have l1 := LW.out
    have l2 := LW1.out
    have l3 := S12.out
    have oW : Only [w.heap.size + 1 + 1] w5 ((w5.setCell ⟨w.heap.size + 1 + 1, 0, none⟩ (.bool true)).setCell ⟨w.heap.size + 1 + 1, 1, none⟩ (.slice Av nv cv)) := ((Only.refl [w.heap.size + 1 + 1] w5).set (.inl (by simp)) _).set (.inl (by simp)) _
    refine ⟨_, F', rfl, R.only H5.out oW (fun g hg => ?_), (((HL2.out.turn (fun g hg => by have := FL.out g hg; omega) O5.out).only oW (fun g _ hn => by simp; omega)).low (show w.heap.size ≤ w0.heap.size by omega)), fun g hg => (HF5.out g hg).imp id (fun h => by omega), fun g hg => ?_, ((O2.out.more (T := F) (by simp)).trans O5.out (fun i hi => .inl hi)).trans oW (fun i hi => .inr (by simp at hi; omega))⟩
    · rcases HF5.out g hg with h | h
      · have := FL.out g h
        simp; omega
      · simp; omega
    · rcases LT2.out g hg with h | ⟨h, h'⟩
      · exact .inl h
      · right
        intro hm
        rcases HF5.out g hm with h5 | h5
        · have := FL.out g h5; omega
        · omega
set_option maxHeartbeats 16000000 in
theorem does_none (R : TiesRep) (K : TiesDoes R) (_M : TiesMore R) {w : World} {b : Nat} {F : List Nat} {xs : List Te} (hr : R.rep w b F xs) (A : Option Addr) (cap : Nat) (h : RdS KT w A xs) (o : TOp) (hk : o.kd ≠ 1 ∧ o.kd ≠ 2 ∧ o.kd ≠ 3 ∧ o.kd ≠ 4 ∧ o.kd ≠ 5) :
    Calls Try.prog 9 #[ptB b, .agg (tiC true (.slice A xs.length cap)), .agg o.cs] w (DoesE R w b F (.slice A xs.length cap) xs xs) := by
  have d1 : (o.kd == 1) = false := by simp; exact hk.1
  have d2 : (o.kd == 2) = false := by simp; exact hk.2.1
  have d3 : (o.kd == 3) = false := by simp; exact hk.2.2.1
  have d4 : (o.kd == 4) = false := by simp; exact hk.2.2.2.1
  have d5 : (o.kd == 5) = false := by simp; exact hk.2.2.2.2
  obtain ⟨kd, rf, an, ag, bn, bg⟩ := o
  dsimp only at hk d1 d2 d3 d4 d5
  clear hk
  have hxl : xs.length * 40 + 4096 ≤ 140737488355328 := by have := (K.may hr).2; omega
  obtain ⟨w0, e0⟩ : ∃ w0, w0 = ((w.alloc (.cells (tiC true (.slice A xs.length cap)) tyTi)).alloc (.cells (TOp.mk kd rf an ag bn bg).cs 34)).alloc (.cells (tiC false (.slice none 0 0)) tyTi) := ⟨_, rfl⟩
  have o0 : Only [] w w0 := by rw [e0]; exact (((Only.refl [] w).alloc _).alloc _).alloc _
  have BT := Lib.hid (show Bk w0 w.heap.size tyTi (tiC true (.slice A xs.length cap)) from by rw [e0]; exact ((Bk.made w _ _).alloc _).alloc _)
  have BO := Lib.hid (show Bk w0 (w.heap.size + 1) 34 (TOp.mk kd rf an ag bn bg).cs from by rw [e0]; exact (Bk.newAt (by simp)).alloc _)
  have BR := Lib.hid (show Bk w0 (w.heap.size + 1 + 1) tyTi (tiC false (.slice none 0 0)) from by rw [e0]; exact Bk.newAt (by simp))
  have H0 := Lib.hid (h.only o0 (by simp))
  have R0 := Lib.hid (R.only hr o0 (by simp))
  have FL := Lib.hid (R.lt hr)
  have O0 := Lib.hid o0
  have LW := Lib.hid (show w.heap.size + 3 ≤ w0.heap.size from by rw [e0]; simp)
  clear h hr o0
  go_enter Try.func9, Try.ntmps9
  go_upto_region 1 with fail
  rw [← e0]
  clear e0
  have s0 := BO.out.cell0 (i := 0) (v := .int .i64 kd) rfl
  have s1 := BO.out.cell0 (i := 1) (v := .int .i64 rf) rfl
  have s2 := BO.out.cell0 (i := 2) (v := .int .i64 an) rfl
  have s3 := BO.out.cell0 (i := 3) (v := .int .i64 ag) rfl
  have s4 := BO.out.cell0 (i := 4) (v := .int .i64 bn) rfl
  have s5 := BO.out.cell0 (i := 5) (v := .int .i64 bg) rfl
  have t0 := BT.out.cell0 (i := 0) (v := .bool true) rfl
  have t1 := BT.out.cell0 (i := 1) (v := .slice A xs.length cap) rfl
  have z0 := BR.out.cell0 (i := 0) (v := .bool false) rfl
  have z1 := BR.out.cell0 (i := 1) (v := .slice none 0 0) rfl
  have zf := BR.out.free
  go_wp2_with fail
  have l1 := LW.out
  have oW : Only [w.heap.size + 1 + 1] w0 ((w0.setCell ⟨w.heap.size + 1 + 1, 0, none⟩ (.bool true)).setCell ⟨w.heap.size + 1 + 1, 1, none⟩ (.slice A xs.length cap)) := ((Only.refl [w.heap.size + 1 + 1] w0).set (.inl (by simp)) _).set (.inl (by simp)) _
  refine bodyPost_ret (v := .tuple #[.agg (tiC true (.slice A xs.length cap)), .bool true]) (by simp [results, Try.results9, go_sem, z0, z1]) rfl ?_
  exact ⟨_, F, rfl, R.only R0.out oW (fun g hg => by have := FL.out g hg; simp; omega), .inl ⟨rfl, rfl⟩, fun g hg => .inl hg, fun g hg => .inl rfl, ((O0.out.trans oW (fun i hi => .inr (by simp at hi; omega))).more (by simp))⟩
end Go.Proofs.Ytkodblhompphjaa
