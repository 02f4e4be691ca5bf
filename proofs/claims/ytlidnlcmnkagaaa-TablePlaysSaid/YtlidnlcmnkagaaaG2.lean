/- Rows of ints of the call's own whose block and room are known: make, append within the room, append of a full slice. Nothing here speaks of the program. -/
import Derived.Test.YtlidnlcmnkagaaaG
import Derived.OwnWalk
import Derived.ArgAppend
namespace Go.Proofs.Ytlidnlcmnkagaaa
open Go.RowKit
set_option maxRecDepth 20000

/-- Block g is a row of cap ints of which the first are xs. -/
def OwnF (w : World) (g cap : Nat) (xs : List Int) : Prop := w.ownsRow g 3 1 (.slice (some ⟨g, 0, none⟩) xs.length cap) xs.length (xs.map (Value.int .i64))
theorem OwnF.alloc {w : World} {g cap : Nat} {xs : List Int} (h : OwnF w g cap xs) (o : Obj) : OwnF (w.alloc o) g cap xs := World.ownsRow.alloc h o
theorem OwnF.drewN {w : World} {g cap : Nat} {xs : List Int} (h : OwnF w g cap xs) (k : Nat) : OwnF (w.drewN k) g cap xs := h
theorem OwnF.only {S : List Nat} {w w' : World} {g cap : Nat} {xs : List Int} (h : OwnF w g cap xs) (o : Only S w w') (hS : g ∉ S) : OwnF w' g cap xs := by
  obtain ⟨h1, h2⟩ := h
  refine ⟨h1, ?_⟩
  rcases h2 with h2 | ⟨g', cap', cur, e, hg, hh, rest⟩
  · exact .inl h2
  · have e1 : g' = g := by
      injection e with e
      injection e with e
      injection e with e
      exact e.symm
    subst e1
    refine .inr ⟨g', cap', cur, e, hg, ?_, rest⟩
    have hlt : g' < w.heap.size := by
      apply Nat.lt_of_not_le
      intro hle
      rw [Array.getElem?_eq_none hle] at hh
      cases hh
    exact (o.block g' hlt hS).trans hh
/-- A full row is known whole. -/
theorem OwnF.bk {w : World} {g : Nat} {xs : List Int} (h : OwnF w g xs.length xs) : Bk w g 3 (ics xs) := by
  rcases h.2 with ⟨h3, _⟩ | ⟨g', cap', cur, e, hg, hh, hn, hm, hs, ht⟩
  · cases h3
  · injection e with e _ e2
    injection e with e
    injection e with e
    subst e e2
    unfold Bk
    rw [hh]
    congr 2
    rw [Nat.mul_one] at hs ht
    rw [List.take_of_length_le (by simp [hs])] at ht
    unfold ics
    rw [← ht]
theorem OwnF.len {w : World} {g cap : Nat} {xs : List Int} (h : OwnF w g cap xs) : xs.length ≤ cap := by
  rcases h.2 with ⟨h3, _⟩ | ⟨g', cap', cur, e, hg, hh, hn, hm, hs, ht⟩
  · cases h3
  · injection e with _ _ e2
    subst e2
    exact hn
theorem appF_run (w : World) {g cap : Nat} {xs : List Int} (ty : TypeId) (hown : OwnF w g cap xs) (B : Option Addr) (ys : List Int) (c : Nat) (hR : Rd w B ys) (hfit : xs.length + ys.length ≤ cap) :
    ∃ w', (Builtin.append_ #[26, 26] ty #[.slice (some ⟨g, 0, none⟩) xs.length cap, .slice B ys.length c]).run Try.prog w = .ok (.slice (some ⟨g, 0, none⟩) (xs.length + ys.length) cap) w' ∧ OwnF w' g cap (xs ++ ys) ∧ Only [g] w w' := by
  obtain ⟨i0, hi, hz0, hz1, hz2⟩ := info_parts int_info
  have main : ∀ ad : Addr, (∀ j u, (ys.map (Value.int .i64))[j]? = some u → w.cell? (ad.add j) = some u) →
      ∃ w', (Builtin.append_ #[26, 26] ty #[.slice (some ⟨g, 0, none⟩) xs.length cap, .slice (some ad) ys.length c]).run Try.prog w = .ok (.slice (some ⟨g, 0, none⟩) (xs.length + ys.length) cap) w' ∧ OwnF w' g cap (xs ++ ys) ∧ Only [g] w w' := by
    intro ad hc
    obtain ⟨w', hr, h2, h3⟩ := run_append_fits (P := Try.prog) w g 26 ty 3 i0 1 Try.underlying26 hi hz1 g xs.length cap (xs.map (Value.int .i64)) hown ad ys.length c (ys.map (Value.int .i64))
      (by simp) hc (by intro u hu; obtain ⟨n, _, rfl⟩ := List.mem_map.1 hu; rfl) hfit
    refine ⟨w', hr, ?_, Only.of_grown h3⟩
    unfold OwnF
    rw [List.length_append, List.map_append]
    exact h2
  rcases hR with rfl | ⟨bl, off, rfl, _, hc⟩
  · cases B with
    | none =>
      refine ⟨w, ?_, by simpa using hown, Only.refl _ _⟩
      rcases hown.2 with ⟨h, _⟩ | ⟨g, c, cur, e, _, _, hnc, _⟩
      · cases h
      · injection e with e1 _ e2
        subst e2
        simp [Builtin.append_, run_underlying Try.underlying26, sizeOf, typeInfo, hi, Builtin.lenOf, Builtin.firstCells, hnc, storeCells]
    | some ad => exact main ad (fun j u hu => by simp at hu)
  · refine main _ (fun j u hu => ?_)
    rw [List.getElem?_map] at hu
    rw [Go.WideShapes.add_plain]
    cases hy : ys[j]? with
    | none => rw [hy] at hu; cases hu
    | some y =>
      rw [hy] at hu
      injection hu with hu
      subst hu
      exact hc j y hy
theorem wpList_appF (w : World) {ops : Array Oper} {rest : List Oper} {o : Oper} {a : Act} {Q : Exit → Act → World → Prop} (hgd : o.guard = none) (s x : Operand)
    (ho : o.op = .call { callee := .builtin .append, args := #[s, x], argTypes := #[26, 26] })
    {g cap n : Nat} {xs : List Int} (hs : a.eval s = .slice (some ⟨g, 0, none⟩) n cap) (hn : n = xs.length) (hown : OwnF w g cap xs) (B : Option Addr) (ys : List Int) (m c : Nat) (hx : a.eval x = .slice B m c) (hm : m = ys.length) (hR : Rd w B ys) (hfit : xs.length + ys.length ≤ cap)
    (h : ∀ w', OwnF w' g cap (xs ++ ys) → Only [g] w w' → wpList Try.prog ops Q rest (a.put o.dst (.slice (some ⟨g, 0, none⟩) (n + m) cap)) w') : wpList Try.prog ops Q (o :: rest) a w := by
  subst hm hn
  obtain ⟨w', hr, h2, h3⟩ := appF_run w o.type hown B ys c hR hfit
  refine wpList_plain hgd fun _ hK => ?_
  unfold Oper.wp execOp
  simp only [ho, resolve, invoke, builtin, Sem.run_bind, Sem.run_pure, Result.andThen_ok, List.map_toArray, List.map_cons, List.map_nil, hs, hx, hr]
  exact hK _ _ (h w' h2 h3)
/-- make([]int, 0, n) -/
theorem wpList_makeF (w : World) {ops : Array Oper} {rest : List Oper} {o : Oper} {a : Act} {Q : Exit → Act → World → Prop} (hgd : o.guard = none) (l c : Operand) (ho : o.op = Op.makeSlice 26 l c) (n : Nat) (C : Int)
    (hl : a.eval l = .int .i64 0) (hc : a.eval c = .int .i64 C) (hC : C = (n : Int)) (hn : n ≤ 17592186044416)
    (h : ∀ w', OwnF w' w.heap.size n [] → Only [] w w' → wpList Try.prog ops Q rest (a.put o.dst (.slice (some ⟨w.heap.size, 0, none⟩) 0 n)) w') : wpList Try.prog ops Q (o :: rest) a w := by
  obtain ⟨i0, hi, hz0, hz1, hz2⟩ := info_parts int_info
  exact wpList_make_own w hgd l c 26 ho w.heap.size 3 i0 _ 1 Try.underlying26 hi hz0 hz1 .i64 .i64 C n hl hc hC (by rw [hz2]; omega) (by unfold maxLen; omega) (Nat.le_refl _) (fun w' h1 h2 => h w' h1 (Only.of_grown h2))
/-- append of one int onto a slice that is full: a new row. -/
theorem wpList_appGrow (w : World) {ops : Array Oper} {rest : List Oper} {o : Oper} {a : Act} {Q : Exit → Act → World → Prop} (hgd : o.guard = none) (s x : Operand)
    (ho : o.op = .call { callee := .builtin .append, args := #[s, x], argTypes := #[26, 26] })
    (B : Option Addr) (n : Nat) (xs : List Int) (hs : a.eval s = .slice B n n) (hn : n = xs.length) (hB : B = none → n = 0) (hR : Rd w B xs) (g : Nat) (y : Int) (hx : a.eval x = .slice (some ⟨g, 0, none⟩) 1 1) (hc : Bk w g 3 (ics [y])) (hlen : xs.length + 1 ≤ 17592186044416)
    (h : ∀ v' w', OwnL w' w.heap.size v' (xs ++ [y]) → Only [] w w' → wpList Try.prog ops Q rest (a.put o.dst v') w') : wpList Try.prog ops Q (o :: rest) a w := by
  subst hn
  obtain ⟨i0, hi, hz0, hz1, hz2⟩ := info_parts int_info
  refine wpList_append_grows w hgd s x 26 ho 3 i0 _ 1 8 Try.underlying26 hi hz0 hz1 hz2 rfl (by omega) B xs.length xs.length (xs.map (Value.int .i64)) hs (fun e => ⟨hB e, hB e⟩) (by simp) (fun b hb j u hu => ?_) ⟨g, 0, none⟩ 1 1 [.int .i64 y] hx rfl (fun j u hu => ?_) (by simp [Value.oneCell']) (by omega) (by unfold maxLen; omega) (by omega) (fun v' w' h1 h2 => h v' w' ?_ (Only.of_grown h2))
  · subst hb
    rw [List.getElem?_map] at hu
    cases hy : xs[j]? with
    | none => rw [hy] at hu; cases hu
    | some z =>
      rw [hy] at hu
      injection hu with hu
      subst hu
      rcases hR with rfl | ⟨bl, off, e, _, hcc⟩
      · simp at hy
      · injection e with e
        subst e
        rw [Go.WideShapes.add_plain]
        exact hcc j z hy
  · cases j with
    | zero =>
      simp at hu
      subst hu
      exact hc.cell0 rfl
    | succ j => simp at hu
  · unfold OwnL
    rw [List.length_append, List.map_append]
    exact h1
/-- make([]int, n) -/
theorem wpList_makeN (w : World) {ops : Array Oper} {rest : List Oper} {o : Oper} {a : Act} {Q : Exit → Act → World → Prop} (hgd : o.guard = none) (l c : Operand) (ho : o.op = Op.makeSlice 26 l c) (n : Nat) (L C : Int)
    (hl : a.eval l = .int .i64 L) (hc : a.eval c = .int .i64 C) (hL : L = (n : Int)) (hC : C = (n : Int)) (hn : n ≤ 17592186044416)
    (h : ∀ w', Bk w' w.heap.size 3 (ics (List.replicate n 0)) → Only [] w w' → wpList Try.prog ops Q rest (a.put o.dst (.slice (some ⟨w.heap.size, 0, none⟩) n n)) w') : wpList Try.prog ops Q (o :: rest) a w := by
  obtain ⟨i0, hi, hz0, hz1, hz2⟩ := info_parts int_info
  refine wpList_make_full w hgd l c 26 ho w.heap.size 3 i0 _ 1 Try.underlying26 hi hz0 hz1 .i64 .i64 L C n hl hc hL hC (by rw [hz2]; omega) (by unfold maxLen; omega) (Nat.le_refl _) (fun w' h1 h2 => h w' ?_ (Only.of_grown h2))
  have e : (madeCells (Value.int .i64 0).cells (n * 1)).toList = (List.replicate n (0 : Int)).map (Value.int .i64) := by
    show (madeCells #[Value.int .i64 0] (n * 1)).toList = _
    rw [toList_madeCells_one]
    simp
  rw [e] at h1
  have h3 : OwnF w' w.heap.size (List.replicate n (0 : Int)).length (List.replicate n 0) := by
    unfold OwnF
    rw [List.length_replicate]
    exact h1
  exact h3.bk
end Go.Proofs.Ytlidnlcmnkagaaa
