/- append of ints onto a row of the call's own; joined; marked. -/
import Derived.Test.YteebkgclopffbaaSlices
import Derived.Maps.AppendAt
namespace Go.Proofs.Yteebkgclopffbaa
open Go.RowKit

/-- v is a row of the call's own (from block base on) that holds xs. -/
def OwnL (w : World) (base : Nat) (v : Value) (xs : List Int) : Prop := w.ownsRow base 3 1 v xs.length (xs.map (Value.int .i64))

theorem OwnL.nil (w : World) (base : Nat) : OwnL w base (.slice none 0 0) [] := World.ownsRow_nil _ _ _ _
theorem OwnL.alloc {w : World} {base : Nat} {v : Value} {xs : List Int} (h : OwnL w base v xs) (o : Obj) : OwnL (w.alloc o) base v xs := World.ownsRow.alloc h o
theorem OwnL.form {w : World} {base : Nat} {v : Value} {xs : List Int} (h : OwnL w base v xs) : ∃ A cap, v = .slice A xs.length cap ∧ xs.length ≤ cap ∧ cap ≤ maxLen ∧ Rd w A xs ∧ (∀ bl off, A = some ⟨bl, off, none⟩ → base ≤ bl ∧ v.ownBlock = some bl) := by
  obtain ⟨h1, h2⟩ := h
  rcases h2 with ⟨rfl, h3⟩ | ⟨g, cap, cur, rfl, hg, hh, hn, hm, hs, ht⟩
  · have : xs = [] := List.eq_nil_of_length_eq_zero h3
    subst this
    exact ⟨none, 0, rfl, Nat.le_refl _, by simp [maxLen], Rd.nil _ _, (fun bl off e => by cases e)⟩
  · refine ⟨some ⟨g, 0, none⟩, cap, rfl, hn, hm, .inr ⟨g, 0, rfl, ?_, fun k x hx => ?_⟩, fun bl off e => ?_⟩
    · apply Nat.lt_of_not_le
      intro hle
      rw [Array.getElem?_eq_none hle] at hh
      cases hh
    · have hk : k < xs.length := by
        apply Nat.lt_of_not_le
        intro hle
        rw [List.getElem?_eq_none hle] at hx
        cases hx
      have h5 : cur[k]? = some (Value.int .i64 x) := by
        have h6 : (cur.toList.take (xs.length * 1))[k]? = (xs.map (Value.int .i64))[k]? := by rw [ht]
        rw [List.getElem?_take, if_pos (by omega), List.getElem?_map, hx] at h6
        simpa using h6
      rw [Nat.zero_add]
      simp [World.cell?, hh, h5]
    · injection e with e
      injection e with e1 e2
      subst e1
      exact ⟨hg, rfl⟩

theorem app_run (w : World) {base : Nat} {v : Value} {xs : List Int} (ty : TypeId) (hown : OwnL w base v xs) (B : Option Addr) (ys : List Int) (cap : Nat) (hR : Rd w B ys) (hb : base ≤ w.heap.size) (hlen : xs.length + ys.length ≤ 17592186044416) :
    ∃ v' w', (Builtin.append_ #[27, 27] ty #[v, .slice B ys.length cap]).run Try.prog w = .ok v' w' ∧ OwnL w' base v' (xs ++ ys) ∧ w.grownBy w' v.ownBlock ∧ (v'.ownBlock = v.ownBlock ∨ v'.ownBlock = some w.heap.size) := by
  obtain ⟨i0, hi, hz0, hz1, hz2⟩ := info_parts int_info
  have main : ∀ ad : Addr, (∀ j u, (ys.map (Value.int .i64))[j]? = some u → w.cell? (ad.add j) = some u) →
      ∃ v' w', (Builtin.append_ #[27, 27] ty #[v, .slice (some ad) ys.length cap]).run Try.prog w = .ok v' w' ∧ OwnL w' base v' (xs ++ ys) ∧ w.grownBy w' v.ownBlock ∧ (v'.ownBlock = v.ownBlock ∨ v'.ownBlock = some w.heap.size) := by
    intro ad hc
    obtain ⟨v', w', hr, h2, h3, _, h5⟩ := run_append_own_at (P := Try.prog) w base 27 ty 3 i0 (.int .i64 0) 1 8 Try.underlying27 hi hz0 hz1 hz2 rfl (by omega) v xs.length (xs.map (Value.int .i64)) hown ad ys.length cap (ys.map (Value.int .i64))
      (by simp) hc (by intro u hu; obtain ⟨n, _, rfl⟩ := List.mem_map.1 hu; rfl) (by simp only [maxLen]; omega) (by omega) hb
    refine ⟨v', w', hr, ?_, h3, h5⟩
    unfold OwnL
    rw [List.length_append, List.map_append]
    exact h2
  rcases hR with rfl | ⟨bl, off, rfl, _, hc⟩
  · cases B with
    | none =>
      refine ⟨v, w, ?_, by simpa using hown, World.grownBy.refl _ _, .inl rfl⟩
      rcases hown.2 with ⟨rfl, _⟩ | ⟨g, c, cur, rfl, _, _, hnc, _⟩
      · simp [Builtin.append_, run_underlying Try.underlying27, sizeOf, typeInfo, hi, Builtin.lenOf, Builtin.firstCells]
      · simp [Builtin.append_, run_underlying Try.underlying27, sizeOf, typeInfo, hi, Builtin.lenOf, Builtin.firstCells, hnc, storeCells]
    | some ad => exact main ad (fun j u hu => by simp at hu)
  · refine main _ (fun j u hu => ?_)
    rw [List.getElem?_map] at hu
    rw [Go.WideShapes.add_plain]
    cases hy : ys[j]? with
    | none => rw [hy] at hu; cases hu
    | some y =>
      rw [hy] at hu
      injection hu with hu
      subst hu
      exact hc j y hy

theorem wpList_app (w : World) {ops : Array Oper} {rest : List Oper} {o : Oper} {a : Act} {Q : Exit → Act → World → Prop} (hgd : o.guard = none) (s x : Operand)
    (ho : o.op = .call { callee := .builtin .append, args := #[s, x], argTypes := #[27, 27] })
    {base : Nat} {v : Value} {xs : List Int} (hs : a.eval s = v) (hown : OwnL w base v xs) (B : Option Addr) (ys : List Int) (m cap : Nat) (hx : a.eval x = .slice B m cap) (hm : m = ys.length) (hR : Rd w B ys) (hb : base ≤ w.heap.size) (hlen : xs.length + ys.length ≤ 17592186044416)
    (h : ∀ v' w', OwnL w' base v' (xs ++ ys) → w.grownBy w' v.ownBlock → (v'.ownBlock = v.ownBlock ∨ v'.ownBlock = some w.heap.size) → wpList Try.prog ops Q rest (a.put o.dst v') w') : wpList Try.prog ops Q (o :: rest) a w := by
  subst hm
  obtain ⟨v', w', hr, h2, h3, h4⟩ := app_run w o.type hown B ys cap hR hb hlen
  refine wpList_plain hgd fun _ hK => ?_
  unfold Oper.wp execOp
  simp only [ho, resolve, invoke, builtin, Sem.run_bind, Sem.run_pure, Result.andThen_ok, List.map_toArray, List.map_cons, List.map_nil, hs, hx, hr]
  exact hK _ _ (h v' w' h2 h3 h4)

end Go.Proofs.Yteebkgclopffbaa
