/- A list of windows: rows of a [][]int of the call's own; ring.Windows. -/
import Derived.Test.YteebkgclopffbaaMark
import Derived.Laws.CopyOwn
namespace Go.Proofs.Yteebkgclopffbaa
open Go.RowKit

theorem ints_info : (Try.prog.info? 27).map (fun i => (i.zero, i.size, i.bytes)) = some (some (.slice none 0 0), 1, 24) := by kernel_rfl
theorem under_intss : Try.prog.underlying 40 = some (.slice 27) := by kernel_rfl
theorem elem_ints : Try.prog.elem 27 = 3 := by kernel_rfl

/-- v is a row of the call's own (from block base on) that holds the values us, each a []int. -/
def OwnV (w : World) (base : Nat) (v : Value) (us : List Value) : Prop := w.ownsRow base 27 1 v us.length us
theorem OwnV.nil (w : World) (base : Nat) : OwnV w base (.slice none 0 0) [] := World.ownsRow_nil _ _ _ _
theorem OwnV.alloc {w : World} {base : Nat} {v : Value} {us : List Value} (h : OwnV w base v us) (o : Obj) : OwnV (w.alloc o) base v us := World.ownsRow.alloc h o
theorem OwnV.form {w : World} {base : Nat} {v : Value} {us : List Value} (h : OwnV w base v us) :
    ∃ A cap, v = .slice A us.length cap ∧ us.length ≤ cap ∧ cap ≤ maxLen ∧ ((A = none ∧ us = []) ∨ ∃ g cur, A = some ⟨g, 0, none⟩ ∧ base ≤ g ∧ Bk w g 27 cur ∧ v.ownBlock = some g ∧ ∀ (j : Nat) (u : Value), us[j]? = some u → cur[j]? = some u) := by
  obtain ⟨h1, h2⟩ := h
  rcases h2 with ⟨rfl, h3⟩ | ⟨g, cap, cur, rfl, hg, hh, hn, hm, hs, ht⟩
  · have : us = [] := List.eq_nil_of_length_eq_zero h3
    subst this
    exact ⟨none, 0, rfl, Nat.le_refl _, by simp [maxLen], .inl ⟨rfl, rfl⟩⟩
  · refine ⟨some ⟨g, 0, none⟩, cap, rfl, hn, hm, .inr ⟨g, cur, rfl, hg, hh, rfl, fun j u hu => ?_⟩⟩
    have hk : j < us.length := by
      apply Nat.lt_of_not_le
      intro hle
      rw [List.getElem?_eq_none hle] at hu
      cases hu
    have h6 : (cur.toList.take (us.length * 1))[j]? = us[j]? := by rw [ht]
    rw [List.getElem?_take, if_pos (by omega), hu] at h6
    simpa using h6
/-- What else turned leaves the row. -/
theorem OwnV.only {S : List Nat} {w w' : World} {base : Nat} {v : Value} {us : List Value} (h : OwnV w base v us) (o : Only S w w') (hS : ∀ g, v.ownBlock = some g → g ∉ S) : OwnV w' base v us := by
  obtain ⟨h1, h2⟩ := h
  refine ⟨h1, ?_⟩
  rcases h2 with h2 | ⟨g, cap, cur, rfl, hg, hh, rest⟩
  · exact .inl h2
  · refine .inr ⟨g, cap, cur, rfl, hg, ?_, rest⟩
    have hlt : g < w.heap.size := by
      apply Nat.lt_of_not_le
      intro hle
      rw [Array.getElem?_eq_none hle] at hh
      cases hh
    exact (o.block g hlt (hS g rfl)).trans hh
theorem OwnL.only {S : List Nat} {w w' : World} {base : Nat} {v : Value} {xs : List Int} (h : OwnL w base v xs) (o : Only S w w') (hS : ∀ g, v.ownBlock = some g → g ∉ S) : OwnL w' base v xs := by
  obtain ⟨h1, h2⟩ := h
  refine ⟨h1, ?_⟩
  rcases h2 with h2 | ⟨g, cap, cur, rfl, hg, hh, rest⟩
  · exact .inl h2
  · refine .inr ⟨g, cap, cur, rfl, hg, ?_, rest⟩
    have hlt : g < w.heap.size := by
      apply Nat.lt_of_not_le
      intro hle
      rw [Array.getElem?_eq_none hle] at hh
      cases hh
    exact (o.block g hlt (hS g rfl)).trans hh

/-- append of one []int. -/
theorem wpList_appV (w : World) {ops : Array Oper} {rest : List Oper} {o : Oper} {a : Act} {Q : Exit → Act → World → Prop} (hgd : o.guard = none) (s x : Operand)
    (ho : o.op = .call { callee := .builtin .append, args := #[s, x], argTypes := #[40, 40] })
    {base : Nat} {v : Value} {us : List Value} (hs : a.eval s = v) (hown : OwnV w base v us) (g : Nat) (u : Value) (hx : a.eval x = .slice (some ⟨g, 0, none⟩) 1 1) (hc : Bk w g 27 #[u]) (h1 : u.oneCell' = true) (hb : base ≤ w.heap.size) (hlen : us.length ≤ 1000000000000)
    (h : ∀ v' w', OwnV w' base v' (us ++ [u]) → w.grownBy w' v.ownBlock → (v'.ownBlock = v.ownBlock ∨ v'.ownBlock = some w.heap.size) → wpList Try.prog ops Q rest (a.put o.dst v') w') : wpList Try.prog ops Q (o :: rest) a w := by
  obtain ⟨i0, hi, hz0, hz1, hz2⟩ := info_parts ints_info
  obtain ⟨v', w', hr, h2, h3, _, h5⟩ := run_append_own_at (P := Try.prog) w base 40 o.type 27 i0 (.slice none 0 0) 1 24 under_intss hi hz0 hz1 hz2 rfl (by omega) v us.length us hown ⟨g, 0, none⟩ 1 1 [u]
    (by simp) (fun j y hy => by
      cases j with
      | zero =>
        simp at hy
        subst hy
        exact hc.cell0 rfl
      | succ j => simp at hy) (by intro y hy; simp at hy; rw [hy]; exact h1) (by simp only [maxLen]; omega) (by omega) hb
  refine wpList_plain hgd fun _ hK => ?_
  unfold Oper.wp execOp
  simp only [ho, resolve, invoke, builtin, Sem.run_bind, Sem.run_pure, Result.andThen_ok, List.map_toArray, List.map_cons, List.map_nil, hs, hx, hr]
  refine hK _ _ (h v' w' ?_ h3 h5)
  unfold OwnV
  rw [List.length_append]
  exact h2

/-- The j-th window of n things in block R. -/
def win (R room n j : Nat) : Value := .slice (some ⟨R, j * room, none⟩) (min room (n - j * room)) (min room (n - j * room))
def wins (R room n k : Nat) : List Value := (List.range k).map (win R room n)
theorem wins_succ (R room n k : Nat) : wins R room n (k + 1) = wins R room n k ++ [win R room n k] := by simp [wins, List.range_succ]
theorem wins_len (R room n k : Nat) : (wins R room n k).length = k := by simp [wins]
theorem wins_at {R room n k j : Nat} (h : j < k) : (wins R room n k)[j]? = some (win R room n j) := by simp [wins, h]

theorem cut_hm (R o n m : Nat) (x : Int) (hx : x = (m : Int)) (h1 : 1 ≤ m) (h2 : m ≤ n) (W : World) :
    (Instr.slice 27 (.slice (some ⟨R, o, none⟩) n n) none (some (.int .i64 x)) (some (.int .i64 x))).run Try.prog W = .ok (.slice (some ⟨R, o, none⟩) m m) W := by
  subst hx
  have := run_slice_hm (P := Try.prog) (w := W) 27 (some ⟨R, o, none⟩) n n Try.underlying27 .i64 .i64 (m : Int) (m : Int) (by omega) (by omega) (by omega)
  rw [this, elem_ints, int_size]
  simp [Result.andThen, sliced, Addr.add]
theorem cut_l (R o n m : Nat) (x : Int) (hx : x = (m : Int)) (h1 : 1 ≤ m) (h2 : m ≤ n) (W : World) :
    (Instr.slice 27 (.slice (some ⟨R, o, none⟩) n n) (some (.int .i64 x)) none none).run Try.prog W = .ok (.slice (some ⟨R, if n = m then o else o + m, none⟩) (n - m) (n - m)) W := by
  subst hx
  have := run_slice_l (P := Try.prog) (w := W) 27 (some ⟨R, o, none⟩) n n Try.underlying27 .i64 (m : Int) (by omega) (by omega)
  rw [this, elem_ints, int_size]
  have hm : m ≠ 0 := by omega
  by_cases h : n = m
  · simp [Result.andThen, sliced, h]
  · simp [Result.andThen, sliced, h, Addr.add, hm]

end Go.Proofs.Yteebkgclopffbaa
