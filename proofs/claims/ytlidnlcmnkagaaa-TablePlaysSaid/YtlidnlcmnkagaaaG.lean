/-
  Ints: a slice that reads as a list, a row of the call's own; append, cuts. Nothing here speaks of the program.
-/
import Derived.Test.YtlidnlcmnkagaaaBase
import Derived.Maps.AppendAt
import Derived.ProofKit
import Derived.OpenShut
import Derived.ShutString
import Derived.ChangeOld
namespace Go.Proofs.Ytlidnlcmnkagaaa
open Go.RowKit
set_option maxRecDepth 20000

theorem int_info : (Try.prog.info? 3).map (fun i => (i.zero, i.size, i.bytes)) = some (some (.int .i64 0), 1, 8) := by kernel_rfl
def ics (l : List Int) : Array Value := (l.map (Value.int .i64)).toArray
theorem ics_at {l : List Int} {i : Nat} {x : Int} (h : l[i]? = some x) : (ics l)[i]? = some (.int .i64 x) := by simp [ics, h]
theorem ics_set (l : List Int) (i : Nat) (x : Int) : (ics l).setIfInBounds i (.int .i64 x) = ics (l.set i x) := by simp [ics, List.map_set]
theorem ret_i {a b : Int} (h : a = b) : Ending.returned (.int .i64 a) = .returned (.int .i64 b) := by rw [h]
theorem ret_b {a b : Bool} (h : a = b) : Ending.returned (.bool a) = .returned (.bool b) := by rw [h]
theorem take_len {L : List Int} {c : Nat} (h : c ≤ L.length) : (L.take c).length = c := by simp; omega
theorem getElem?_getD {l : List Int} {k : Nat} (h : k < l.length) : l[k]? = some (l.getD k 0) := by simp [List.getD, h]
theorem getD_mem {l : List Int} {k : Nat} (h : k < l.length) : l.getD k 0 ∈ l := by
  rw [List.getD_eq_getElem?_getD, List.getElem?_eq_getElem h]
  exact List.getElem_mem h
theorem mem_getD {l : List Int} {x : Int} (h : x ∈ l) : ∃ k, k < l.length ∧ l.getD k 0 = x := by
  obtain ⟨k, hk, e⟩ := List.getElem_of_mem h
  exact ⟨k, hk, by rw [List.getD_eq_getElem?_getD, List.getElem?_eq_getElem hk]; exact e⟩
theorem take_snoc {l : List Int} {k : Nat} (h : k < l.length) : l.take (k + 1) = l.take k ++ [l.getD k 0] := by
  rw [List.take_add_one, getElem?_getD h]
  rfl
theorem same_of {xs ys : List Int} (hl : xs.length = ys.length) (h : ∀ j, j < xs.length → xs.getD j 0 = ys.getD j 0) : xs = ys := by
  apply List.ext_getElem?
  intro j
  by_cases hj : j < xs.length
  · rw [getElem?_getD hj, getElem?_getD (by omega), h j hj]
  · rw [List.getElem?_eq_none (by omega), List.getElem?_eq_none (by omega)]


/-- A slice's value at A reads as xs (where it has things at all). -/
def Rd (w : World) (A : Option Addr) (xs : List Int) : Prop :=
  xs = [] ∨ ∃ bl off, A = some ⟨bl, off, none⟩ ∧ bl < w.heap.size ∧ ∀ k x, xs[k]? = some x → w.cell? ⟨bl, off + k, none⟩ = some (.int .i64 x)
theorem Rd.only {w w' : World} {A : Option Addr} {xs : List Int} {S : List Nat} (h : Rd w A xs) (o : Only S w w') (hn : xs ≠ [] → ∀ bl off, A = some ⟨bl, off, none⟩ → bl ∉ S) : Rd w' A xs := by
  rcases h with rfl | ⟨bl, off, e, hb, hc⟩
  · exact .inl rfl
  · by_cases h0 : xs = []
    · exact .inl h0
    · exact .inr ⟨bl, off, e, Nat.lt_of_lt_of_le hb o.size, fun k x hx => (o.cell (p := ⟨bl, off + k, none⟩) hb (hn h0 bl off e)).trans (hc k x hx)⟩
theorem Rd.of_bk {w : World} {G : Nat} {xs : List Int} (h : Bk w G 3 (ics xs)) : Rd w (some ⟨G, 0, none⟩) xs :=
  .inr ⟨G, 0, rfl, h.lt, fun k x hx => by rw [Nat.zero_add]; exact h.cell0 (ics_at hx)⟩
theorem Rd.nil (w : World) (A : Option Addr) : Rd w A [] := .inl rfl

theorem Rd.form {w : World} {A : Option Addr} {xs : List Int} (h : Rd w A xs) (h0 : 0 < xs.length) : ∃ bl off, A = some ⟨bl, off, none⟩ ∧ ∀ k, k < xs.length → w.cell? ⟨bl, off + k, none⟩ = some (.int .i64 (xs.getD k 0)) := by
  rcases h with rfl | ⟨bl, off, e, _, hc⟩
  · simp at h0
  · exact ⟨bl, off, e, fun k hk => hc k _ (getElem?_getD hk)⟩



theorem int_size : (sizeOf 3).run Try.prog = fun w => .ok 1 w := by funext w; kernel_rfl
theorem slice_from (A : Option Addr) (l : List Int) (cap k : Nat) (x : Int) (hx : x = (k : Int)) (hk : k ≤ l.length) (hc : l.length ≤ cap) :
    ∃ A', (∀ W, (Instr.slice 26 (.slice A l.length cap) (some (.int .i64 x)) none none).run Try.prog W = .ok (.slice A' (l.length - k) (cap - k)) W) ∧ ∀ W, Rd W A l → Rd W A' (l.drop k) := by
  subst hx
  refine ⟨if cap = k then A else A.map (·.add (k * 1)), fun W => ?_, fun W h => ?_⟩
  · have := run_slice_l (P := Try.prog) (w := W) 26 A l.length cap Try.underlying26 .i64 (k : Int) (by omega) (by omega)
    rw [this, show Try.prog.elem 26 = 3 from by kernel_rfl, int_size]
    simp [Result.andThen, sliced]
  · by_cases hkl : k = l.length
    · rw [hkl, List.drop_length]
      exact Rd.nil _ _
    · rcases h with rfl | ⟨bl, off, rfl, hb, hcell⟩
      · simp at hk
        simp [hk] at hkl
      · rw [if_neg (by omega)]
        refine .inr ⟨bl, off + k, ?_, hb, fun j v hj => ?_⟩
        · simp [Addr.add]
        · rw [List.getElem?_drop] at hj
          have := hcell _ _ hj
          rw [show off + k + j = off + (k + j) from by omega]
          exact this
theorem slice_to (A : Option Addr) (l : List Int) (cap k : Nat) (x : Int) (hx : x = (k : Int)) (hk : k ≤ l.length) (hc : l.length ≤ cap) :
    ∃ A', (∀ W, (Instr.slice 26 (.slice A l.length cap) none (some (.int .i64 x)) none).run Try.prog W = .ok (.slice A' k cap) W) ∧ ∀ W, Rd W A l → Rd W A' (l.take k) := by
  subst hx
  refine ⟨if cap = 0 then A else A.map (·.add (0 * 1)), fun W => ?_, fun W h => ?_⟩
  · have := run_slice_h (P := Try.prog) (w := W) 26 A l.length cap Try.underlying26 .i64 (k : Int) (by omega) (by omega)
    rw [this, show Try.prog.elem 26 = 3 from by kernel_rfl, int_size]
    simp [Result.andThen, sliced]
  · rcases h with rfl | ⟨bl, off, rfl, hb, hcell⟩
    · rw [List.take_nil]
      exact Rd.nil _ _
    · refine .inr ⟨bl, off, ?_, hb, fun j v hj => ?_⟩
      · simp [Addr.add]
      · rw [List.getElem?_take] at hj
        by_cases h2 : j < k
        · rw [if_pos h2] at hj
          exact hcell _ _ hj
        · rw [if_neg h2] at hj
          cases hj



/-- v is a row of the call's own (from block base on) that holds xs. -/
def OwnL (w : World) (base : Nat) (v : Value) (xs : List Int) : Prop := w.ownsRow base 3 1 v xs.length (xs.map (Value.int .i64))

theorem OwnL.nil (w : World) (base : Nat) : OwnL w base (.slice none 0 0) [] := World.ownsRow_nil _ _ _ _
theorem OwnL.alloc {w : World} {base : Nat} {v : Value} {xs : List Int} (h : OwnL w base v xs) (o : Obj) : OwnL (w.alloc o) base v xs := World.ownsRow.alloc h o
theorem OwnL.form {w : World} {base : Nat} {v : Value} {xs : List Int} (h : OwnL w base v xs) : ∃ A cap, v = .slice A xs.length cap ∧ xs.length ≤ cap ∧ cap ≤ maxLen ∧ Rd w A xs ∧ (∀ bl off, A = some ⟨bl, off, none⟩ → base ≤ bl ∧ v.ownBlock = some bl) := by
  obtain ⟨h1, h2⟩ := h
  rcases h2 with ⟨rfl, h3⟩ | ⟨g, cap, cur, rfl, hg, hh, hn, hm, hs, ht⟩
  · have : xs = [] := List.eq_nil_of_length_eq_zero h3
    subst this
    exact ⟨none, 0, rfl, Nat.le_refl _, by simp [maxLen], Rd.nil _ _, (fun bl off e => by cases e)⟩
  · refine ⟨some ⟨g, 0, none⟩, cap, rfl, hn, hm, .inr ⟨g, 0, rfl, ?_, fun k x hx => ?_⟩, fun bl off e => ?_⟩
    · apply Nat.lt_of_not_le
      intro hle
      rw [Array.getElem?_eq_none hle] at hh
      cases hh
    · have hk : k < xs.length := by
        apply Nat.lt_of_not_le
        intro hle
        rw [List.getElem?_eq_none hle] at hx
        cases hx
      have h5 : cur[k]? = some (Value.int .i64 x) := by
        have h6 : (cur.toList.take (xs.length * 1))[k]? = (xs.map (Value.int .i64))[k]? := by rw [ht]
        rw [List.getElem?_take, if_pos (by omega), List.getElem?_map, hx] at h6
        simpa using h6
      rw [Nat.zero_add]
      simp [World.cell?, hh, h5]
    · injection e with e
      injection e with e1 e2
      subst e1
      exact ⟨hg, rfl⟩

theorem app_run (w : World) {base : Nat} {v : Value} {xs : List Int} (ty : TypeId) (hown : OwnL w base v xs) (B : Option Addr) (ys : List Int) (cap : Nat) (hR : Rd w B ys) (hb : base ≤ w.heap.size) (hlen : xs.length + ys.length ≤ 17592186044416) :
    ∃ v' w', (Builtin.append_ #[26, 26] ty #[v, .slice B ys.length cap]).run Try.prog w = .ok v' w' ∧ OwnL w' base v' (xs ++ ys) ∧ w.grownBy w' v.ownBlock ∧ (v'.ownBlock = v.ownBlock ∨ v'.ownBlock = some w.heap.size) := by
  obtain ⟨i0, hi, hz0, hz1, hz2⟩ := info_parts int_info
  have main : ∀ ad : Addr, (∀ j u, (ys.map (Value.int .i64))[j]? = some u → w.cell? (ad.add j) = some u) →
      ∃ v' w', (Builtin.append_ #[26, 26] ty #[v, .slice (some ad) ys.length cap]).run Try.prog w = .ok v' w' ∧ OwnL w' base v' (xs ++ ys) ∧ w.grownBy w' v.ownBlock ∧ (v'.ownBlock = v.ownBlock ∨ v'.ownBlock = some w.heap.size) := by
    intro ad hc
    obtain ⟨v', w', hr, h2, h3, _, h5⟩ := run_append_own_at (P := Try.prog) w base 26 ty 3 i0 (.int .i64 0) 1 8 Try.underlying26 hi hz0 hz1 hz2 rfl (by omega) v xs.length (xs.map (Value.int .i64)) hown ad ys.length cap (ys.map (Value.int .i64))
      (by simp) hc (by intro u hu; obtain ⟨n, _, rfl⟩ := List.mem_map.1 hu; rfl) (by simp only [maxLen]; omega) (by omega) hb
    refine ⟨v', w', hr, ?_, h3, h5⟩
    unfold OwnL
    rw [List.length_append, List.map_append]
    exact h2
  rcases hR with rfl | ⟨bl, off, rfl, _, hc⟩
  · cases B with
    | none =>
      refine ⟨v, w, ?_, by simpa using hown, World.grownBy.refl _ _, .inl rfl⟩
      rcases hown.2 with ⟨rfl, _⟩ | ⟨g, c, cur, rfl, _, _, hnc, _⟩
      · simp [Builtin.append_, run_underlying Try.underlying26, sizeOf, typeInfo, hi, Builtin.lenOf, Builtin.firstCells]
      · simp [Builtin.append_, run_underlying Try.underlying26, sizeOf, typeInfo, hi, Builtin.lenOf, Builtin.firstCells, hnc, storeCells]
    | some ad => exact main ad (fun j u hu => by simp at hu)
  · refine main _ (fun j u hu => ?_)
    rw [List.getElem?_map] at hu
    rw [Go.WideShapes.add_plain]
    cases hy : ys[j]? with
    | none => rw [hy] at hu; cases hu
    | some y =>
      rw [hy] at hu
      injection hu with hu
      subst hu
      exact hc j y hy

theorem wpList_app (w : World) {ops : Array Oper} {rest : List Oper} {o : Oper} {a : Act} {Q : Exit → Act → World → Prop} (hgd : o.guard = none) (s x : Operand)
    (ho : o.op = .call { callee := .builtin .append, args := #[s, x], argTypes := #[26, 26] })
    {base : Nat} {v : Value} {xs : List Int} (hs : a.eval s = v) (hown : OwnL w base v xs) (B : Option Addr) (ys : List Int) (m cap : Nat) (hx : a.eval x = .slice B m cap) (hm : m = ys.length) (hR : Rd w B ys) (hb : base ≤ w.heap.size) (hlen : xs.length + ys.length ≤ 17592186044416)
    (h : ∀ v' w', OwnL w' base v' (xs ++ ys) → w.grownBy w' v.ownBlock → (v'.ownBlock = v.ownBlock ∨ v'.ownBlock = some w.heap.size) → wpList Try.prog ops Q rest (a.put o.dst v') w') : wpList Try.prog ops Q (o :: rest) a w := by
  subst hm
  obtain ⟨v', w', hr, h2, h3, h4⟩ := app_run w o.type hown B ys cap hR hb hlen
  refine wpList_plain hgd fun _ hK => ?_
  unfold Oper.wp execOp
  simp only [ho, resolve, invoke, builtin, Sem.run_bind, Sem.run_pure, Result.andThen_ok, List.map_toArray, List.map_cons, List.map_nil, hs, hx, hr]
  exact hK _ _ (h v' w' h2 h3 h4)

theorem OwnL.only {S : List Nat} {w w' : World} {base : Nat} {v : Value} {xs : List Int} (h : OwnL w base v xs) (o : Only S w w') (hS : ∀ g, v.ownBlock = some g → g ∉ S) : OwnL w' base v xs := by
  obtain ⟨h1, h2⟩ := h
  refine ⟨h1, ?_⟩
  rcases h2 with h2 | ⟨g, cap, cur, rfl, hg, hh, rest⟩
  · exact .inl h2
  · refine .inr ⟨g, cap, cur, rfl, hg, ?_, rest⟩
    have hlt : g < w.heap.size := by
      apply Nat.lt_of_not_le
      intro hle
      rw [Array.getElem?_eq_none hle] at hh
      cases hh
    exact (o.block g hlt (hS g rfl)).trans hh


theorem OwnL.drewN {w : World} {base : Nat} {v : Value} {xs : List Int} (h : OwnL w base v xs) (k : Nat) : OwnL (w.drewN k) base v xs := h
end Go.Proofs.Ytlidnlcmnkagaaa
