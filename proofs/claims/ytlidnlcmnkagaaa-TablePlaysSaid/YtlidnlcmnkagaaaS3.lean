/- Rows of the call's own that are written over. Nothing here speaks of a program in particular. -/
import Derived.Test.YtlidnlcmnkagaaaS1
namespace Go.Proofs.Ytlidnlcmnkagaaa
open Go.RowKit
set_option maxRecDepth 20000

/-- v is a row of the call's own, of n things of so many cells, whatever they are. -/
def RwS (w : World) (base : Nat) (e : TypeId) (k : Nat) (v : Value) (n : Nat) : Prop := ∃ xs, w.ownsRow base e k v n xs
theorem OwnS.rw_ {α : Type} {K : Sk α} {w : World} {base : Nat} {v : Value} {xs : List α} (h : OwnS K w base v xs) : RwS w base K.e K.k v xs.length := ⟨_, h⟩
theorem RwS.only {S : List Nat} {w w' : World} {base : Nat} {e : TypeId} {k : Nat} {v : Value} {n : Nat} (h : RwS w base e k v n) (o : Only S w w') (hS : ∀ g, v.ownBlock = some g → g ∉ S) : RwS w' base e k v n := by
  obtain ⟨xs, h⟩ := h
  refine ⟨xs, h.1, ?_⟩
  rcases h.2 with h2 | ⟨g, cap, cur, hv, hb, hg, h3⟩
  · exact .inl h2
  · have hg' : Bk w g e cur := hg
    exact .inr ⟨g, cap, cur, hv, hb, hg'.only o (hS g (by rw [hv]; rfl)), h3⟩
theorem RwS.form {w : World} {base : Nat} {e : TypeId} {k : Nat} {v : Value} {n : Nat} (h : RwS w base e k v n) (hn : 0 < n) : ∃ g cap, v = .slice (some ⟨g, 0, none⟩) n cap ∧ base ≤ g ∧ g < w.heap.size := by
  obtain ⟨xs, h⟩ := h
  exact h.form hn
theorem RwS.own_ge {w : World} {base : Nat} {e : TypeId} {k : Nat} {v : Value} {n : Nat} (h : RwS w base e k v n) : ∀ i ∈ v.ownBlock.toList, base ≤ i ∧ i < w.heap.size := by
  obtain ⟨xs, h⟩ := h
  intro i hi
  have hi' : v.ownBlock = some i := by simpa using hi
  rcases h.2 with ⟨hv, _⟩ | ⟨g', cap, cur, hv, hb, hg', _⟩
  · rw [hv] at hi'; cases hi'
  · rw [hv] at hi'
    injection hi' with hi'
    subst hi'
    exact ⟨hb, Bk.lt (t := e) (cs := cur) hg'⟩
theorem RwS.cell {w : World} {base : Nat} {e : TypeId} {k g cap n : Nat} (h : RwS w base e k (.slice (some ⟨g, 0, none⟩) n cap) n) (j : Nat) (hj : j < n * k) : ∃ u, w.cell? ⟨g, j, none⟩ = some u := by
  obtain ⟨xs, h⟩ := h
  rw [h.cellAt j hj]
  exact ⟨_, List.getElem?_eq_getElem (by rw [h.1]; exact hj)⟩
theorem RwS.free {w : World} {base : Nat} {e : TypeId} {k g cap n : Nat} (h : RwS w base e k (.slice (some ⟨g, 0, none⟩) n cap) n) (j : Nat) : w.frozen? ⟨g, j, none⟩ = false := by
  obtain ⟨xs, h⟩ := h
  rcases h.2 with ⟨hv, _⟩ | ⟨g', cap', cur, hv, hb, hg', _, _, _, hx⟩
  · cases hv
  · injection hv with h1 h2 h3
    injection h1 with h1
    injection h1 with h1
    subst h1
    exact Bk.free (t := e) (cs := cur) hg' j
theorem RwS.set {w : World} {base : Nat} {e : TypeId} {k g cap n : Nat} (h : RwS w base e k (.slice (some ⟨g, 0, none⟩) n cap) n) (i : Nat) (u : Value) : RwS (w.setCell ⟨g, i, none⟩ u) base e k (.slice (some ⟨g, 0, none⟩) n cap) n := by
  obtain ⟨xs, h⟩ := h
  refine ⟨xs.set i u, by rw [List.length_set]; exact h.1, ?_⟩
  rcases h.2 with ⟨hv, _⟩ | ⟨g', cap', cur, hv, hb, hg', h1, h2, h3, hx⟩
  · cases hv
  · injection hv with k1 k2 k3
    injection k1 with k1
    injection k1 with k1
    subst k1 k3
    refine .inr ⟨g, cap, cur.setIfInBounds i u, rfl, hb, Bk.set (t := e) (cs := cur) hg' i u, h1, h2, by rw [Array.size_setIfInBounds]; exact h3, ?_⟩
    rw [Array.toList_setIfInBounds, List.take_set, hx]

/-- s[k:] of a slice that reads as a list. -/
theorem slice_fromS {α : Type} (K : Sk α) (A : Option Addr) (l : List α) (cap k : Nat) (x : Int) (hx : x = (k : Int)) (hk : k ≤ l.length) (hc : l.length ≤ cap) :
    ∃ A', (∀ W, (Instr.slice K.t (.slice A l.length cap) (some (.int .i64 x)) none none).run Try.prog W = .ok (.slice A' (l.length - k) (cap - k)) W) ∧ ∀ W, RdS K W A l → RdS K W A' (l.drop k) := by
  subst hx
  refine ⟨if cap = k then A else A.map (·.add (k * K.k)), fun W => ?_, fun W h => ?_⟩
  · have he : Try.prog.elem K.t = K.e := by simp [Program.elem, K.ht]
    have := run_slice_l (P := Try.prog) (w := W) K.t A l.length cap (by rw [he]; exact K.ht) .i64 (k : Int) (by omega) (by omega)
    have hs : (sizeOf (Try.prog.elem K.t)).run Try.prog = fun w => .ok K.k w := by
      funext w
      rw [he]
      simp [sizeOf, typeInfo, K.hi, K.hk]
    rw [this, hs]
    simp [Result.andThen, sliced]
  · by_cases hkl : k = l.length
    · rw [hkl, List.drop_length]
      exact RdS.nil _ _ _
    · rcases h with rfl | ⟨bl, off, rfl, hb, hcell⟩
      · simp at hk
        simp [hk] at hkl
      · rw [if_neg (by omega)]
        refine .inr ⟨bl, off + k * K.k, ?_, hb, fun j v hj i u hu => ?_⟩
        · simp [Addr.add]
        · rw [List.getElem?_drop] at hj
          have := hcell _ _ hj i u hu
          rw [show off + k * K.k + j * K.k + i = off + (k + j) * K.k + i by rw [Nat.add_mul]; omega]
          exact this
end Go.Proofs.Ytlidnlcmnkagaaa
