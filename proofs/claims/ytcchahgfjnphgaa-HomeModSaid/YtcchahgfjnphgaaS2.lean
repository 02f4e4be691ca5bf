/- A row's arguments, of whatever such type: what a walk is told of them. Nothing here speaks of a program in particular. -/
import Derived.Test.YtcchahgfjnphgaaS0
import Derived.ProofKit
import Derived.OpenShut
import Derived.ShutString
import Derived.ChangeOld
import Derived.SizedLaws
import Derived.KernelRfl
namespace Go.Proofs.Ytcchahgfjnphgaa
open Go.ChangeShapes Go.WideShapes Go.ChangeAt Go.RowKit
set_option maxRecDepth 20000

section
variable {H : Type} {enc : TypeId × Value → H} {P : Program} {W : World} {base : Nat} {sp : Nat → Bool} {hd : Bool}
/-- A value of a struct's or an array's type: its cells. -/
theorem flat_agg {f : Nat} {t : TypeId} {ks : List Kd} {v : Value} {d : DataW H} {p : List MemPlace} {r : Reach} {b0 : Nat} (hf : flat P f t = some ks) (hd' : (match P.underlying t with | some (.struct _) => true | some (.array _ _) => true | _ => false) = true)
    (hv : Value.okWide P W r b0 t v) (h : DataW.Trod enc P W base sp hd t v d p) (hw : ∀ m ∈ d.weights P t, m ≤ reachBytes) : ∃ l, v = .agg ⟨l⟩ ∧ Oks W ks l := by
  have hc : ∃ cs, v = .agg cs := by
    unfold Value.okWide at hv
    split at hv
    · rename_i hu
      obtain ⟨cs, h1, _⟩ := hv
      exact ⟨cs, h1⟩
    · rename_i hu
      obtain ⟨cs, h1, _⟩ := hv
      exact ⟨cs, h1⟩
    · rename_i n1 n2
      exfalso
      split at hd'
      · rename_i fs hu
        exact n1 fs hu
      · rename_i n e hu
        exact n2 n e hu
      · cases hd'
  obtain ⟨⟨l⟩, rfl⟩ := hc
  obtain ⟨fuel, hf'⟩ := h
  exact ⟨l, rfl, flat_open f hf hf' hw⟩
/-- A value of one cell. -/
theorem flat_one {f : Nat} {t : TypeId} {k : Kd} {v : Value} {d : DataW H} {p : List MemPlace} (hf : flat P f t = some [k]) (hc : v.cells = #[v])
    (h : DataW.Trod enc P W base sp hd t v d p) (hw : ∀ m ∈ d.weights P t, m ≤ reachBytes) : Kd.ok W k v := by
  obtain ⟨fuel, hf'⟩ := h
  rw [hc] at hf'
  have := flat_open f hf hf' hw
  simp only [Oks] at this
  obtain ⟨u, r, e, h1, _⟩ := this
  injection e with e
  subst e
  exact h1
end
end Go.Proofs.Ytcchahgfjnphgaa
