/- From the row's condition to what the walk takes of the table of names. -/
import Derived.Test.YtgpgcjdneikokaaDoorNE
import Derived.Test.YtgpgcjdneikokaaDoorRows
import Derived.Lib.LaidTab
import Derived.MakeChecks
import Derived.Stop.LaidErr
namespace Go.Proofs.YtgpgcjdneikokaaDoor
open Go.RowKit

/-- An array of strings that reads as these byte rows holds these strings, cell for cell. -/
theorem cells_of_strs {H : Type} {enc : TypeId × Value → H} {P : Program} {w : World} {base : Nat} {sp : Nat → Bool} {held : Bool} {fuel : Nat} {t e : TypeId} {n : Nat} {cs : List Value} {zs : List (List UInt8)} {p : List MemPlace}
    (ht : P.underlying t = some (.array n e)) (he : P.underlying e = some .string) (hce : P.cellsOf e = 1) (hct : P.cellsOf t = n)
    (h : DataW.trod enc P w base sp held fuel t cs = some (.agg (zs.map fun z => .lit (.string z)), p)) : ∀ j z, j < n → zs[j]? = some z → cs[j]? = some (.string ⟨⟨z⟩⟩) := by
  intro j z hj hz
  cases fuel with
  | zero => simp [DataW.trod] at h
  | succ fuel =>
    simp only [DataW.trod, ht, hce, hct, Nat.mul_one] at h
    split at h
    · obtain ⟨xs, hm, hx⟩ := Option.map_eq_some_iff.1 h
      have hxs : xs.map (·.1) = zs.map fun z => (DataW.lit (.string z) : DataW H) := by
        have := congrArg Prod.fst hx
        simpa using this
      obtain ⟨b, hb, hf⟩ := Lib.mapM_at hm j j (by simp [hj])
      obtain ⟨s, hc, rfl, _⟩ := DataW.trod_string he hf
      have h1 : cs[j]? = some (.string s) := by
        have := congrArg (·[0]?) hc
        simpa [List.getElem?_take, List.getElem?_drop] using this
      have h2 : (xs.map (·.1))[j]? = some (DataW.lit (.string s.data.toList) : DataW H) := by simp [hb]
      rw [hxs] at h2
      simp only [List.getElem?_map, hz, Option.map_some, Option.some.injEq, DataW.lit.injEq, Lit.string.injEq] at h2
      rw [h1, h2]
    · cases h
theorem gn : Tryd.prog.globalNamed "carousel/code.names" = some 0 := by kernel_rfl
theorem gn_ty : (Tryd.prog.globals[0]?).map (·.type) = some 40 := by kernel_rfl
theorem nm_data : (Rows.laid_carousel_code_names : DataW Unit) = .agg ((nml.map fun s => s.data.toList).map fun z => .lit (.string z)) := by kernel_rfl
theorem nm_of {W : World} {x : String × DataW Unit} (hL : laidMet Tryd.prog (x :: ("carousel/code.names", Rows.laid_carousel_code_names) :: []) W) : NM W := by
  have h2 := hL.tail
  rw [nm_data] at h2
  obtain ⟨ps, ⟨g', t', cs, fuel, p, q, hg', ht', hvar, hd, _, _⟩, _⟩ := h2
  obtain rfl := Option.some.inj (gn.symm.trans hg')
  obtain rfl := Option.some.inj (gn_ty.symm.trans ht')
  intro j hj
  have hn : nml[j]? = some (nm j) := by
    have h : j < nml.length := hj
    simp [nm, h]
  have hc := cells_of_strs Tryd.underlying40 Tryd.underlying9 (by kernel_rfl) (by kernel_rfl) hd j (nm j).data.toList hj (by rw [List.getElem?_map, hn]; rfl)
  refine World.var?_cell gn hvar j |>.trans ?_
  simpa using hc
end Go.Proofs.YtgpgcjdneikokaaDoor
