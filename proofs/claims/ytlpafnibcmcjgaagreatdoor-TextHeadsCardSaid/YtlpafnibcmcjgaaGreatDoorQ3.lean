/- From the rows' conditions to what the walks take of the library's variables. -/
import Derived.Test.YtlpafnibcmcjgaaGreatDoorMb
import Derived.Test.YtlpafnibcmcjgaaGreatDoorRows
import Derived.Stop.LaidErr
import Derived.Shelf.Vars
import Derived.MakeChecks
namespace Go.Proofs.YtlpafnibcmcjgaaGreatDoor
open Go.RowKit

theorem tabs_data : (Rows.laid_internal_strconv_uint64pow10 : DataW Unit) = Lib.tabData .u64 Lib.pow10Tab := by kernel_rfl
theorem gt_tab : (Tryz.prog.globals[5]?).map (·.type) = some 212 := by kernel_rfl
theorem gt_syn : (Tryz.prog.globals[3]?).map (·.type) = some 124 := by kernel_rfl
theorem gt_rng : (Tryz.prog.globals[4]?).map (·.type) = some 124 := by kernel_rfl
theorem row_err : ∀ u, Tryz.prog.typeName? 3 u = some "*errors.errorString" → u = 219 := typeName_ptr_named (nm := "errors.errorString") (by kernel_rfl) (by kernel_rfl) (by decide)
theorem own_knob : ownKnob Tryz.prog.godebug = none := by kernel_rfl
theorem laid_out : laidOutB Tryz.prog = true := by kernel_rfl
theorem g_last : Tryz.prog.globalNamed "math/bits.deBruijn32tab" = some 8 := by kernel_rfl
theorem vars_of {W : World} {d1 : DataW Unit} {x2 x4 : String × DataW Unit} {r : List (String × DataW Unit)} (hL : laidMet Tryz.prog (("math/bits.deBruijn32tab", d1) :: x2 :: ("internal/strconv.uint64pow10", Rows.laid_internal_strconv_uint64pow10) :: x4 :: ("strconv.ErrRange", Rows.laid_strconv_ErrRange) :: ("strconv.ErrSyntax", Rows.laid_strconv_ErrSyntax) :: r) W)
    (hsh : W.ShapedOpen Tryz.prog) : Vars W := by
  have h3 := hL.tail.tail
  have h5 := h3.tail.tail
  have h6 := h5.tail
  rw [tabs_data] at h3
  obtain ⟨a5, s5, e5, _⟩ := laid_sentinel h5 g_rng gt_rng Tryz.underlying124 row_err Tryz.underlying219 Tryz.underlying221 rfl rfl Tryz.underlying9 (by kernel_rfl) (by kernel_rfl)
  obtain ⟨a6, s6, e6, _⟩ := laid_sentinel h6 g_syn gt_syn Tryz.underlying124 row_err Tryz.underlying219 Tryz.underlying221 rfl rfl Tryz.underlying9 (by kernel_rfl) (by kernel_rfl)
  refine ⟨?_, ⟨_, _, e6⟩, ⟨_, _, e5⟩, Lib.tabIs_of_head g_tab gt_tab Tryz.underlying212 Tryz.underlying193 (by kernel_rfl) (by kernel_rfl) h3, ?_⟩
  · obtain ⟨m, hm⟩ := Go.Proofs.cell_of_shapedOpen_int (P := Tryz.prog) (g := 2) (zero := #[.int .i64 0]) (t := 3) hsh (of_decide_eq_true (by kernel_rfl)) (by kernel_rfl) rfl (by kernel_rfl) (by kernel_rfl) Tryz.underlying3
    obtain ⟨cs, hh, hs, hr⟩ := hsh.1 2 #[.int .i64 0] 3 (of_decide_eq_true (by kernel_rfl)) (by kernel_rfl)
    refine ⟨m, ?_⟩
    have h0 : cs[0]? = some (.int .i64 m) := by simpa [World.cell?, hh] using hm
    simp only [World.var?, g_len, Option.bind_some, hh]
    obtain ⟨l⟩ := cs
    match l, hs, h0 with
    | [v], _, h0 =>
      have : v = .int .i64 m := by simpa using h0
      rw [this]
  · obtain ⟨ps, ⟨g0, t0, cs0, f0, p0, q0, hg0, ht0, hv0, _⟩, _⟩ := hL
    simp only [World.var?, g_last, Option.bind_some] at hv0
    have h8 : 8 < W.heap.size := by
      by_cases h : 8 < W.heap.size
      · exact h
      · rw [Array.getElem?_eq_none (by omega)] at hv0
        cases hv0
    omega
end Go.Proofs.YtlpafnibcmcjgaaGreatDoor
