/- Great structs by the kit's row laws: a block stored into whole (wpList_store_row leaves World.setRow), results that lie in a block, a block just made. -/
import Derived.Test.YtcchahgfjnphgaaBase
import Derived.Laws.Rows
import Derived.Laws.ResultCell
namespace Go.Proofs.Ytcchahgfjnphgaa
open Go.RowKit

/-! ### What a call answers that lies in a block: read as a row -/
theorem bk_load {w : World} {g : Nat} {t ty : TypeId} {cs : Array Value} {d : TypeDesc} (h : Bk w g t cs) (hd : (match d with | .struct _ | .array _ _ => true | _ => false) = true) (hu : Try.prog.underlying ty = some d) (hi : (Try.prog.info? ty).map (·.size) = some cs.size) :
    (loadVar ty ⟨g, 0, none⟩).run Try.prog w = .ok (.agg cs) w := run_loadVar_row w g t ty cs (0, 0) d h hu (by revert hd; cases d <;> exact fun h => h) hi
theorem res1 {fn : Func} {R : Ending → World → Prop} {a : Act} {w : World} {p : Tmp} {g : Nat} {t ty : TypeId} {cs : Array Value} {d : TypeDesc} (hr : fn.results = #[.cell p ty]) (h : Bk w g t cs) (hp : a.tmps[p]?.getD undef = .pointer (some ⟨g, 0, none⟩))
    (hd : (match d with | .struct _ | .array _ _ => true | _ => false) = true) (hu : Try.prog.underlying ty = some d) (hi : (Try.prog.info? ty).map (·.size) = some cs.size) (hdf : a.defers = []) (hR : R (.returned (.agg cs)) w) : bodyPost Try.prog fn R .ret a w :=
  bodyPost_ret (v := .agg cs) (by
    simp only [results, hr]
    simp [hp, asAddr, bk_load h hd hu hi]) hdf hR
theorem res2 {fn : Func} {R : Ending → World → Prop} {a : Act} {w : World} {p p1 : Tmp} {g : Nat} {t ty : TypeId} {cs : Array Value} {d : TypeDesc} {v1 : Value} (hr : fn.results = #[.cell p ty, .tmp p1]) (h : Bk w g t cs) (hp : a.tmps[p]?.getD undef = .pointer (some ⟨g, 0, none⟩)) (h1 : a.tmps[p1]?.getD undef = v1)
    (hd : (match d with | .struct _ | .array _ _ => true | _ => false) = true) (hu : Try.prog.underlying ty = some d) (hi : (Try.prog.info? ty).map (·.size) = some cs.size) (hdf : a.defers = []) (hR : R (.returned (.tuple #[.agg cs, v1])) w) : bodyPost Try.prog fn R .ret a w :=
  bodyPost_ret (v := .tuple #[.agg cs, v1]) (by
    simp only [results, hr]
    simp [hp, h1, asAddr, bk_load h hd hu hi]) hdf hR
theorem res3 {fn : Func} {R : Ending → World → Prop} {a : Act} {w : World} {p p1 p2 : Tmp} {g : Nat} {t ty : TypeId} {cs : Array Value} {d : TypeDesc} {v1 v2 : Value} (hr : fn.results = #[.cell p ty, .tmp p1, .tmp p2]) (h : Bk w g t cs) (hp : a.tmps[p]?.getD undef = .pointer (some ⟨g, 0, none⟩)) (h1 : a.tmps[p1]?.getD undef = v1) (h2 : a.tmps[p2]?.getD undef = v2)
    (hd : (match d with | .struct _ | .array _ _ => true | _ => false) = true) (hu : Try.prog.underlying ty = some d) (hi : (Try.prog.info? ty).map (·.size) = some cs.size) (hdf : a.defers = []) (hR : R (.returned (.tuple #[.agg cs, v1, v2])) w) : bodyPost Try.prog fn R .ret a w :=
  bodyPost_ret (v := .tuple #[.agg cs, v1, v2]) (by
    simp only [results, hr]
    simp [hp, h1, h2, asAddr, bk_load h hd hu hi]) hdf hR
theorem row_set {w W7 : World} {g : Nat} {t : TypeId} {old cs : Array Value} (h : Bk w g t old) (hW : w.setRow g cs = W7) : Bk W7 g t cs ∧ Only [g] w W7 := by
  subst hW
  refine ⟨setRow_heap w g old cs t (0, 0) h, rfl, rfl, rfl, by simp [World.setRow], fun k hk hn => ?_⟩
  simp only [World.setRow, Array.getElem?_modify]
  rw [if_neg (by rintro rfl; exact hn (by simp))]
theorem made1 {w W1 : World} {c1 : Array Value} {t1 : TypeId} (h : w.alloc (.cells c1 t1) = W1) : Bk W1 w.heap.size t1 c1 ∧ Only [] w W1 := by
  subst h
  exact ⟨Bk.made w t1 c1, (Only.refl [] w).alloc _⟩
/- The row law's use, in a walk:
    go_wp2_with (refine wpList_store_row (by rfl) _ _ _ (by rfl) BLOCK (CELLS) (by rfl) (by rfl) TYPE _ HB (by kernel_rfl) (by rfl) (by simp [Value.oneCell']) ?_; generalize hW : World.setRow _ _ _ = W; obtain ⟨b, o⟩ := row_set HB hW; clear hW; ..)
  where HB is the block's Bk (of one just made: Bk.made w t zeros). The result: exact res1 Try.results.. b (by rfl) (by rfl) Try.underlying.. (by kernel_rfl) rfl ⟨.., ..⟩. -/

end Go.Proofs.Ytcchahgfjnphgaa
