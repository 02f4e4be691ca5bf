/- What StepReasons calls: the module sum, Do and Reply of no stack, two asks of nothing, words. -/
import Derived.Test.YtafpakdoogdjaaaGreatDoorR0
import Derived.Test.YtafpakdoogdjaaaGreatDoorGShell
namespace Go.Proofs.YtafpakdoogdjaaaGreatDoor
open Go.RowKit
set_option maxRecDepth 1000000

theorem store_com (w : World) (a : Addr) (m : Mode) (k : FloatKind) (x y : Nat) : (store a (.complex k x y) m).run Tryz.prog w = stored Tryz.prog w a (.complex k x y) m := run_store Tryz.prog w a _ m rfl
theorem Bk.madeAt {w : World} {t : TypeId} {cs : Array Value} {b : Nat} (h : b = w.heap.size) : Bk (w.alloc (.cells cs t)) b t cs := by
  subst h
  exact Bk.made _ _ _
theorem Bk.seven {w : World} {b : Nat} {t : TypeId} {v0 v1 v2 v3 v4 v5 v6 : Value} (h : Bk w b t #[v0, v1, v2, v3, v4, v5, v6]) :
    w.cell? ⟨b, 0, none⟩ = some v0 ∧ w.cell? ⟨b, 1, none⟩ = some v1 ∧ w.cell? ⟨b, 2, none⟩ = some v2 ∧ w.cell? ⟨b, 3, none⟩ = some v3 ∧ w.cell? ⟨b, 4, none⟩ = some v4 ∧ w.cell? ⟨b, 5, none⟩ = some v5 ∧ w.cell? ⟨b, 6, none⟩ = some v6 :=
  ⟨h.cell0 rfl, h.cell0 rfl, h.cell0 rfl, h.cell0 rfl, h.cell0 rfl, h.cell0 rfl, h.cell0 rfl⟩
/-- An atom's cells. -/
abbrev at5 (S : ByteArray) : Array Value := #[.int .i64 5, .int .i64 0, .complex .f64 0 0, .string S, .int .i64 0, .int .i64 0, .slice none 0 0]
abbrev ask0 (k : Int) : Array Value := #[.int .i64 k, .int .i64 0, .int .i64 0, .complex .f64 0 0, .string ⟨#[]⟩, .int .i64 0, .int .i64 0, .slice none 0 0, .int .i64 0, .int .i64 0, .complex .f64 0 0, .string ⟨#[]⟩, .int .i64 0, .int .i64 0, .slice none 0 0, .slice none 0 0, .int .i64 0, .int .i64 0, .int .i64 0, .slice none 0 0]
abbrev ans0 : Array Value := #[.bool false, .int .i64 0, .int .i64 0, .complex .f64 0 0, .string ⟨#[]⟩, .int .i64 0, .int .i64 0, .slice none 0 0, .int .i64 0, .slice none 0 0]
abbrev wm : ByteArray := ⟨#[109]⟩
/-- The module sum: a name, and functions somewhere. -/
abbrev md (b c : Nat) : Array Value := #[.string wm, .slice (some ⟨b, 0, none⟩) 1 c]

theorem sum_run : runsLike E0 2 5000 50 5 #[] (.agg (md 6 1)) = true := by kernel_rfl
theorem sum_any (w : World) : Calls Tryz.prog 5 #[] w fun e w1 => (∃ b c, e = .returned (.agg (md b c))) ∧ Only [] w w1 := by
  refine (run_like E0_ok sum_run w).mono ?_
  rintro e w1 ⟨⟨r, v, rfl, h⟩, o⟩
  refine ⟨?_, o⟩
  cases h with
  | @agg _ cs h1 h2 =>
    obtain ⟨l⟩ := cs
    match l, h1 with
    | [x, y], _ =>
      have hx := h2 0 _ x rfl rfl
      have hy := h2 1 _ y rfl rfl
      cases hx
      cases hy
      exact ⟨_, _, rfl⟩

/-- The names of the blocks: two variables, and the module's functions. -/
def r3 (b c : Nat) : Ren := fun k => if k < 2 then some (k, 0) else if k = 2 then some (b, c) else none
theorem r3_dom (b c : Nat) : ∀ k p, r3 b c k = some p → k < 3 := by
  intro k p h
  unfold r3 at h
  by_cases h1 : k < 2
  · omega
  · rw [if_neg h1] at h
    by_cases h2 : k = 2
    · omega
    · rw [if_neg h2] at h; cases h
theorem r3_GR (b c : Nat) : GR 2 (r3 b c) := fun g hg => ⟨0, by simp [r3, hg]⟩
theorem md_VR (b c : Nat) : VR (r3 b c) (.agg (md 2 0)) (.agg (md b c)) := by
  refine .agg rfl fun i v v' h1 h2 => ?_
  match i, h1, h2 with
  | 0, rfl, rfl => exact .string _
  | 1, rfl, rfl =>
    have := VR.slice (r := r3 b c) (b := 2) (o := 0) (b' := b) (x := c) (n := 1) (c := 0) (sp := none) (by simp [r3])
    rwa [Nat.zero_add] at this
theorem do_run : runsIn E0 2 5000 50 4 #[.agg (md 2 0), .pointer none] (W00 3) (.tuple #[.agg (ask0 0), .int .i64 0, .int .i64 1]) = true := by kernel_rfl
theorem do_nil (b c : Nat) (w : World) : Calls Tryz.prog 4 #[.agg (md b c), .pointer none] w fun e w1 => e = .returned (.tuple #[.agg (ask0 0), .int .i64 0, .int .i64 1]) ∧ Only [] w w1 := by
  refine runIn_ok E0_ok do_run ?_ (r3_GR b c) (WR.blank _ (r3_dom b c) w) (W00_ro 3)
  refine ⟨rfl, fun i v v' h1 h2 => ?_⟩
  match i, h1, h2 with
  | 0, rfl, rfl => exact md_VR b c
  | 1, rfl, rfl => exact .pnil
theorem reply_run : runsIn E0 2 5000 50 6 #[.agg (md 2 0), .pointer none, .agg (ask0 2), .agg ans0] (W00 3) (.int .i64 1) = true := by kernel_rfl
theorem reply_nil (b c : Nat) (w : World) : Calls Tryz.prog 6 #[.agg (md b c), .pointer none, .agg (ask0 2), .agg ans0] w fun e w1 => e = .returned (.int .i64 1) ∧ Only [] w w1 := by
  refine runIn_ok E0_ok reply_run ?_ (r3_GR b c) (WR.blank _ (r3_dom b c) w) (W00_ro 3)
  refine ⟨rfl, fun i v v' h1 h2 => ?_⟩
  match i, h1, h2 with
  | 0, rfl, rfl => exact md_VR b c
  | 1, rfl, rfl => exact .pnil
  | 2, rfl, rfl => exact .simple (by kernel_rfl)
  | 3, rfl, rfl => exact .simple (by kernel_rfl)
theorem ask_run : runsTo E0 2 5000 50 10 #[.agg (ask0 0), .agg (ask0 0)] (.bool true) = true := by kernel_rfl
theorem ask_any (w : World) : Calls Tryz.prog 10 #[.agg (ask0 0), .agg (ask0 0)] w fun e w1 => e = .returned (.bool true) ∧ Only [] w w1 :=
  run_to E0_ok ask_run w
end Go.Proofs.YtafpakdoogdjaaaGreatDoor
