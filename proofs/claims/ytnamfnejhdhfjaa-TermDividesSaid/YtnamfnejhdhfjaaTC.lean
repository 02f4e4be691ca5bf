/- Terms that are numbers: Check. -/
import Derived.Test.YtnamfnejhdhfjaaT
namespace Go.Proofs.Ytnamfnejhdhfjaa
open Go.RowKit

theorem Bk.madeAt {w : World} {t : TypeId} {cs : Array Value} {b : Nat} (h : b = w.heap.size) : Bk (w.alloc (.cells cs t)) b t cs := by
  subst h
  exact Bk.made _ _ _
/-- A term's cells in a block, one by one. -/
theorem Bk.seven {w : World} {b : Nat} {t : TypeId} {v0 v1 v2 v3 v4 v5 v6 : Value} (h : Bk w b t #[v0, v1, v2, v3, v4, v5, v6]) :
    w.cell? ⟨b, 0, none⟩ = some v0 ∧ w.cell? ⟨b, 1, none⟩ = some v1 ∧ w.cell? ⟨b, 2, none⟩ = some v2 ∧ w.cell? ⟨b, 3, none⟩ = some v3 ∧ w.cell? ⟨b, 4, none⟩ = some v4 ∧ w.cell? ⟨b, 5, none⟩ = some v5 ∧ w.cell? ⟨b, 6, none⟩ = some v6 :=
  ⟨h.cell0 rfl, h.cell0 rfl, h.cell0 rfl, h.cell0 rfl, h.cell0 rfl, h.cell0 rfl, h.cell0 rfl⟩
/-- mayBe's answer of a term without a list. -/
def May (k n : Int) (x y : Nat) (r : Bool) : Prop := ∀ w, Calls Try.prog 61 #[.agg (tc k n x y)] w fun e w' => e = .returned (.bool r) ∧ Only [] w w'

theorem May.use {k n : Int} {x y : Nat} {r : Bool} (h : May k n x y r) (w : World) : Calls Try.prog 61 #[.agg #[.int .i64 k, .int .i64 n, .complex .f64 x y, .string ⟨#[]⟩, .int .i64 0, .int .i64 0, .slice none 0 0]] w fun e w' => e = .returned (.bool r) ∧ Only [] w w' := h w

set_option maxHeartbeats 1000000 in
theorem through_yes {k n : Int} {x y : Nat} (b : Nat) (w : World) (hb : Bk w b 64 #[.int .i64 0, .int .i64 0]) (hm : May k n x y true) :
    Calls Try.prog 51 #[.pointer (some ⟨b, 0, none⟩), .agg (tc k n x y), .int .i64 0] w fun e w' => e = .returned (.int .i64 0) ∧ Only [b] w w' := by
  have HM := Lib.hid hm
  have HB := Lib.hid hb
  have c0 : ∀ o, (w.alloc o).cell? ⟨b, 0, none⟩ = some (.int .i64 0) := fun o => (hb.alloc o).cell0 rfl
  have hlt := hb.lt
  clear hb hm
  unfold tc
  go_enter Try.func51, Try.ntmps51
  go_wp2_with fail
  (with_reducible refine (HM.out.use _).mono ?_)
  rintro e w1 ⟨rfl, o1⟩
  have O1 := Lib.hid (((Only.refl [] w).alloc (.cells #[.int .i64 k, .int .i64 n, .complex .f64 x y, .string ⟨#[]⟩, .int .i64 0, .int .i64 0, .slice none 0 0] 27)).trans o1 (by simp))
  have HB1 := Lib.hid (HB.out.only O1.out (by simp))
  have BT := Lib.hid ((Bk.made w 27 #[.int .i64 k, .int .i64 n, .complex .f64 x y, .string ⟨#[]⟩, .int .i64 0, .int .i64 0, .slice none 0 0]).only o1 (by simp))
  have d0 := HB1.out.cell0 (i := 0) rfl
  have d1 := HB1.out.cell0 (i := 1) rfl
  have f0 := HB1.out.free 0
  have f1 := HB1.out.free 1
  have hsz : w.heap.size ≠ b := by omega
  have cl : ∀ u v, ((w1.setCell ⟨b, 0, none⟩ u).setCell ⟨b, 1, none⟩ v).cell? ⟨w.heap.size, 6, none⟩ = some (.slice none 0 0) := fun u v => ((BT.out.away (p := ⟨b, 0, none⟩) hsz u).away (p := ⟨b, 1, none⟩) hsz v).cell0 rfl
  have d1' : ∀ u, (w1.setCell ⟨b, 0, none⟩ u).cell? ⟨b, 1, none⟩ = some (.int .i64 0) := fun u => (HB1.out.set 0 u).cell0 (by rfl)
  have f1' : ∀ u, (w1.setCell ⟨b, 0, none⟩ u).frozen? ⟨b, 1, none⟩ = false := fun u => (HB1.out.set 0 u).free 1
  clear o1 c0
  go_wp2_with fail
  refine wp_loop_rounds 1 ?_
  rw [rounds_succ]
  go_wp2_with fail
  go_ret
  exact ⟨rfl, ((O1.out.more (by simp)).set (by simp) _).set (by simp) _⟩
set_option maxHeartbeats 1000000 in
theorem through_no {k n : Int} {x y : Nat} (b : Nat) (w : World) (hb : Bk w b 64 #[.int .i64 0, .int .i64 0]) (hm : May k n x y false) :
    Calls Try.prog 51 #[.pointer (some ⟨b, 0, none⟩), .agg (tc k n x y), .int .i64 0] w fun e w' => e = .returned (.int .i64 30) ∧ Only [b] w w' := by
  have HM := Lib.hid hm
  have HB := Lib.hid hb
  have c0 : ∀ o, (w.alloc o).cell? ⟨b, 0, none⟩ = some (.int .i64 0) := fun o => (hb.alloc o).cell0 rfl
  have hlt := hb.lt
  clear hb hm
  unfold tc
  go_enter Try.func51, Try.ntmps51
  go_wp2_with fail
  (with_reducible refine (HM.out.use _).mono ?_)
  rintro e w1 ⟨rfl, o1⟩
  have O1 := Lib.hid (((Only.refl [] w).alloc (.cells #[.int .i64 k, .int .i64 n, .complex .f64 x y, .string ⟨#[]⟩, .int .i64 0, .int .i64 0, .slice none 0 0] 27)).trans o1 (by simp))
  clear o1 c0
  go_wp2_with fail
  go_ret
  exact ⟨rfl, O1.out.more (by simp)⟩

/-- Check's answer of a term without a list. -/
def Chk (k n : Int) (x y : Nat) (r : Int) : Prop := ∀ w, Calls Try.prog 29 #[.agg (tc k n x y)] w fun e w' => e = .returned (.int .i64 r) ∧ Only [] w w'
theorem Chk.use {k n : Int} {x y : Nat} {r : Int} (h : Chk k n x y r) (w : World) : Calls Try.prog 29 #[.agg #[.int .i64 k, .int .i64 n, .complex .f64 x y, .string ⟨#[]⟩, .int .i64 0, .int .i64 0, .slice none 0 0]] w fun e w' => e = .returned (.int .i64 r) ∧ Only [] w w' := h w
theorem check_of {k n : Int} {x y : Nat} {r : Int} (hm : ∀ b w, Bk w b 64 #[.int .i64 0, .int .i64 0] → Calls Try.prog 51 #[.pointer (some ⟨b, 0, none⟩), .agg #[.int .i64 k, .int .i64 n, .complex .f64 x y, .string ⟨#[]⟩, .int .i64 0, .int .i64 0, .slice none 0 0], .int .i64 0] w fun e w' => e = .returned (.int .i64 r) ∧ Only [b] w w') : Chk k n x y r := by
  intro w
  have HM := Lib.hid hm
  clear hm
  unfold tc
  go_enter Try.func29, Try.ntmps29
  go_wp2_with fail
  (with_reducible refine (HM.out _ _ ?_).mono ?_)
  · exact Bk.madeAt (by simp)
  rintro e w1 ⟨rfl, o1⟩
  have O1 := Lib.hid ((((Only.refl [] w).alloc (.cells #[.int .i64 k, .int .i64 n, .complex .f64 x y, .string ⟨#[]⟩, .int .i64 0, .int .i64 0, .slice none 0 0] 27)).alloc (.cells #[.int .i64 0, .int .i64 0] 64)).trans o1 (by simp))
  clear o1
  go_wp2_with fail
  go_ret
  exact ⟨rfl, O1.out⟩
theorem chk_yes {k n : Int} {x y : Nat} (h : May k n x y true) : Chk k n x y 0 := check_of fun b w hb => through_yes b w hb h
theorem chk_no {k n : Int} {x y : Nat} (h : May k n x y false) : Chk k n x y 30 := check_of fun b w hb => through_no b w hb h
theorem chk_int_yes {n : Int} (h : OkInt n) : Chk 3 n 0 0 0 := chk_yes fun w => may_int_yes n w h
theorem chk_int_no {n : Int} (h : ¬ OkInt n) : Chk 3 n 0 0 30 := chk_no fun w => may_int_no n w h
theorem chk_com {x y : Nat} (hx : OkF x) (hy : OkF y) : Chk 4 0 x y 0 := chk_yes fun w => may_com x y w hx hy

/-- The first of two answers that is none of OK. -/
theorem both_of {k n : Int} {x y : Nat} {k' n' : Int} {x' y' : Nat} {r' : Int} (w : World) (h : Chk k n x y 0) (h' : Chk k' n' x' y' r') :
    Calls Try.prog 9 #[.agg #[.int .i64 k, .int .i64 n, .complex .f64 x y, .string ⟨#[]⟩, .int .i64 0, .int .i64 0, .slice none 0 0], .agg #[.int .i64 k', .int .i64 n', .complex .f64 x' y', .string ⟨#[]⟩, .int .i64 0, .int .i64 0, .slice none 0 0]] w fun e w' => e = .returned (.int .i64 r') ∧ Only [] w w' := by
  have H := Lib.hid h
  have H' := Lib.hid h'
  have BT := Lib.hid (Bk.madeAt (w := w.alloc (.cells #[.int .i64 k, .int .i64 n, .complex .f64 x y, .string ⟨#[]⟩, .int .i64 0, .int .i64 0, .slice none 0 0] 27)) (t := 27) (cs := #[.int .i64 k', .int .i64 n', .complex .f64 x' y', .string ⟨#[]⟩, .int .i64 0, .int .i64 0, .slice none 0 0]) (b := w.heap.size + 1) (by simp))
  clear h h'
  go_enter Try.func9, Try.ntmps9
  go_wp2_with fail
  (with_reducible refine (H.out.use _).mono ?_)
  rintro e w1 ⟨rfl, o1⟩
  have O1 := Lib.hid ((((Only.refl [] w).alloc (.cells #[.int .i64 k, .int .i64 n, .complex .f64 x y, .string ⟨#[]⟩, .int .i64 0, .int .i64 0, .slice none 0 0] 27)).alloc (.cells #[.int .i64 k', .int .i64 n', .complex .f64 x' y', .string ⟨#[]⟩, .int .i64 0, .int .i64 0, .slice none 0 0] 27)).trans o1 (by simp))
  obtain ⟨r0, r1, r2, r3, r4, r5, r6⟩ := (BT.out.only o1 (by simp)).seven
  clear o1
  go_wp2_with fail
  (with_reducible refine (H'.out.use _).mono ?_)
  rintro e w2 ⟨rfl, o2⟩
  have O2 := Lib.hid (O1.out.trans o2 (by simp))
  clear o2
  go_wp2_with fail
  go_ret
  exact ⟨rfl, O2.out⟩
end Go.Proofs.Ytnamfnejhdhfjaa
