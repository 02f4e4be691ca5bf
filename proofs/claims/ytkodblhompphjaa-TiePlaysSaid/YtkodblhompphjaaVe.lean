/- The document's ties: may a pid be; may a list be what All tells? The document's ties: Load. Rows of the call's own that are written over. Nothing here speaks of a program in particular. -/
import Derived.Test.YtkodblhompphjaaVd
import Derived.Test.YtkodblhompphjaaVa
namespace Go.Proofs.Ytkodblhompphjaa
open Go.RowKit

def okP (p : Pd) : Bool := decide (0 ≤ p.n ∧ p.n < 256 ∧ 1 ≤ p.g ∧ p.g ≤ 4611686018427387903)
theorem rokp_any (p : Pd) (w : World) : Calls Try.prog 57 #[.agg p.cs] w fun e w' => e = .returned (.bool (okP p)) ∧ Only [] w w' := by
  go_enter Try.func57, Try.ntmps57
  go_wp2_with fail
  all_goals
    go_ret
    exact ⟨retB (by rw [Bool.eq_iff_iff]; simp [okP]; omega), (Only.refl _ _).alloc _⟩
def okTie (x : Te) : Bool := okP x.a && (okP x.b && (decide (0 ≤ x.r) && (decide (x.r ≤ 4611686018427387903) && !(x.r == 0 && !befP x.a x.b))))
/-- The first i of a list may be what All tells. -/
def MayTo (l : List Te) (i : Nat) : Prop := ∀ j x, j < i → l[j]? = some x → okTie x = true ∧ ∀ y, 0 < j → l[j - 1]? = some y → aheadT y x = true
def MayT (l : List Te) : Prop := MayTo l l.length
noncomputable instance (l : List Te) : Decidable (MayT l) := Classical.propDecidable _
theorem MayTo.step {l : List Te} {i : Nat} {x : Te} (h : MayTo l i) (hx : l[i]? = some x) (h1 : okTie x = true) (h2 : ∀ y, 0 < i → l[i - 1]? = some y → aheadT y x = true) : MayTo l (i + 1) := fun j z hj hz => by
  by_cases e : j = i
  · subst e
    rw [hx] at hz
    injection hz with hz
    subst hz
    exact ⟨h1, h2⟩
  · exact h j z (by omega) hz
theorem MayT.no {l : List Te} {i : Nat} {x : Te} (hx : l[i]? = some x) (h1 : okTie x = false) : ¬ MayT l := fun h => by
  have := (h i x (List.getElem?_eq_some_iff.1 hx).1 hx).1
  rw [h1] at this
  cases this
theorem MayT.no2 {l : List Te} {i : Nat} {x y : Te} (hx : l[i]? = some x) (h0 : 0 < i) (hy : l[i - 1]? = some y) (h1 : aheadT y x = false) : ¬ MayT l := fun h => by
  have := (h i x (List.getElem?_eq_some_iff.1 hx).1 hx).2 y h0 hy
  rw [h1] at this
  cases this
theorem MayTo.whole {l : List Te} {i : Nat} (h : MayTo l i) (hi : l.length ≤ i) : MayT l := fun j x hj hx => h j x (by omega) hx

set_option maxHeartbeats 8000000 in
theorem rmay_any (A : Option Addr) (xs : List Te) (cap : Nat) (w : World) (h : RdS KT w A xs) (hl : xs.length ≤ 17592186044416) :
    Calls Try.prog 39 #[.slice A xs.length cap] w fun e w' => e = .returned (.bool (decide (MayT xs))) ∧ Only [] w w' := by
  have H := Lib.hid h
  have KP := Lib.hid (fun p w => rokp_any p w)
  have KB := Lib.hid (fun a b w => rbefore_any a b w)
  have KA := Lib.hid (fun a b w => rahead_any a b w)
  clear h
  go_enter Try.func39, Try.ntmps39
  go_wp2_with fail
  go_loopw [3] (fun iv wr => ∃ i : Nat, iv = .int .i64 i ∧ i ≤ xs.length ∧ MayTo xs i ∧ Only [] w wr) (fun iv _ => xs.length - (intOf iv).toNat)
  case atStart => exact ⟨0, rfl, Nat.zero_le _, fun j _ hj => absurd hj (by omega), Only.refl _ _⟩
  case round =>
    obtain ⟨i, rfl, hi, hm, o⟩ := hrel
    have O := Lib.hid o
    by_cases hlt : i < xs.length
    · obtain ⟨bl, off, rfl, hb, hc⟩ := RdT.at5 (H.out.only o (by simp)) (by omega)
      obtain ⟨x, hx⟩ := some_at hlt
      obtain ⟨x0, x1, x2, x3, x4⟩ := hc i x hx
      have HX := Lib.hid hx
      have HM := Lib.hid hm
      have OB := Lib.hid (o.alloc (.cells x.cs 45))
      have BX := Lib.hid (Bk.made wr 45 x.cs)
      clear hc hx hm o hb
      cases ha : okP x.a with
      | false =>
        have K1 : Hid (∀ w, Calls Try.prog 57 #[.agg x.a.cs] w fun e w' => e = .returned (.bool false) ∧ Only [] w w') := Lib.hid (fun w => ha ▸ KP.out x.a w)
        go_wp2_with fail
        (with_reducible refine (K1.out _).mono ?_)
        rintro e w1 ⟨rfl, o1⟩
        go_wp2_with fail
        go_ret
        exact ⟨retB (decide_eq_false (MayT.no HX.out (by simp [okTie, ha]))).symm, OB.out.trans o1 (by simp)⟩
      | true =>
        have K1 : Hid (∀ w, Calls Try.prog 57 #[.agg x.a.cs] w fun e w' => e = .returned (.bool true) ∧ Only [] w w') := Lib.hid (fun w => ha ▸ KP.out x.a w)
        cases hb : okP x.b with
        | false =>
          have K2 : Hid (∀ w, Calls Try.prog 57 #[.agg x.b.cs] w fun e w' => e = .returned (.bool false) ∧ Only [] w w') := Lib.hid (fun w => hb ▸ KP.out x.b w)
          go_wp2_with fail
          (with_reducible refine (K1.out _).mono ?_)
          rintro e w1 ⟨rfl, o1⟩
          have B1 := Lib.hid (BX.out.only o1 (by simp))
          have O1 := Lib.hid (OB.out.trans o1 (by simp))
          have z1 := B1.out.tie
          obtain ⟨z01, z11, z21, z31, z41⟩ := z1
          clear o1
          go_wp2_with fail
          (with_reducible refine (K2.out _).mono ?_)
          rintro e w2 ⟨rfl, o2⟩
          go_wp2_with fail
          go_ret
          exact ⟨retB (decide_eq_false (MayT.no HX.out (by simp [okTie, ha, hb]))).symm, O1.out.trans o2 (by simp)⟩
        | true =>
          have K2 : Hid (∀ w, Calls Try.prog 57 #[.agg x.b.cs] w fun e w' => e = .returned (.bool true) ∧ Only [] w w') := Lib.hid (fun w => hb ▸ KP.out x.b w)
          by_cases hr : 0 ≤ x.r ∧ x.r ≤ 4611686018427387903
          · have q1 : decide (x.r < 0) = false := decide_eq_false (by omega)
            have q2 : decide (4611686018427387903 < x.r) = false := decide_eq_false (by omega)
            cases hz : x.r == 0 with
            | true =>
              cases hf : befP x.a x.b with
              | false =>
                have K3 : Hid (∀ w, Calls Try.prog 61 #[.agg x.a.cs, .agg x.b.cs] w fun e w' => e = .returned (.bool false) ∧ Only [] w w') := Lib.hid (fun w => hf ▸ KB.out x.a x.b w)
                go_wp2_with fail
                (with_reducible refine (K1.out _).mono ?_)
                rintro e w1 ⟨rfl, o1⟩
                have B1 := Lib.hid (BX.out.only o1 (by simp))
                have O1 := Lib.hid (OB.out.trans o1 (by simp))
                have z1 := B1.out.tie
                obtain ⟨z01, z11, z21, z31, z41⟩ := z1
                clear o1
                go_wp2_with fail
                (with_reducible refine (K2.out _).mono ?_)
                rintro e w2 ⟨rfl, o2⟩
                have B2 := Lib.hid (B1.out.only o2 (by simp))
                have O2 := Lib.hid (O1.out.trans o2 (by simp))
                have z2 := B2.out.tie
                obtain ⟨z02, z12, z22, z32, z42⟩ := z2
                clear o2
                go_wp2_with fail
                (with_reducible refine (K3.out _).mono ?_)
                rintro e w3 ⟨rfl, o3⟩
                go_wp2_with fail
                go_ret
                exact ⟨retB (decide_eq_false (MayT.no HX.out (by simp [okTie, ha, hb, hz, hf]))).symm, O2.out.trans o3 (by simp)⟩
              | true =>
                have K3 : Hid (∀ w, Calls Try.prog 61 #[.agg x.a.cs, .agg x.b.cs] w fun e w' => e = .returned (.bool true) ∧ Only [] w w') := Lib.hid (fun w => hf ▸ KB.out x.a x.b w)
                have hok : okTie x = true := by simp [okTie, ha, hb, hf, hr.1, hr.2]
                go_wp2_with fail
                (with_reducible refine (K1.out _).mono ?_)
                rintro e w1 ⟨rfl, o1⟩
                have B1 := Lib.hid (BX.out.only o1 (by simp))
                have O1 := Lib.hid (OB.out.trans o1 (by simp))
                have z1 := B1.out.tie
                obtain ⟨z01, z11, z21, z31, z41⟩ := z1
                clear o1
                go_wp2_with fail
                (with_reducible refine (K2.out _).mono ?_)
                rintro e w2 ⟨rfl, o2⟩
                have B2 := Lib.hid (B1.out.only o2 (by simp))
                have O2 := Lib.hid (O1.out.trans o2 (by simp))
                have z2 := B2.out.tie
                obtain ⟨z02, z12, z22, z32, z42⟩ := z2
                clear o2
                go_wp2_with fail
                (with_reducible refine (K3.out _).mono ?_)
                rintro e w3 ⟨rfl, o3⟩
                have B3 := Lib.hid (B2.out.only o3 (by simp))
                have O3 := Lib.hid (O2.out.trans o3 (by simp))
                have z3 := B3.out.tie
                obtain ⟨z03, z13, z23, z33, z43⟩ := z3
                clear o3
                by_cases hi0 : 0 < i
                · obtain ⟨y, hy⟩ := some_at (show i - 1 < xs.length by omega)
                  obtain ⟨b2, o2', e2, -, hc⟩ := RdT.at5 (H.out.only O3.out (by simp)) (by omega)
                  injection e2 with e2
                  injection e2 with e2 e3
                  subst e2 e3
                  obtain ⟨y0, y1, y2, y3, y4⟩ := hc (i - 1) y hy
                  obtain ⟨k, rfl⟩ : ∃ k, i = k + 1 := ⟨i - 1, by omega⟩
                  rw [Nat.add_sub_cancel] at y0 y1 y2 y3 y4 hy
                  have m1 : IntKind.i64.wrap (((k + 1 : Nat) : Int) - 1) = (k : Int) := by rw [IntWalk.i64_in _ (by omega)]; omega
                  have m2 : (((k + 1 : Nat) : Int) - 1) = (k : Int) := by omega
                  have p0 : 0 ≤ (k : Int) := by omega
                  have p1 : (k : Int) < (xs.length : Int) := by omega
                  have p2 : decide (0 < ((k + 1 : Nat) : Int)) = true := decide_eq_true (by omega)
                  have HY := Lib.hid hy
                  clear hc hy
                  cases hah : aheadT y x with
                  | true =>
                    have K4 : Hid (∀ w, Calls Try.prog 62 #[.agg y.cs, .agg x.cs] w fun e w' => e = .returned (.bool true) ∧ Only [] w w') := Lib.hid (fun w => hah ▸ KA.out y x w)
                    go_wp2_with fail
                    refine wp_region_quiet_then 9 (by kernel_rfl) (by kernel_rfl) ?_
                    simp only [List.take_succ_cons, List.take_zero, List.drop_succ_cons, List.drop_zero]
                    repeat (go_big_quiet_step (fail))
                    refine wpQuiet_nil ?_
                    intro q
                    go_wp2_with fail
                    (with_reducible refine (K4.out _).mono ?_)
                    rintro e w5 ⟨rfl, o5⟩
                    go_wp2_with fail
                    go_roundw
                    case rel => exact ⟨k + 1 + 1, by go_num, by omega, HM.out.step HX.out hok (fun z _ hz => by rw [Nat.add_sub_cancel, HY.out] at hz; injection hz with hz; rw [← hz]; exact hah), (O3.out.drewN q).trans o5 (by simp)⟩
                    case measure => simp [intOf]; omega
                  | false =>
                    have K4 : Hid (∀ w, Calls Try.prog 62 #[.agg y.cs, .agg x.cs] w fun e w' => e = .returned (.bool false) ∧ Only [] w w') := Lib.hid (fun w => hah ▸ KA.out y x w)
                    go_wp2_with fail
                    refine wp_region_quiet_then 9 (by kernel_rfl) (by kernel_rfl) ?_
                    simp only [List.take_succ_cons, List.take_zero, List.drop_succ_cons, List.drop_zero]
                    repeat (go_big_quiet_step (fail))
                    refine wpQuiet_nil ?_
                    intro q
                    go_wp2_with fail
                    (with_reducible refine (K4.out _).mono ?_)
                    rintro e w5 ⟨rfl, o5⟩
                    go_wp2_with fail
                    go_ret
                    exact ⟨retB (decide_eq_false (MayT.no2 HX.out hi0 (by rw [Nat.add_sub_cancel]; exact HY.out) hah)).symm, (O3.out.drewN q).trans o5 (by simp)⟩
                · have e0 : i = 0 := by omega
                  subst e0
                  go_wp2_with fail
                  go_quiet (fail)
                  go_wp2
                  go_roundw
                  case rel => exact ⟨1, by go_num, by omega, HM.out.step HX.out hok (fun z h0 _ => by omega), O3.out.drewN _⟩
                  case measure => simp [intOf]; omega
            | false =>
              have hok : okTie x = true := by simp [okTie, ha, hb, hz, hr.1, hr.2]
              go_wp2_with fail
              (with_reducible refine (K1.out _).mono ?_)
              rintro e w1 ⟨rfl, o1⟩
              have B1 := Lib.hid (BX.out.only o1 (by simp))
              have O1 := Lib.hid (OB.out.trans o1 (by simp))
              have z1 := B1.out.tie
              obtain ⟨z01, z11, z21, z31, z41⟩ := z1
              clear o1
              go_wp2_with fail
              (with_reducible refine (K2.out _).mono ?_)
              rintro e w2 ⟨rfl, o2⟩
              have B2 := Lib.hid (B1.out.only o2 (by simp))
              have O2 := Lib.hid (O1.out.trans o2 (by simp))
              have z2 := B2.out.tie
              obtain ⟨z02, z12, z22, z32, z42⟩ := z2
              clear o2
              by_cases hi0 : 0 < i
              · obtain ⟨y, hy⟩ := some_at (show i - 1 < xs.length by omega)
                obtain ⟨b2, o2', e2, -, hc⟩ := RdT.at5 (H.out.only O2.out (by simp)) (by omega)
                injection e2 with e2
                injection e2 with e2 e3
                subst e2 e3
                obtain ⟨y0, y1, y2, y3, y4⟩ := hc (i - 1) y hy
                obtain ⟨k, rfl⟩ : ∃ k, i = k + 1 := ⟨i - 1, by omega⟩
                rw [Nat.add_sub_cancel] at y0 y1 y2 y3 y4 hy
                have m1 : IntKind.i64.wrap (((k + 1 : Nat) : Int) - 1) = (k : Int) := by rw [IntWalk.i64_in _ (by omega)]; omega
                have m2 : (((k + 1 : Nat) : Int) - 1) = (k : Int) := by omega
                have p0 : 0 ≤ (k : Int) := by omega
                have p1 : (k : Int) < (xs.length : Int) := by omega
                have p2 : decide (0 < ((k + 1 : Nat) : Int)) = true := decide_eq_true (by omega)
                have HY := Lib.hid hy
                clear hc hy
                cases hah : aheadT y x with
                | true =>
                  have K4 : Hid (∀ w, Calls Try.prog 62 #[.agg y.cs, .agg x.cs] w fun e w' => e = .returned (.bool true) ∧ Only [] w w') := Lib.hid (fun w => hah ▸ KA.out y x w)
                  go_wp2_with fail
                  refine wp_region_quiet_then 9 (by kernel_rfl) (by kernel_rfl) ?_
                  simp only [List.take_succ_cons, List.take_zero, List.drop_succ_cons, List.drop_zero]
                  repeat (go_big_quiet_step (fail))
                  refine wpQuiet_nil ?_
                  intro q
                  go_wp2_with fail
                  (with_reducible refine (K4.out _).mono ?_)
                  rintro e w5 ⟨rfl, o5⟩
                  go_wp2_with fail
                  go_roundw
                  case rel => exact ⟨k + 1 + 1, by go_num, by omega, HM.out.step HX.out hok (fun z _ hz => by rw [Nat.add_sub_cancel, HY.out] at hz; injection hz with hz; rw [← hz]; exact hah), (O2.out.drewN q).trans o5 (by simp)⟩
                  case measure => simp [intOf]; omega
                | false =>
                  have K4 : Hid (∀ w, Calls Try.prog 62 #[.agg y.cs, .agg x.cs] w fun e w' => e = .returned (.bool false) ∧ Only [] w w') := Lib.hid (fun w => hah ▸ KA.out y x w)
                  go_wp2_with fail
                  refine wp_region_quiet_then 9 (by kernel_rfl) (by kernel_rfl) ?_
                  simp only [List.take_succ_cons, List.take_zero, List.drop_succ_cons, List.drop_zero]
                  repeat (go_big_quiet_step (fail))
                  refine wpQuiet_nil ?_
                  intro q
                  go_wp2_with fail
                  (with_reducible refine (K4.out _).mono ?_)
                  rintro e w5 ⟨rfl, o5⟩
                  go_wp2_with fail
                  go_ret
                  exact ⟨retB (decide_eq_false (MayT.no2 HX.out hi0 (by rw [Nat.add_sub_cancel]; exact HY.out) hah)).symm, (O2.out.drewN q).trans o5 (by simp)⟩
              · have e0 : i = 0 := by omega
                subst e0
                go_wp2_with fail
                go_quiet (fail)
                go_wp2
                go_roundw
                case rel => exact ⟨1, by go_num, by omega, HM.out.step HX.out hok (fun z h0 _ => by omega), O2.out.drewN _⟩
                case measure => simp [intOf]; omega
          · have hno : okTie x = false := by
              rw [okTie, ha, hb]
              by_cases h0 : 0 ≤ x.r
              · rw [decide_eq_false (show ¬ x.r ≤ 4611686018427387903 by omega)]
                simp
              · rw [decide_eq_false h0]
                simp
            go_wp2_with fail
            (with_reducible refine (K1.out _).mono ?_)
            rintro e w1 ⟨rfl, o1⟩
            have B1 := Lib.hid (BX.out.only o1 (by simp))
            have O1 := Lib.hid (OB.out.trans o1 (by simp))
            have z1 := B1.out.tie
            obtain ⟨z01, z11, z21, z31, z41⟩ := z1
            clear o1
            go_wp2_with fail
            (with_reducible refine (K2.out _).mono ?_)
            rintro e w2 ⟨rfl, o2⟩
            have B2 := Lib.hid (B1.out.only o2 (by simp))
            have O2 := Lib.hid (O1.out.trans o2 (by simp))
            have z2 := B2.out.tie
            obtain ⟨z02, z12, z22, z32, z42⟩ := z2
            clear o2
            by_cases h0 : x.r < 0
            · have q1 : decide (x.r < 0) = true := decide_eq_true h0
              go_wp2_with fail
              go_ret
              exact ⟨retB (decide_eq_false (MayT.no HX.out hno)).symm, O2.out⟩
            · have q1 : decide (x.r < 0) = false := decide_eq_false h0
              have q2 : decide (4611686018427387903 < x.r) = true := decide_eq_true (by omega)
              go_wp2_with fail
              go_ret
              exact ⟨retB (decide_eq_false (MayT.no HX.out hno)).symm, O2.out⟩
    · go_wp2_with fail
      go_ret
      exact ⟨retB (decide_eq_true (hm.whole (by omega))).symm, O.out⟩
end Go.Proofs.Ytkodblhompphjaa

namespace Go.Proofs.Ytkodblhompphjaa
open Go.RowKit

/-- What Load answers of a list. -/
noncomputable def loadE (l : List Te) : Int := if MayT l then (if 1024 < l.length then 150 else 0) else 1
theorem loadE_no {l : List Te} (h : ¬ MayT l) : loadE l = 1 := if_neg h
theorem loadE_big {l : List Te} (h : MayT l) (hl : 1024 < l.length) : loadE l = 150 := by rw [loadE, if_pos h, if_pos hl]
theorem loadE_yes {l : List Te} (h : MayT l) (hl : ¬ 1024 < l.length) : loadE l = 0 := by rw [loadE, if_pos h, if_neg hl]
set_option maxHeartbeats 4000000 in
theorem rload_any (A : Option Addr) (xs : List Te) (cap : Nat) (w : World) (h : RdS KT w A xs) (hl : xs.length ≤ 17592186044416) :
    Calls Try.prog 14 #[.slice A xs.length cap] w fun e w' => ∃ f v l, e = .returned (.tuple #[.agg (tiC f v), .int .i64 (loadE xs)]) ∧ OwnS KT w' w.heap.size v l ∧ (loadE xs = 0 → f = true ∧ l = xs) ∧ (loadE xs ≠ 0 → f = false ∧ l = []) ∧ Only [] w w' := by
  have H := Lib.hid h
  have O := Lib.hid ((Only.refl [] w).alloc (.cells (tiC false (.slice none 0 0)) 27))
  have BR := Lib.hid (Bk.made w 27 (tiC false (.slice none 0 0)))
  have HS := Lib.hid (show w.heap.size + 1 ≤ (w.alloc (.cells (tiC false (.slice none 0 0)) 27)).heap.size by simp)
  have K := Lib.hid (rmay_any A xs cap _ (h.only O.out (by simp)) hl)
  have L : w.heap.size ≤ w.heap.size := Nat.le_refl _
  clear h
  by_cases hm : MayT xs
  · rw [decide_eq_true hm] at K
    by_cases hb : 1024 < xs.length
    · have HE := Lib.hid (loadE_big hm hb)
      clear hm
      go_enter Try.func14, Try.ntmps14
      go_wp2_with fail
      (with_reducible refine K.out.mono ?_)
      rintro e w1 ⟨rfl, o1⟩
      have B1 := BR.out.only o1 (by simp)
      have z0 := B1.cell0 (i := 0) rfl
      have z1 := B1.cell0 (i := 1) rfl
      have zf := B1.free
      have O1 := Lib.hid (O.out.trans o1 (by simp))
      clear o1 B1
      go_wp2_with fail
      refine bodyPost_ret (v := .tuple #[.agg (tiC false (.slice none 0 0)), .int .i64 150]) (by simp [results, Try.results14, go_sem, z0, z1]) rfl ⟨false, .slice none 0 0, [], by rw [HE.out], OwnS.nil _ _ _, fun h => by rw [HE.out] at h; simp at h, fun _ => ⟨rfl, rfl⟩, ((O1.out.set (.inr L) _).set (.inr L) _)⟩
    · have HE := Lib.hid (loadE_yes hm hb)
      clear hm
      go_enter Try.func14, Try.ntmps14
      go_wp2_with fail
      (with_reducible refine K.out.mono ?_)
      rintro e w1 ⟨rfl, o1⟩
      have O1 := Lib.hid (O.out.trans o1 (by simp))
      have B1 := Lib.hid ((BR.out.only o1 (by simp)).alloc (.cells (tiC true (.slice none 0 0)) 27))
      have BO := Lib.hid (Bk.made w1 27 (tiC true (.slice none 0 0)))
      have hs1 := o1.size
      have HS1 := Lib.hid (show w.heap.size + 1 ≤ w1.heap.size from Nat.le_trans HS.out hs1)
      have LL : (([] : List Te).length + xs.length) * KT.by' ≤ 140737488355328 := by show (0 + xs.length) * 40 ≤ _; omega
      have hlt1 : w.heap.size < w1.heap.size := by have := HS1.out; omega
      clear o1 hs1
      go_wp2_with (at_builtin; refine wpList_appS KT _ (by rfl) (.tmp 15) (.tmp 16) (by rfl) (base := w1.heap.size + 1) (v := .slice none 0 0) (xs := []) (by rfl) (OwnS.nil _ _ _) A xs xs.length cap (by rfl) rfl ((H.out.only O1.out (by simp)).alloc _) (by simp) LL ?_; intro v' w6 hown hgrow hat; have o6 : Only [] (w1.alloc (.cells (tiC true (.slice none 0 0)) 27)) w6 := Only.of_grown hgrow; have e2 := B1.out.only o6 (by simp); have e3 := BO.out.only o6 (by simp); have E4 := Lib.hid ((O1.out.alloc _).trans o6 (by simp)); obtain ⟨A2, c2, hv2, -⟩ := hown.form; subst hv2; have k0 := e3.cell0 (i := 0) rfl; have k1 := e3.cell0 (i := 1) rfl; have kf := e3.free; have z0 := e2.cell0 (i := 0) rfl; have z1 := e2.cell0 (i := 1) rfl; have zf := e2.free; have EO : Hid (OwnS KT w6 (w1.heap.size + 1) (.slice A2 xs.length c2) xs) := Lib.hid (by simpa using hown); clear hgrow hown hat e2 e3 o6)
      have L1 : w.heap.size ≤ w1.heap.size := by omega
      have oo := (((Only.refl [w.heap.size, w1.heap.size] w6).set (p := ⟨w1.heap.size, 1, none⟩) (.inl (by simp)) (.slice A2 xs.length c2)).set (p := ⟨w.heap.size, 0, none⟩) (.inl (by simp)) (.bool true)).set (p := ⟨w.heap.size, 1, none⟩) (.inl (by simp)) (.slice A2 xs.length c2)
      refine bodyPost_ret (v := .tuple #[.agg (tiC true (.slice A2 xs.length c2)), .int .i64 0]) (by simp [results, Try.results14, go_sem, z0, z1]) rfl ⟨true, _, xs, by rw [HE.out], ?_, fun _ => ⟨rfl, rfl⟩, fun h => absurd HE.out h, (((E4.out.set (.inr L1) _).set (.inr L) _).set (.inr L) _)⟩
      exact (EO.out.low (by omega)).only oo (fun g' hg' => by have := (EO.out.block hg').1; simp; omega)
  · rw [decide_eq_false hm] at K
    have HE := Lib.hid (loadE_no hm)
    clear hm
    go_enter Try.func14, Try.ntmps14
    go_wp2_with fail
    (with_reducible refine K.out.mono ?_)
    rintro e w1 ⟨rfl, o1⟩
    have B1 := BR.out.only o1 (by simp)
    have z0 := B1.cell0 (i := 0) rfl
    have z1 := B1.cell0 (i := 1) rfl
    have zf := B1.free
    have O1 := Lib.hid (O.out.trans o1 (by simp))
    clear o1 B1
    go_wp2_with fail
    refine bodyPost_ret (v := .tuple #[.agg (tiC false (.slice none 0 0)), .int .i64 1]) (by simp [results, Try.results14, go_sem, z0, z1]) rfl ⟨false, .slice none 0 0, [], by rw [HE.out], OwnS.nil _ _ _, fun h => by rw [HE.out] at h; simp at h, fun _ => ⟨rfl, rfl⟩, ((O1.out.set (.inr L) _).set (.inr L) _)⟩
end Go.Proofs.Ytkodblhompphjaa

namespace Go.Proofs.Ytkodblhompphjaa
open Go.RowKit
set_option maxRecDepth 20000

/-- v is a row of the call's own, of n things of so many cells, whatever they are. -/
def RwS (w : World) (base : Nat) (e : TypeId) (k : Nat) (v : Value) (n : Nat) : Prop := ∃ xs, w.ownsRow base e k v n xs
theorem OwnS.rw_ {α : Type} {K : Sk α} {w : World} {base : Nat} {v : Value} {xs : List α} (h : OwnS K w base v xs) : RwS w base K.e K.k v xs.length := ⟨_, h⟩
theorem RwS.only {S : List Nat} {w w' : World} {base : Nat} {e : TypeId} {k : Nat} {v : Value} {n : Nat} (h : RwS w base e k v n) (o : Only S w w') (hS : ∀ g, v.ownBlock = some g → g ∉ S) : RwS w' base e k v n := by
  obtain ⟨xs, h⟩ := h
  refine ⟨xs, h.1, ?_⟩
  rcases h.2 with h2 | ⟨g, cap, cur, hv, hb, hg, h3⟩
  · exact .inl h2
  · have hg' : Bk w g e cur := hg
    exact .inr ⟨g, cap, cur, hv, hb, hg'.only o (hS g (by rw [hv]; rfl)), h3⟩
theorem RwS.form {w : World} {base : Nat} {e : TypeId} {k : Nat} {v : Value} {n : Nat} (h : RwS w base e k v n) (hn : 0 < n) : ∃ g cap, v = .slice (some ⟨g, 0, none⟩) n cap ∧ base ≤ g ∧ g < w.heap.size := by
  obtain ⟨xs, h⟩ := h
  exact h.form hn
theorem RwS.own_ge {w : World} {base : Nat} {e : TypeId} {k : Nat} {v : Value} {n : Nat} (h : RwS w base e k v n) : ∀ i ∈ v.ownBlock.toList, base ≤ i ∧ i < w.heap.size := by
  obtain ⟨xs, h⟩ := h
  intro i hi
  have hi' : v.ownBlock = some i := by simpa using hi
  rcases h.2 with ⟨hv, _⟩ | ⟨g', cap, cur, hv, hb, hg', _⟩
  · rw [hv] at hi'; cases hi'
  · rw [hv] at hi'
    injection hi' with hi'
    subst hi'
    exact ⟨hb, Bk.lt (t := e) (cs := cur) hg'⟩
theorem RwS.cell {w : World} {base : Nat} {e : TypeId} {k g cap n : Nat} (h : RwS w base e k (.slice (some ⟨g, 0, none⟩) n cap) n) (j : Nat) (hj : j < n * k) : ∃ u, w.cell? ⟨g, j, none⟩ = some u := by
  obtain ⟨xs, h⟩ := h
  rw [h.cellAt j hj]
  exact ⟨_, List.getElem?_eq_getElem (by rw [h.1]; exact hj)⟩
theorem RwS.free {w : World} {base : Nat} {e : TypeId} {k g cap n : Nat} (h : RwS w base e k (.slice (some ⟨g, 0, none⟩) n cap) n) (j : Nat) : w.frozen? ⟨g, j, none⟩ = false := by
  obtain ⟨xs, h⟩ := h
  rcases h.2 with ⟨hv, _⟩ | ⟨g', cap', cur, hv, hb, hg', _, _, _, hx⟩
  · cases hv
  · injection hv with h1 h2 h3
    injection h1 with h1
    injection h1 with h1
    subst h1
    exact Bk.free (t := e) (cs := cur) hg' j
theorem RwS.set {w : World} {base : Nat} {e : TypeId} {k g cap n : Nat} (h : RwS w base e k (.slice (some ⟨g, 0, none⟩) n cap) n) (i : Nat) (u : Value) : RwS (w.setCell ⟨g, i, none⟩ u) base e k (.slice (some ⟨g, 0, none⟩) n cap) n := by
  obtain ⟨xs, h⟩ := h
  refine ⟨xs.set i u, by rw [List.length_set]; exact h.1, ?_⟩
  rcases h.2 with ⟨hv, _⟩ | ⟨g', cap', cur, hv, hb, hg', h1, h2, h3, hx⟩
  · cases hv
  · injection hv with k1 k2 k3
    injection k1 with k1
    injection k1 with k1
    subst k1 k3
    refine .inr ⟨g, cap, cur.setIfInBounds i u, rfl, hb, Bk.set (t := e) (cs := cur) hg' i u, h1, h2, by rw [Array.size_setIfInBounds]; exact h3, ?_⟩
    rw [Array.toList_setIfInBounds, List.take_set, hx]

/-- s[k:] of a slice that reads as a list. -/
theorem slice_fromS {α : Type} (K : Sk α) (A : Option Addr) (l : List α) (cap k : Nat) (x : Int) (hx : x = (k : Int)) (hk : k ≤ l.length) (hc : l.length ≤ cap) :
    ∃ A', (∀ W, (Instr.slice K.t (.slice A l.length cap) (some (.int .i64 x)) none none).run Try.prog W = .ok (.slice A' (l.length - k) (cap - k)) W) ∧ ∀ W, RdS K W A l → RdS K W A' (l.drop k) := by
  subst hx
  refine ⟨if cap = k then A else A.map (·.add (k * K.k)), fun W => ?_, fun W h => ?_⟩
  · have he : Try.prog.elem K.t = K.e := by simp [Program.elem, K.ht]
    have := run_slice_l (P := Try.prog) (w := W) K.t A l.length cap (by rw [he]; exact K.ht) .i64 (k : Int) (by omega) (by omega)
    have hs : (sizeOf (Try.prog.elem K.t)).run Try.prog = fun w => .ok K.k w := by
      funext w
      rw [he]
      simp [sizeOf, typeInfo, K.hi, K.hk]
    rw [this, hs]
    simp [Result.andThen, sliced]
  · by_cases hkl : k = l.length
    · rw [hkl, List.drop_length]
      exact RdS.nil _ _ _
    · rcases h with rfl | ⟨bl, off, rfl, hb, hcell⟩
      · simp at hk
        simp [hk] at hkl
      · rw [if_neg (by omega)]
        refine .inr ⟨bl, off + k * K.k, ?_, hb, fun j v hj i u hu => ?_⟩
        · simp [Addr.add]
        · rw [List.getElem?_drop] at hj
          have := hcell _ _ hj i u hu
          rw [show off + k * K.k + j * K.k + i = off + (k + j) * K.k + i by rw [Nat.add_mul]; omega]
          exact this
end Go.Proofs.Ytkodblhompphjaa
