/- Served, the document's. -/
import Derived.Test.YtioglpaakmmidaaWServed
namespace Go.Proofs.Ytioglpaakmmidaa
open Go.RowKit

def RS1 (w : World) (l : List Int) (q B1 B : Nat) (v : Value) (wr : World) : Prop :=
  ∃ i : Nat, v = .int .i64 i ∧ i ≤ l.length ∧ Bk wr B1 35 (c3 fun _ => 0) ∧ Bk wr B 35 (c3 fun c => (acc1 l q i c : Nat)) ∧ Only [] w wr
def RS2 (w : World) (l : List Int) (q r h B1 B : Nat) (v : Value) (wr : World) : Prop :=
  ∃ j : Nat, v = .int .i64 j ∧ j ≤ r ∧ Bk wr B1 35 (c3 fun _ => 0) ∧ Bk wr B 35 (c3 fun c => ((acc1 l q l.length c + cnt l h c j : Nat) : Int)) ∧ Only [] w wr
theorem RS1.step {w wr : World} {l : List Int} {q B1 B i k : Nat} {v : Int} (n : Nat) (hi : i < l.length) (hk : k < 3) (e : l.getD i 0 = (k : Int)) (hB : w.heap.size ≤ B) (hne : B1 ≠ B) (h1 : Bk wr B1 35 (c3 fun _ => 0)) (h2 : Bk wr B 35 (c3 fun c => (acc1 l q i c : Nat))) (ho : Only [] w wr)
    (hv : v = acc1 l q i k + q) : RS1 w l q B1 B (.int .i64 ((i : Int) + 1)) ((wr.drewN n).setCell ⟨B, k, none⟩ (.int .i64 v)) := by
  refine ⟨i + 1, by go_num, by omega, (h1.drewN n).away hne _, ?_, (ho.drewN n).set (.inr hB) _⟩
  have h3 := (h2.drewN n).set k (.int .i64 v)
  rw [c3_set (g := fun c => (acc1 l q (i + 1) c : Nat)) _ hk (by
    subst hv
    simp only [acc1_step l _ hi, e, if_true]
    omega) (fun j hj hne => by
      simp only [acc1_step l _ hi, e]
      rw [if_neg (by omega)]
      rfl)] at h3
  exact h3
theorem RS2.step {w wr : World} {l : List Int} {q r h B1 B j k : Nat} {v : Int} (hj : j < r) (hk : k < 3) (e : l.getD ((h + j) % l.length) 0 = (k : Int)) (hB : w.heap.size ≤ B) (hne : B1 ≠ B) (h1 : Bk wr B1 35 (c3 fun _ => 0)) (h2 : Bk wr B 35 (c3 fun c => ((acc1 l q l.length c + cnt l h c j : Nat) : Int))) (ho : Only [] w wr)
    (hv : v = ((acc1 l q l.length k + cnt l h k j : Nat) : Int) + 1) : RS2 w l q r h B1 B (.int .i64 ((j : Int) + 1)) (wr.setCell ⟨B, k, none⟩ (.int .i64 v)) := by
  refine ⟨j + 1, by go_num, by omega, h1.away hne _, ?_, ho.set (.inr hB) _⟩
  have h3 := h2.set k (.int .i64 v)
  rw [c3_set (g := fun c => ((acc1 l q l.length c + cnt l h c (j + 1) : Nat) : Int)) _ hk (by
    subst hv
    simp only [cnt, e, one, if_true]
    omega) (fun i hi hne => by
      simp only [cnt, e, one]
      rw [if_neg (by omega)]
      rfl)] at h3
  exact h3

set_option maxHeartbeats 1000000 in
theorem rserved_any (A : Option Addr) (l : List Int) (cap : Nat) (hand turns : Int) (w : World) (hl : Rd w A l) (hn : l.length ≤ 9223372036854775807) (ht : turns ≤ 9223372036854775807) :
    Calls Try.prog 20 #[.slice A l.length cap, .int .i64 hand, .int .i64 turns] w fun e w' => e = .returned (servV (servF l hand turns) (servE l hand turns)) ∧ Only [] w w' := by
  have K := fun o o' => rcheck_any A l cap ((w.alloc o).alloc o') (hl.only (((Only.refl [] _).alloc o).alloc o') (by simp)) hn
  by_cases hw : IsW l
  · rw [chk_yes hw] at K
    have HK := Lib.hid K
    by_cases hok : (0 ≤ hand ∧ hand < l.length) ∧ 0 ≤ turns
    · obtain ⟨⟨hh0, hh⟩, ht0⟩ := hok
      obtain ⟨h, rfl⟩ := Int.eq_ofNat_of_zero_le hh0
      obtain ⟨T, rfl⟩ := Int.eq_ofNat_of_zero_le ht0
      have hh : h < l.length := by omega
      have hc := chkHand_yes hw hh
      have HL := Lib.hid hl
      have HF := Lib.hid (show servF l h T = fun c => ((cnt l h c T : Nat) : Int) by funext c; unfold servF; rw [if_pos ⟨hc, ht0⟩]; rfl)
      have HE := Lib.hid (show servE l h T = 0 by unfold servE; rw [if_pos hc, if_pos ht0])
      have HW := Lib.hid hw
      have h64 := hw.1
      obtain ⟨q, hq⟩ : ∃ q, q = T / l.length := ⟨_, rfl⟩
      obtain ⟨r, hr⟩ : ∃ r, r = T % l.length := ⟨_, rfl⟩
      have HQ := Lib.hid hq
      have HR := Lib.hid hr
      have hrl : r < l.length := by rw [hr]; exact Nat.mod_lt _ (by omega)
      have e1 : (T : Int).tdiv (l.length : Int) = (q : Int) := by rw [hq]; rfl
      have e3 : ((l.length : Int) == 0) = false := beq_false_of_ne (by omega)
      have e5 : (T : Int) % (l.length : Int) = (r : Int) := by rw [hr]; rfl
      have hqT : q ≤ T := by rw [hq]; exact Nat.div_le_self _ _
      have e4 : IntKind.i64.wrap (q : Int) = (q : Int) := IntWalk.i64_in _ (by omega)
      have E1 := Lib.hid e1
      have E4 := Lib.hid e4
      have E5 := Lib.hid e5
      have HFull := Lib.hid (show ∀ c, acc1 l q l.length c + cnt l h c r = cnt l h c T by intro c; rw [cnt_split l h c T, ← hq, ← hr]; rfl)
      clear K hl hc hw ht0 hn hq hr e1 e4 e5 hh0
      have hz : w.heap.size ≠ w.heap.size + 1 := by omega
      go_enter Try.func20, Try.ntmps20
      go_wp2_with fail
      (with_reducible refine (HK.out _ _).mono ?_)
      rintro e w1 ⟨rfl, o1⟩
      have N0 := Lib.hid (show RS1 w l q w.heap.size (w.heap.size + 1) (.int .i64 0) w1 from ⟨0, rfl, by omega, ((Bk.made w 35 (c3 fun _ => 0)).alloc _).only o1 (by simp), by
        have := (Bk.made (w.alloc (.cells (c3 fun _ => 0) 35)) 35 (c3 fun _ => 0)).only o1 (by simp)
        simpa [acc1, cnt] using this, (((Only.refl _ _).alloc _).alloc _).trans o1 (by simp)⟩)
      clear o1
      go_wp2_with fail
      go_loopw [10] (fun v wr => RS1 w l q w.heap.size (w.heap.size + 1) v wr) (fun v _ => l.length - (intOf v).toNat)
      case atStart => exact N0.out
      case round =>
        clear N0
        obtain ⟨i, rfl, hi, hb1, hb, ho⟩ := hrel
        by_cases hlt : i < l.length
        · obtain ⟨bl, off, rfl, hcell0⟩ := (HL.out.only ho (by simp)).form (by omega)
          have hcell := hcell0 i hlt
          have hx0 := HW.out.at_ hlt
          obtain ⟨k, hk⟩ := Int.eq_ofNat_of_zero_le hx0.1
          have hk3 : k < 3 := by omega
          rw [hk] at hcell
          have hcl := hb.cell0 (c3_at _ hk3)
          have hfr := hb.free k
          have hle := acc1_le l h k T (show i + 1 ≤ l.length by omega) HQ.out
          rw [acc1_step l k hlt, hk, if_pos rfl] at hle
          have NS := Lib.hid (fun n v a => RS1.step (v := v) n hlt hk3 hk (Nat.le_succ _) hz hb1 hb ho a)
          generalize ha : acc1 l q i k = a at *
          clear hcell0 hb1 hb ho hk hx0 ha
          have p1 : 0 ≤ (k : Int) := by omega
          have p2 : (k : Int) < 3 := by omega
          have e6 : IntKind.i64.wrap ((a : Int) + (q : Int)) = (a : Int) + (q : Int) := IntWalk.i64_in _ (by omega)
          have e1 := E1.out
          have e4 := E4.out
          go_wp2_with fail
          refine wp_region_quiet_then 15 (by kernel_rfl) (by kernel_rfl) ?_
          simp only [List.take_succ_cons, List.take_zero, List.drop_succ_cons, List.drop_zero]
          repeat (go_big_quiet_step (fail))
          refine wpQuiet_nil ?_
          intro n
          go_wp2
          go_roundw
          case rel => exact NS.out _ _ rfl
          case measure => simp [intOf]; omega
        · obtain rfl : i = l.length := by omega
          have N1 := Lib.hid (show RS2 w l q r h w.heap.size (w.heap.size + 1) (.int .i64 0) wr from ⟨0, rfl, by omega, hb1, by simpa [cnt] using hb, ho⟩)
          clear hb1 hb ho
          go_wp2_with fail
          obtain ⟨wo, rfl⟩ : ∃ wo : World, wo = wr := ⟨_, rfl⟩
          go_loopw [11] (fun v wr => RS2 w l q r h w.heap.size (w.heap.size + 1) v wr) (fun v _ => r - (intOf v).toNat)
          case atStart => exact N1.out
          case round =>
            clear N1
            obtain ⟨j, rfl, hj, hb1, hb, ho⟩ := hrel
            have e5 := E5.out
            by_cases hjr : j < r
            · obtain ⟨bl, off, rfl, hcell0⟩ := (HL.out.only ho (by simp)).form (by omega)
              have hm : (h + j) % l.length < l.length := Nat.mod_lt _ (by omega)
              have hcell := hcell0 _ hm
              have hx0 := HW.out.at_ hm
              obtain ⟨k, hk⟩ := Int.eq_ofNat_of_zero_le hx0.1
              have hk3 : k < 3 := by omega
              rw [hk] at hcell
              have hcl := hb.cell0 (c3_at _ hk3)
              have hfr := hb.free k
              have hle : acc1 l q l.length k + cnt l h k (j + 1) ≤ T := by
                have h1 := cnt_le l h k T
                rw [← HFull.out] at h1
                have h2 := cnt_mono l h k (show j + 1 ≤ r by omega)
                omega
              simp only [cnt, hk, one, if_true] at hle
              have NS := Lib.hid (fun v a => RS2.step (v := v) hjr hk3 hk (Nat.le_succ _) hz hb1 hb ho a)
              have ha1 : acc1 l q l.length k + cnt l h k j + 1 ≤ T := by omega
              generalize ha : acc1 l q l.length k + cnt l h k j = a at *
              have p1 : 0 ≤ ((h : Int) + (j : Int)) % (l.length : Int) := Int.emod_nonneg _ (by omega)
              have p2 : ((h : Int) + (j : Int)) % (l.length : Int) < (l.length : Int) := Int.emod_lt_of_pos _ (by omega)
              have hd : decide (j < r) = true := decide_eq_true hjr
              clear hcell0 hb1 hb ho hk hx0 ha hle
              go_wp2_with fail
              go_roundw
              case rel => exact NS.out _ rfl
              case measure => simp [intOf]; omega
            · obtain rfl : j = r := by omega
              have hd : decide (j < j) = false := decide_eq_false (by omega)
              obtain ⟨g0, g1, g2⟩ := c3_cells hb
              obtain ⟨z0, z1, z2⟩ := c3_cells hb1
              obtain ⟨f0, f1, f2⟩ := c3_free hb1
              simp only [HFull.out] at g0 g1 g2
              have HO := Lib.hid ho
              clear hb hb1 ho
              go_wp2_with fail
              refine bodyPost_ret (v := .tuple #[.agg #[.int .i64 _, .int .i64 _, .int .i64 _], .int .i64 0]) (by simp [results, Try.results20, go_sem, z0, z1, z2]; exact ⟨rfl, rfl, rfl⟩) rfl ⟨?_, ?_⟩
              · exact congrArg _ (by rw [HE.out, HF.out]; rfl)
              · exact ((HO.out.set (.inr (Nat.le_refl _)) _).set (.inr (Nat.le_refl _)) _).set (.inr (Nat.le_refl _)) _
    · have HV := Lib.hid (show servV (servF l hand turns) (servE l hand turns) = .tuple #[.agg #[.int .i64 0, .int .i64 0, .int .i64 0], .int .i64 1] by
        unfold servE servF servV c3 chkHand
        rw [if_pos hw]
        by_cases h1 : 0 ≤ hand ∧ hand < l.length
        · have h2 : ¬ 0 ≤ turns := fun h => hok ⟨h1, h⟩
          simp [h1, h2]
        · simp [h1])
      have hways : hand < 0 ∨ (0 ≤ hand ∧ (l.length : Int) ≤ hand) ∨ (0 ≤ hand ∧ hand < l.length ∧ turns < 0) := by omega
      rcases hways with h0 | ⟨h0, h1⟩ | ⟨h0, h1, h2⟩
      all_goals
        clear K hl hw hok hn
        go_enter Try.func20, Try.ntmps20
        go_wp2_with fail
        (with_reducible refine (HK.out _ _).mono ?_)
        rintro e w1 ⟨rfl, o1⟩
        obtain ⟨g0, g1, g2⟩ := c3_cells (((Bk.made w 35 (c3 fun _ => 0)).alloc (.cells (c3 fun _ => 0) 35)).only o1 (by simp))
        obtain ⟨f0, f1, f2⟩ := c3_free (((Bk.made w 35 (c3 fun _ => 0)).alloc (.cells (c3 fun _ => 0) 35)).only o1 (by simp))
        have b2 := (Bk.made (w.alloc (.cells (c3 fun _ => 0) 35)) 35 (c3 fun _ => 0)).only o1 (by simp)
        obtain ⟨z0, z1, z2⟩ := c3_cells b2
        rw [World.size_alloc] at z0 z1 z2
        have HO := Lib.hid ((((Only.refl [] w).alloc _).alloc _).trans o1 (by simp))
        clear o1 b2
        go_wp2_with fail
        refine bodyPost_ret (v := .tuple #[.agg #[.int .i64 0, .int .i64 0, .int .i64 0], .int .i64 1]) (by simp [results, Try.results20, go_sem, g0, g1, g2]) rfl ⟨?_, ?_⟩
        · exact congrArg _ HV.out.symm
        · exact ((HO.out.set (.inr (Nat.le_refl _)) _).set (.inr (Nat.le_refl _)) _).set (.inr (Nat.le_refl _)) _
  · rw [chk_no hw] at K
    have HK := Lib.hid K
    have HV := Lib.hid (show servV (servF l hand turns) (servE l hand turns) = .tuple #[.agg #[.int .i64 0, .int .i64 0, .int .i64 0], .int .i64 20] by
      unfold servE servF servV c3
      simp [chkHand_no (hand := hand) hw])
    clear K hl hw hn
    go_enter Try.func20, Try.ntmps20
    go_wp2_with fail
    (with_reducible refine (HK.out _ _).mono ?_)
    rintro e w1 ⟨rfl, o1⟩
    obtain ⟨g0, g1, g2⟩ := c3_cells (((Bk.made w 35 (c3 fun _ => 0)).alloc (.cells (c3 fun _ => 0) 35)).only o1 (by simp))
    obtain ⟨f0, f1, f2⟩ := c3_free (((Bk.made w 35 (c3 fun _ => 0)).alloc (.cells (c3 fun _ => 0) 35)).only o1 (by simp))
    have b2 := (Bk.made (w.alloc (.cells (c3 fun _ => 0) 35)) 35 (c3 fun _ => 0)).only o1 (by simp)
    obtain ⟨z0, z1, z2⟩ := c3_cells b2
    rw [World.size_alloc] at z0 z1 z2
    have HO := Lib.hid ((((Only.refl [] w).alloc _).alloc _).trans o1 (by simp))
    clear o1 b2
    go_wp2_with fail
    refine bodyPost_ret (v := .tuple #[.agg #[.int .i64 0, .int .i64 0, .int .i64 0], .int .i64 20]) (by simp [results, Try.results20, go_sem, g0, g1, g2]) rfl ⟨?_, ?_⟩
    · exact congrArg _ HV.out.symm
    · exact ((HO.out.set (.inr (Nat.le_refl _)) _).set (.inr (Nat.le_refl _)) _).set (.inr (Nat.le_refl _)) _
end Go.Proofs.Ytioglpaakmmidaa
