/- Served, the program's and the document's. -/
import Derived.Test.YtioglpaakmmidaaWNext
namespace Go.Proofs.Ytioglpaakmmidaa
open Go.RowKit

def c3 (f : Int → Int) : Array Value := #[.int .i64 (f 0), .int .i64 (f 1), .int .i64 (f 2)]
theorem c3_at (f : Int → Int) {k : Nat} (hk : k < 3) : (c3 f)[k]? = some (.int .i64 (f k)) := by
  have h3 : k = 0 ∨ k = 1 ∨ k = 2 := by omega
  rcases h3 with rfl | rfl | rfl <;> rfl
theorem c3_set (f g : Int → Int) {k : Nat} {v : Int} (hk : k < 3) (hv : v = g k) (h : ∀ j : Nat, j < 3 → j ≠ k → g j = f j) : (c3 f).setIfInBounds k (.int .i64 v) = c3 g := by
  have h3 : k = 0 ∨ k = 1 ∨ k = 2 := by omega
  unfold c3
  subst hv
  rcases h3 with rfl | rfl | rfl
  · have h1 := h 1 (by omega) (by omega)
    have h2 := h 2 (by omega) (by omega)
    simp at h1 h2
    simp [h1, h2]
  · have h1 := h 0 (by omega) (by omega)
    have h2 := h 2 (by omega) (by omega)
    simp at h1 h2
    simp [h1, h2]
  · have h1 := h 0 (by omega) (by omega)
    have h2 := h 1 (by omega) (by omega)
    simp at h1 h2
    simp [h1, h2]
theorem c3_congr {f g : Int → Int} (h : ∀ j : Nat, j < 3 → f j = g j) : c3 f = c3 g := by
  have h0 := h 0 (by omega)
  have h1 := h 1 (by omega)
  have h2 := h 2 (by omega)
  simp at h0 h1 h2
  simp [c3, h0, h1, h2]
theorem c3_cells {w : World} {B : Nat} {t : TypeId} {f : Int → Int} (h : Bk w B t (c3 f)) : w.cell? ⟨B, 0, none⟩ = some (.int .i64 (f 0)) ∧ w.cell? ⟨B, 1, none⟩ = some (.int .i64 (f 1)) ∧ w.cell? ⟨B, 2, none⟩ = some (.int .i64 (f 2)) :=
  ⟨h.cell0 rfl, h.cell0 rfl, h.cell0 rfl⟩
theorem c3_free {w : World} {B : Nat} {t : TypeId} {f : Int → Int} (h : Bk w B t (c3 f)) : w.frozen? ⟨B, 0, none⟩ = false ∧ w.frozen? ⟨B, 1, none⟩ = false ∧ w.frozen? ⟨B, 2, none⟩ = false :=
  ⟨h.free 0, h.free 1, h.free 2⟩
def servV (f : Int → Int) (e : Int) : Value := .tuple #[.agg (c3 f), .int .i64 e]

/-- What Served answers. -/
def servF (l : List Int) (hand turns : Int) (c : Int) : Int := if chkHand l hand = 0 ∧ 0 ≤ turns then (cnt l hand.toNat c turns.toNat : Nat) else 0
def servE (l : List Int) (hand turns : Int) : Int := if chkHand l hand = 0 then (if 0 ≤ turns then 0 else 1) else chkHand l hand
theorem servV_of {f g : Int → Int} {e e' x y z : Int} (he : e' = e) (h0 : x = f 0) (h1 : y = f 1) (h2 : z = f 2) (hg : f = g) : Ending.returned (.tuple #[.agg #[.int .i64 x, .int .i64 y, .int .i64 z], .int .i64 e]) = .returned (servV g e') := by
  subst he h0 h1 h2 hg
  rfl

def SRel (w : World) (l : List Int) (q r h B1 B : Nat) (v : Value) (wr : World) : Prop :=
  ∃ i : Nat, v = .int .i64 i ∧ i ≤ l.length ∧ Bk wr B1 35 (c3 fun _ => 0) ∧ Bk wr B 35 (c3 fun c => (acc2 l q r h c i : Nat)) ∧ Only [] w wr

theorem SRel.step {w wr : World} {l : List Int} {q r h B1 B i k : Nat} {v v0 : Int} (hi : i < l.length) (hk : k < 3) (e : l.getD i 0 = (k : Int)) (hB : w.heap.size ≤ B) (hne : B1 ≠ B) (h1 : Bk wr B1 35 (c3 fun _ => 0)) (h2 : Bk wr B 35 (c3 fun c => (acc2 l q r h c i : Nat))) (ho : Only [] w wr)
    (_ : v0 = acc2 l q r h k i + q) (hv : v = acc2 l q r h k i + q + 1) (hr : (i + l.length - h) % l.length < r) :
    SRel w l q r h B1 B (.int .i64 ((i : Int) + 1)) ((wr.setCell ⟨B, k, none⟩ (.int .i64 v0)).setCell ⟨B, k, none⟩ (.int .i64 v)) := by
  refine ⟨i + 1, by go_num, by omega, (h1.away hne _).away hne _, ?_, (ho.set (.inr hB) _).set (.inr hB) _⟩
  have h3 := (h2.set k (.int .i64 v0)).set k (.int .i64 v)
  rw [Array.setIfInBounds_setIfInBounds, c3_set (g := fun c => (acc2 l q r h c (i + 1) : Nat)) _ hk (by
    subst hv
    simp only [acc2, e, if_true, if_pos hr]
    omega) (fun j hj hne => by
      simp only [acc2, e]
      rw [if_neg (by omega)]
      rfl)] at h3
  exact h3
theorem SRel.stay {w wr : World} {l : List Int} {q r h B1 B i k : Nat} {v0 : Int} (hi : i < l.length) (hk : k < 3) (e : l.getD i 0 = (k : Int)) (hB : w.heap.size ≤ B) (hne : B1 ≠ B) (h1 : Bk wr B1 35 (c3 fun _ => 0)) (h2 : Bk wr B 35 (c3 fun c => (acc2 l q r h c i : Nat))) (ho : Only [] w wr)
    (hv0 : v0 = acc2 l q r h k i + q) (hr : ¬ (i + l.length - h) % l.length < r) :
    SRel w l q r h B1 B (.int .i64 ((i : Int) + 1)) (wr.setCell ⟨B, k, none⟩ (.int .i64 v0)) := by
  refine ⟨i + 1, by go_num, by omega, h1.away hne _, ?_, ho.set (.inr hB) _⟩
  have h3 := h2.set k (.int .i64 v0)
  rw [c3_set (g := fun c => (acc2 l q r h c (i + 1) : Nat)) _ hk (by
    subst hv0
    simp only [acc2, e, if_true, if_neg hr]
    omega) (fun j hj hne => by
      simp only [acc2, e]
      rw [if_neg (by omega)]
      rfl)] at h3
  exact h3

set_option maxHeartbeats 1000000 in
theorem served_any (A : Option Addr) (l : List Int) (cap : Nat) (hand turns : Int) (w : World) (hl : Rd w A l) (hn : l.length ≤ 9223372036854775807) (ht : turns ≤ 9223372036854775807) :
    Calls Try.prog 19 #[.slice A l.length cap, .int .i64 hand, .int .i64 turns] w fun e w' => e = .returned (servV (servF l hand turns) (servE l hand turns)) ∧ Only [] w w' := by
  have K := fun o o' => checkHand_any A l cap hand ((w.alloc o).alloc o') (hl.only (((Only.refl [] _).alloc o).alloc o') (by simp)) hn
  by_cases hc : chkHand l hand = 0
  · rw [hc] at K
    have HK := Lib.hid K
    obtain ⟨hw, h, rfl, hh⟩ := chkHand_zero hc
    by_cases ht0 : 0 ≤ turns
    · obtain ⟨T, rfl⟩ := Int.eq_ofNat_of_zero_le ht0
      have HL := Lib.hid hl
      have HF := Lib.hid (show servF l h T = fun c => ((cnt l h c T : Nat) : Int) by funext c; unfold servF; rw [if_pos ⟨hc, ht0⟩]; rfl)
      have HE := Lib.hid (show servE l h T = 0 by unfold servE; rw [if_pos hc, if_pos ht0])
      have HW := Lib.hid hw
      have h64 := hw.1
      obtain ⟨q, hq⟩ : ∃ q, q = T / l.length := ⟨_, rfl⟩
      obtain ⟨r, hr⟩ : ∃ r, r = T % l.length := ⟨_, rfl⟩
      have HQ := Lib.hid hq
      have HR := Lib.hid hr
      have e1 : (T : Int).tdiv (l.length : Int) = (q : Int) := by rw [hq]; rfl
      have e2 : (T : Int).tmod (l.length : Int) = (r : Int) := by rw [hr]; rfl
      have e3 : ((l.length : Int) == 0) = false := beq_false_of_ne (by omega)
      have hqT : q ≤ T := by rw [hq]; exact Nat.div_le_self _ _
      have e4 : IntKind.i64.wrap (q : Int) = (q : Int) := IntWalk.i64_in _ (by omega)
      have HFull := Lib.hid (show ∀ c, acc2 l q r h c l.length = cnt l h c T by intro c; rw [hq, hr]; exact acc2_full l c hh T)
      clear K hl hc hw ht0 hn hq hr
      have hz : w.heap.size ≠ w.heap.size + 1 := by omega
      go_enter Try.func19, Try.ntmps19
      go_wp2_with fail
      (with_reducible refine (HK.out _ _).mono ?_)
      rintro e w1 ⟨rfl, o1⟩
      have N0 := Lib.hid (show SRel w l q r h w.heap.size (w.heap.size + 1) (.int .i64 0) w1 from ⟨0, rfl, by omega, ((Bk.made w 35 (c3 fun _ => 0)).alloc _).only o1 (by simp), by
        have := (Bk.made (w.alloc (.cells (c3 fun _ => 0) 35)) 35 (c3 fun _ => 0)).only o1 (by simp)
        simpa [acc2] using this, (((Only.refl _ _).alloc _).alloc _).trans o1 (by simp)⟩)
      clear o1
      go_wp2_with fail
      go_quiet (fail)
      clear e1 e2 e3 e4
      go_wp2_with fail
      go_loopw [34] (fun v wr => SRel w l q r h w.heap.size (w.heap.size + 1) v wr) (fun v _ => l.length - (intOf v).toNat)
      case atStart => 
        obtain ⟨i, h1, h2, h3, h4, h5⟩ := N0.out
        exact ⟨i, h1, h2, h3, h4, h5.drewN _⟩
      case round =>
        clear N0
        obtain ⟨i, rfl, hi, hb1, hb, ho⟩ := hrel
        by_cases hlt : i < l.length
        · obtain ⟨bl, off, rfl, hcell0⟩ := (HL.out.only ho (by simp)).form (by omega)
          have hcell := hcell0 i hlt
          have hx0 := HW.out.at_ hlt
          obtain ⟨k, hk⟩ := Int.eq_ofNat_of_zero_le hx0.1
          have hk3 : k < 3 := by omega
          rw [hk] at hcell
          have hcl := hb.cell0 (c3_at _ hk3)
          have hfr := hb.free k
          have hle := acc2_le l k hh T (show i + 1 ≤ l.length by omega)
          rw [← HQ.out, ← HR.out] at hle
          simp only [acc2, hk, if_true] at hle
          have q0 : ((i : Int) - (h : Int) + (l.length : Int)) % (l.length : Int) = (((i + l.length - h) % l.length : Nat) : Int) := by rw [show (i : Int) - (h : Int) + (l.length : Int) = ((i + l.length - h : Nat) : Int) by omega]; rfl
          by_cases hy : (i + l.length - h) % l.length < r
          · have NS := Lib.hid (fun v0 v a b => SRel.step (v0 := v0) (v := v) hlt hk3 hk (Nat.le_succ _) hz hb1 hb ho a b hy)
            rw [if_pos hy] at hle
            generalize hm : (i + l.length - h) % l.length = m at *
            generalize ha : acc2 l q r h k i = a at *
            have hd : decide ((m : Int) < (r : Int)) = true := decide_eq_true (by omega)
            clear hcell0 hb1 hb ho hk hx0 hm ha
            go_wp2_with fail
            go_roundw
            case rel => exact NS.out _ _ rfl rfl
            case measure => simp [intOf]; omega
          · have NS := Lib.hid (fun v0 a => SRel.stay (v0 := v0) hlt hk3 hk (Nat.le_succ _) hz hb1 hb ho a hy)
            rw [if_neg hy] at hle
            generalize hm : (i + l.length - h) % l.length = m at *
            generalize ha : acc2 l q r h k i = a at *
            have hd : decide ((m : Int) < (r : Int)) = false := decide_eq_false (by omega)
            clear hcell0 hb1 hb ho hk hx0 hm ha
            go_wp2_with fail
            go_roundw
            case rel => exact NS.out _ rfl
            case measure => simp [intOf]; omega
        · obtain rfl : i = l.length := by omega
          obtain ⟨g0, g1, g2⟩ := c3_cells hb
          obtain ⟨z0, z1, z2⟩ := c3_cells hb1
          obtain ⟨f0, f1, f2⟩ := c3_free hb1
          have HO := Lib.hid ho
          clear hb hb1 ho
          go_wp2_with fail
          refine bodyPost_ret (v := .tuple #[.agg #[.int .i64 _, .int .i64 _, .int .i64 _], .int .i64 0]) (by simp [results, Try.results19, go_sem, z0, z1, z2]; exact ⟨rfl, rfl, rfl⟩) rfl ⟨?_, ?_⟩
          · exact congrArg _ (by rw [HE.out, HF.out]; simp only [servV, c3, HFull.out])
          · exact ((HO.out.set (.inr (Nat.le_refl _)) _).set (.inr (Nat.le_refl _)) _).set (.inr (Nat.le_refl _)) _
    · have HV := Lib.hid (show servV (servF l h turns) (servE l h turns) = .tuple #[.agg #[.int .i64 0, .int .i64 0, .int .i64 0], .int .i64 1] by
        unfold servE servF servV c3
        rw [if_pos hc, if_neg ht0]
        simp only [hc, true_and, if_neg ht0])
      have ht1 : turns < 0 := by omega
      clear K hl hc hw ht0 hn
      go_enter Try.func19, Try.ntmps19
      go_wp2_with fail
      (with_reducible refine (HK.out _ _).mono ?_)
      rintro e w1 ⟨rfl, o1⟩
      obtain ⟨g0, g1, g2⟩ := c3_cells (((Bk.made w 35 (c3 fun _ => 0)).alloc (.cells (c3 fun _ => 0) 35)).only o1 (by simp))
      obtain ⟨f0, f1, f2⟩ := c3_free (((Bk.made w 35 (c3 fun _ => 0)).alloc (.cells (c3 fun _ => 0) 35)).only o1 (by simp))
      have b2 := (Bk.made (w.alloc (.cells (c3 fun _ => 0) 35)) 35 (c3 fun _ => 0)).only o1 (by simp)
      obtain ⟨z0, z1, z2⟩ := c3_cells b2
      rw [World.size_alloc] at z0 z1 z2
      have HO := Lib.hid ((((Only.refl [] w).alloc _).alloc _).trans o1 (by simp))
      clear o1 b2
      go_wp2_with fail
      refine bodyPost_ret (v := .tuple #[.agg #[.int .i64 0, .int .i64 0, .int .i64 0], .int .i64 1]) (by simp [results, Try.results19, go_sem, g0, g1, g2]) rfl ⟨?_, ?_⟩
      · exact congrArg _ HV.out.symm
      · exact ((HO.out.set (.inr (Nat.le_refl _)) _).set (.inr (Nat.le_refl _)) _).set (.inr (Nat.le_refl _)) _
  · have HK := Lib.hid K
    have HV := Lib.hid (show servV (servF l hand turns) (servE l hand turns) = .tuple #[.agg #[.int .i64 0, .int .i64 0, .int .i64 0], .int .i64 (chkHand l hand)] by
      unfold servE servF servV c3
      rw [if_neg hc]
      simp only [hc, false_and, if_false])
    have hcb : (chkHand l hand != 0) = true := by simpa using hc
    generalize chkHand l hand = r at *
    clear K hl hc hn
    go_enter Try.func19, Try.ntmps19
    go_wp2_with fail
    (with_reducible refine (HK.out _ _).mono ?_)
    rintro e w1 ⟨rfl, o1⟩
    obtain ⟨g0, g1, g2⟩ := c3_cells (((Bk.made w 35 (c3 fun _ => 0)).alloc (.cells (c3 fun _ => 0) 35)).only o1 (by simp))
    obtain ⟨f0, f1, f2⟩ := c3_free (((Bk.made w 35 (c3 fun _ => 0)).alloc (.cells (c3 fun _ => 0) 35)).only o1 (by simp))
    have b2 := (Bk.made (w.alloc (.cells (c3 fun _ => 0) 35)) 35 (c3 fun _ => 0)).only o1 (by simp)
    obtain ⟨z0, z1, z2⟩ := c3_cells b2
    rw [World.size_alloc] at z0 z1 z2
    have HO := Lib.hid ((((Only.refl [] w).alloc _).alloc _).trans o1 (by simp))
    clear o1 b2
    go_wp2_with fail
    refine bodyPost_ret (v := .tuple #[.agg #[.int .i64 0, .int .i64 0, .int .i64 0], .int .i64 r]) (by simp [results, Try.results19, go_sem, g0, g1, g2]) rfl ⟨?_, ?_⟩
    · exact congrArg _ HV.out.symm
    · exact ((HO.out.set (.inr (Nat.le_refl _)) _).set (.inr (Nat.le_refl _)) _).set (.inr (Nat.le_refl _)) _

end Go.Proofs.Ytioglpaakmmidaa
