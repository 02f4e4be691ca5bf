/- Even, the program's. -/
import Derived.Test.YtioglpaakmmidaaWRich
import Derived.Test.YtioglpaakmmidaaG2
namespace Go.Proofs.Ytioglpaakmmidaa
open Go.RowKit

/-- The first k weights together. -/
def psum (W : Cred) : Nat → Int
  | 0 => 0
  | k + 1 => psum W k + W k
theorem psum_ok {W : Cred} (h : ∀ j : Nat, j < 3 → 1 ≤ W j) (ht : psum W 3 ≤ 64) : OkW W ∧ psum W 3 = (allW W : Int) := by
  have h0 := h 0 (by omega)
  have h1 := h 1 (by omega)
  have h2 := h 2 (by omega)
  simp [psum] at h0 h1 h2 ht ⊢
  have ok : OkW W := ⟨h0, h1, h2, by omega⟩
  exact ⟨ok, by rw [ok.all.1]⟩
theorem not_okW {W : Cred} {k : Nat} (hk : k < 3) (h : ∀ j : Nat, j < k → 1 ≤ W j) (hbad : W k < 1 ∨ 64 - psum W k < W k) : ¬ OkW W := by
  intro ok
  have := ok.w0
  have := ok.w1
  have := ok.w2
  have := ok.top
  have hc : k = 0 ∨ k = 1 ∨ k = 2 := by omega
  rcases hc with rfl | rfl | rfl <;> simp [psum] at hbad <;> omega

def E1 (w : World) (W : Cred) (v4 v : Value) (wr : World) : Prop :=
  ∃ k : Nat, v = .int .i64 k ∧ v4 = .int .i64 (psum W k) ∧ k ≤ 3 ∧ (∀ j : Nat, j < k → 1 ≤ W j) ∧ 0 ≤ psum W k ∧ psum W k ≤ 64 ∧ wr = w.alloc (.cells (c3 W) 35)

/-- A wheel in memory of the call's own. -/
def NewE (w : World) (W : Cred) (e : Ending) (w' : World) : Prop :=
  ∃ g, e = .returned (.tuple #[.slice (some ⟨g, 0, none⟩) (allW W) (allW W), .int .i64 0]) ∧ Bk w' g 3 (ics (evs W (allW W) (allW W))) ∧ w.heap.size ≤ g ∧ Only [] w w'

/-- The slots behind i turns: those found, and zeros. -/
def fillE (W : Cred) (n i : Nat) : List Int := evs W n i ++ List.replicate (n - i) 0
theorem fillE_len (W : Cred) {n i : Nat} (h : i ≤ n) : (fillE W n i).length = n := by simp [fillE, evs_len]; omega
theorem fillE_set (W : Cred) {n i : Nat} (h : i < n) : (fillE W n i).set i (pickE W n i) = fillE W n (i + 1) := by
  unfold fillE
  rw [List.set_append_right _ _ (by rw [evs_len]; omega), evs_len, Nat.sub_self, evs_succ, show n - i = (n - (i + 1)) + 1 by omega, List.replicate_succ, List.set_cons_zero, List.append_assoc]
  rfl
theorem fillE_full (W : Cred) (n : Nat) : fillE W n n = evs W n n := by simp [fillE]
theorem fillE_zero (W : Cred) (n : Nat) : fillE W n 0 = List.replicate n 0 := by simp [fillE, evs]

/-- The turns' head. -/
def E2 (w : World) (W : Cred) (n B1 g B : Nat) (v : Value) (wr : World) : Prop :=
  ∃ i : Nat, v = .int .i64 i ∧ i ≤ n ∧ Bk wr B1 35 (c3 W) ∧ Bk wr g 3 (ics (fillE W n i)) ∧ Bk wr B 35 (c3 (crd W n i)) ∧ Only [] w wr
theorem E2.step {w wr : World} {W : Cred} {n B1 g B i : Nat} {v : Int} (hi : i < n) (h1 : B1 ≠ g) (h2 : B1 ≠ B) (h3 : g ≠ B) (hg : w.heap.size ≤ g) (hB : w.heap.size ≤ B) (b1 : Bk wr B1 35 (c3 W)) (b2 : Bk wr g 3 (ics (fillE W n i)))
    (b3 : Bk wr B 35 (c3 (fun c => crd W n i c + W c))) (ho : Only [] w wr) (hv : v = crd W n i (pickE W n i : Nat) + W (pickE W n i : Nat) - n) :
    E2 w W n B1 g B (.int .i64 ((i : Int) + 1)) ((wr.setCell ⟨g, i, none⟩ (.int .i64 (pickE W n i : Nat))).setCell ⟨B, pickE W n i, none⟩ (.int .i64 v)) := by
  have hp := pick_lt W n i
  refine ⟨i + 1, by go_num, by omega, (b1.away h1 _).away h2 _, ?_, ?_, (ho.set (.inr hg) _).set (.inr hB) _⟩
  · have h := (b2.set i (.int .i64 (pickE W n i : Nat))).away (p := ⟨B, pickE W n i, none⟩) h3 (.int .i64 v)
    rw [ics_set, fillE_set W hi] at h
    exact h
  · have h := (b3.away (p := ⟨g, i, none⟩) (Ne.symm h3) (.int .i64 (pickE W n i : Nat))).set (pickE W n i) (.int .i64 v)
    rw [c3_set (g := crd W n (i + 1)) _ hp (by rw [hv, crd_succ, if_pos rfl]) (fun j hj hne => by
      rw [crd_succ, if_neg (by omega)]
      omega)] at h
    exact h
/-- The credits with the first k weights added. -/
def addK (W f : Cred) (k : Nat) : Cred := fun c => f c + (if c < (k : Int) then W c else 0)
/-- The classes' head. -/
def E3 (wo : World) (W f : Cred) (B : Nat) (v : Value) (wr : World) : Prop :=
  ∃ k : Nat, v = .int .i64 k ∧ k ≤ 3 ∧ Bk wr B 35 (c3 (addK W f k)) ∧ Only [B] wo wr
theorem E3.step {wo wr : World} {W f : Cred} {B k : Nat} {v : Int} (n : Nat) (hk : k < 3) (hb : Bk wr B 35 (c3 (addK W f k))) (ho : Only [B] wo wr) (hv : v = f k + W k) :
    E3 wo W f B (.int .i64 ((k : Int) + 1)) ((wr.drewN n).setCell ⟨B, k, none⟩ (.int .i64 v)) := by
  refine ⟨k + 1, by go_num, by omega, ?_, (ho.drewN n).set (.inl (by simp)) _⟩
  have h3 := (hb.drewN n).set k (.int .i64 v)
  rw [c3_set (g := addK W f (k + 1)) _ hk (by
    subst hv
    unfold addK
    rw [if_pos (by omega)]) (fun j hj hne => by
      unfold addK
      by_cases h : j < k
      · rw [if_pos (by omega), if_pos (by omega)]
      · rw [if_neg (by omega), if_neg (by omega)])] at h3
  exact h3
theorem addK_zero (W f : Cred) : c3 (addK W f 0) = c3 f := c3_congr fun j hj => by
  unfold addK
  rw [if_neg (by omega)]
  omega
theorem addK_full (W f : Cred) : c3 (addK W f 3) = c3 (fun c => f c + W c) := c3_congr fun j hj => by
  unfold addK
  rw [if_pos (by omega)]

set_option maxHeartbeats 2000000 in
theorem even_no (W : Cred) (w : World) (hno : ¬ OkW W) :
    Calls Try.prog 21 #[.agg (c3 W)] w fun e w' => e = .returned (.tuple #[.slice none 0 0, .int .i64 1]) ∧ Only [] w w' := by
  have HNO := Lib.hid hno
  clear hno
  unfold c3
  go_enter Try.func21, Try.ntmps21
  go_wp2_with fail
  go_loopw [4, 10] (fun v4 v wr => E1 w W v4 v wr) (fun _ v _ => 3 - (intOf v).toNat)
  case atStart => exact ⟨0, rfl, rfl, by omega, fun j hj => absurd hj (Nat.not_lt_zero j), Int.le_refl _, (by decide : (0 : Int) ≤ 64), rfl⟩
  case round =>
    obtain ⟨k, rfl, rfl, hk, hall, hs0, hs1, rfl⟩ := hrel
    by_cases hk3 : k < 3
    · have hb := Bk.made w 35 (c3 W)
      have g1 := hb.cell0 (c3_at W hk3)
      by_cases h1 : W k < 1
      · generalize hx : W k = x at *
        generalize hs : psum W k = s at *
        clear hall hx hs hb
        go_wp2_with fail
        go_ret2
        exact ⟨rfl, (Only.refl _ _).alloc _⟩
      · by_cases h2 : 64 - psum W k < W k
        · generalize hx : W k = x at *
          generalize hs : psum W k = s at *
          clear hall hx hs hb
          go_wp2_with fail
          go_ret2
          exact ⟨rfl, (Only.refl _ _).alloc _⟩
        · have HN := Lib.hid (show E1 w W (.int .i64 (psum W k + W k)) (.int .i64 ((k : Int) + 1)) (w.alloc (.cells (c3 W) 35)) from ⟨k + 1, by go_num, rfl, by omega, fun j hj => by
            by_cases e : j = k
            · subst e; omega
            · exact hall j (by omega), by simp only [psum]; omega, by simp only [psum]; omega, rfl⟩)
          generalize hx : W k = x at *
          generalize hs : psum W k = s at *
          clear hall hx hs hb
          go_wp2_with fail
          go_roundw
          case rel => exact HN.out
          case measure => simp [intOf]; omega
    · obtain rfl : k = 3 := by omega
      exact absurd (psum_ok hall hs1).1 HNO.out

set_option maxHeartbeats 4000000 in
theorem even_yes (W : Cred) (w : World) (ok : OkW W) :
    Calls Try.prog 21 #[.agg (c3 W)] w (NewE w W) := by
  have OK := Lib.hid ok
  clear ok
  unfold c3
  go_enter Try.func21, Try.ntmps21
  go_wp2_with fail
  go_loopw [4, 10] (fun v4 v wr => E1 w W v4 v wr) (fun _ v _ => 3 - (intOf v).toNat)
  case atStart => exact ⟨0, rfl, rfl, by omega, fun j hj => absurd hj (Nat.not_lt_zero j), Int.le_refl _, (by decide : (0 : Int) ≤ 64), rfl⟩
  case round =>
    obtain ⟨k, rfl, rfl, hk, hall, hs0, hs1, rfl⟩ := hrel
    by_cases hk3 : k < 3
    · have hb := Bk.made w 35 (c3 W)
      have g1 := hb.cell0 (c3_at W hk3)
      by_cases h1 : W k < 1
      · exact absurd OK.out (not_okW hk3 hall (.inl h1))
      · by_cases h2 : 64 - psum W k < W k
        · exact absurd OK.out (not_okW hk3 hall (.inr h2))
        · have HN := Lib.hid (show E1 w W (.int .i64 (psum W k + W k)) (.int .i64 ((k : Int) + 1)) (w.alloc (.cells (c3 W) 35)) from ⟨k + 1, by go_num, rfl, by omega, fun j hj => by
            by_cases e : j = k
            · subst e; omega
            · exact hall j (by omega), by simp only [psum]; omega, by simp only [psum]; omega, rfl⟩)
          generalize hx : W k = x at *
          generalize hs : psum W k = s at *
          clear hall hx hs hb
          go_wp2_with fail
          go_roundw
          case rel => exact HN.out
          case measure => simp [intOf]; omega
    · obtain rfl : k = 3 := by omega
      rw [(psum_ok hall hs1).2]
      obtain ⟨_, hn1, hn2⟩ := OK.out.all
      clear hall hs0 hs1 hk hk3
      have HB1 := Lib.hid (Bk.made w 35 (c3 W))
      have HO1 := Lib.hid ((Only.refl [] w).alloc (.cells (c3 W) 35))
      obtain ⟨n, hn⟩ : ∃ n, n = allW W := ⟨_, rfl⟩
      rw [← hn]
      rw [← hn] at hn1 hn2
      have HN := Lib.hid hn
      clear hn
      go_wp2_with (refine wpList_makeN _ (by rfl) (.tmp 31) (.tmp 31) (by rfl) n _ _ (by rfl) (by rfl) rfl rfl (by omega) ?_; intro w1 bk1 o1; have BK1 := Lib.hid bk1; have O1 := Lib.hid o1; clear bk1 o1)
      have hgw := BK1.out.lt
      have HB1w := Lib.hid (HB1.out.only O1.out (by simp))
      have E20 := Lib.hid (show E2 w W n w.heap.size (w.heap.size + 1) w1.heap.size (.int .i64 0) (w1.alloc (.cells (c3 fun _ => 0) 35)) from
        ⟨0, rfl, by omega, HB1w.out.alloc _, by have h := BK1.out.alloc (.cells (c3 fun _ => 0) 35); rw [World.size_alloc, ← fillE_zero W n] at h; exact h, Bk.made _ _ _, (HO1.out.trans O1.out (by simp)).alloc _⟩)
      obtain ⟨B, hB⟩ : ∃ B, B = w1.heap.size := ⟨_, rfl⟩
      rw [← hB] at E20 hgw ⊢
      simp only [World.size_alloc] at hgw
      have HBB := Lib.hid hB
      clear hB HB1 HO1 BK1 O1 HB1w
      go_loopw [34] (fun v wr => E2 w W n w.heap.size (w.heap.size + 1) B v wr) (fun v _ => n - (intOf v).toNat)
      case atStart => exact E20.out
      case round =>
        clear E20
        obtain ⟨i, rfl, hi, b1, b2, b3, ho⟩ := hrel
        by_cases hlt : i < n
        · have B1' := Lib.hid b1
          have B2' := Lib.hid b2
          have B3' := Lib.hid b3
          have HO := Lib.hid ho
          clear b1 b2 b3 ho
          obtain ⟨wo, rfl⟩ : ∃ wo : World, wo = wr := ⟨_, rfl⟩
          go_wp2_with fail
          go_loopw [37] (fun v wr => E3 wo W (crd W n i) B v wr) (fun v _ => 3 - (intOf v).toNat)
          case atStart => exact ⟨0, rfl, by omega, by rw [addK_zero]; exact B3'.out, Only.refl _ _⟩
          case round =>
            obtain ⟨k, rfl, hk, hb, h3o⟩ := hrel
            by_cases hk3 : k < 3
            · have e1 : addK W (crd W n i) k k = crd W n i k := by
                unfold addK
                rw [if_neg (by omega)]
                omega
              have g1 := hb.cell0 (c3_at _ hk3)
              rw [e1] at g1
              have f1 := hb.free k
              have g2 := (B1'.out.only h3o (by simp; omega)).cell0 (c3_at W hk3)
              have hcb := crd_bound OK.out i hk3
              rw [← HN.out] at hcb
              have hwb : -1000 ≤ W k ∧ W k ≤ 1000 := by
                have := OK.out.w0
                have := OK.out.w1
                have := OK.out.w2
                have := OK.out.top
                have hc : k = 0 ∨ k = 1 ∨ k = 2 := by omega
                rcases hc with rfl | rfl | rfl <;> simp <;> omega
              have HS := Lib.hid (fun q v a => E3.step (v := v) q hk3 hb h3o a)
              generalize W k = x at *
              generalize crd W n i k = y at *
              clear hb h3o e1
              have p1 : 0 ≤ (k : Int) := by omega
              have p2 : (k : Int) < 3 := by omega
              have e6 : IntKind.i64.wrap (y + x) = y + x := IntWalk.i64_in _ (by omega)
              go_wp2_with fail
              refine wp_region_quiet_then 8 (by kernel_rfl) (by kernel_rfl) ?_
              simp only [List.take_succ_cons, List.take_zero, List.drop_succ_cons, List.drop_zero]
              repeat (go_big_quiet_step (fail))
              refine wpQuiet_nil ?_
              intro q
              go_wp2
              go_roundw
              case rel => exact HS.out _ _ rfl
              case measure => simp [intOf]; omega
            · obtain rfl : k = 3 := by omega
              rw [addK_full] at hb
              have hbr := hb
              have R := fun w => richest_any (fun c => crd W n i c + W c) w
              have hpk : bst (fun c => crd W n i c + W c) 3 = pickE W n i := rfl
              rw [hpk] at R
              simp only [c3] at R
              obtain ⟨g0, g1, g2⟩ := c3_cells hb
              have HR := Lib.hid R
              have H3O := Lib.hid h3o
              have HBR := Lib.hid hbr
              clear hb hbr h3o R hpk
              go_wp2_with fail
              (with_reducible refine (HR.out _).mono ?_)
              rintro e w3 ⟨rfl, o3⟩
              have hp := pick_lt W n i
              have b1 := (B1'.out.only H3O.out (by simp; omega)).only o3 (by simp)
              have b2 := (B2'.out.only H3O.out (by simp; omega)).only o3 (by simp)
              have b3 := HBR.out.only o3 (by simp)
              have ho := (HO.out.trans H3O.out (by simp; omega)).trans o3 (by simp)
              have HS := Lib.hid (fun v a => E2.step (v := v) hlt (by omega) (by omega) (by omega) (by omega) (by omega) b1 b2 b3 ho a)
              have f2 := b2.free i
              have c2 := b2.cell0 (ics_at (getElem?_getD (show i < (fillE W n i).length by rw [fillE_len W (by omega)]; exact hlt)))
              have f3 := b3.free (pickE W n i)
              have c3' := b3.cell0 (c3_at _ hp)
              have hcb := crd_bound OK.out i hp
              rw [← HN.out] at hcb
              have hwb : -1000 ≤ W (pickE W n i : Nat) ∧ W (pickE W n i : Nat) ≤ 1000 := by
                have := OK.out.w0
                have := OK.out.w1
                have := OK.out.w2
                have := OK.out.top
                have hc : pickE W n i = 0 ∨ pickE W n i = 1 ∨ pickE W n i = 2 := by omega
                rcases hc with hc | hc | hc <;> rw [hc] <;> simp <;> omega
              have p1 : 0 ≤ (pickE W n i : Int) := by omega
              have p2 : (pickE W n i : Int) < 3 := by omega
              have hne : w.heap.size + 1 ≠ B := by omega
              generalize hp0 : pickE W n i = p at *
              generalize (fillE W n i).getD i 0 = z at *
              generalize hy0 : crd W n i p = y at *
              generalize hx0 : W p = x at *
              clear b1 b2 b3 ho o3 hp0 hy0 hx0 g0 g1 g2
              go_wp2_with fail
              go_roundw
              case rel => exact HS.out _ rfl
              case measure => simp [intOf]; omega
        · obtain rfl : i = n := by omega
          rw [fillE_full] at b2
          have HF := Lib.hid (show NewE w W (.returned (.tuple #[.slice (some ⟨w.heap.size + 1, 0, none⟩) i i, .int .i64 0])) wr from ⟨w.heap.size + 1, by rw [HN.out], by rw [← HN.out]; exact b2, by omega, ho⟩)
          clear b1 b2 b3 ho
          go_wp2_with fail
          go_ret2
          exact HF.out
end Go.Proofs.Ytioglpaakmmidaa
