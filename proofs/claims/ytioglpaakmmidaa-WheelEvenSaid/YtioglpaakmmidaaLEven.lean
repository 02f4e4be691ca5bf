/- The law WheelEven, walked. -/
import Derived.Test.YtioglpaakmmidaaLEvens
import Derived.Test.YtioglpaakmmidaaLGaps
namespace Go.Proofs.Ytioglpaakmmidaa
open Go.RowKit

def cntF (L : List Int) (i : Nat) : Int → Int := fun c => (((L.take i).count c : Nat) : Int)
def CRel (w : World) (W : Cred) (n B1 g B : Nat) (v : Value) (wr : World) : Prop :=
  ∃ i : Nat, v = .int .i64 i ∧ i ≤ n ∧ Bk wr B1 35 (c3 W) ∧ Bk wr g 3 (ics (evs W n n)) ∧ Bk wr B 35 (c3 (cntF (evs W n n) i)) ∧ Only [] w wr
theorem CRel.step {w wr : World} {W : Cred} {n B1 g B i k : Nat} {v : Int} (q : Nat) (hi : i < n) (hk : k < 3) (e : (evs W n n).getD i 0 = (k : Int)) (h2 : B1 ≠ B) (h3 : g ≠ B) (hB : w.heap.size ≤ B) (b1 : Bk wr B1 35 (c3 W)) (b2 : Bk wr g 3 (ics (evs W n n)))
    (b3 : Bk wr B 35 (c3 (cntF (evs W n n) i))) (ho : Only [] w wr) (hv : v = cntF (evs W n n) i k + 1) :
    CRel w W n B1 g B (.int .i64 ((i : Int) + 1)) ((wr.drewN q).setCell ⟨B, k, none⟩ (.int .i64 v)) := by
  refine ⟨i + 1, by go_num, by omega, (b1.drewN q).away h2 _, (b2.drewN q).away h3 _, ?_, (ho.drewN q).set (.inr hB) _⟩
  have h := (b3.drewN q).set k (.int .i64 v)
  have hil : i < (evs W n n).length := by rw [evs_len]; exact hi
  rw [c3_set (g := cntF (evs W n n) (i + 1)) _ hk (by
    rw [hv]
    unfold cntF
    rw [take_snoc hil, e, List.count_append]
    simp) (fun j hj hne => by
    unfold cntF
    rw [take_snoc hil, e, List.count_append, List.count_eq_zero_of_not_mem (l := [(k : Int)]) (by simp; omega)]
    simp)] at h
  exact h
theorem cntF_full {W : Cred} (ok : OkW W) : c3 (cntF (evs W (allW W) (allW W)) (allW W)) = c3 W := c3_congr fun j hj => by
  unfold cntF
  rw [← evs_cnt W (allW W) (c := j) (Nat.le_refl _)]
  exact cntE_full ok hj

set_option maxHeartbeats 2000000 in
theorem evenl_no (W : Cred) (w : World) (hno : ¬ OkW W) :
    Calls Try.prog 8 #[.agg (c3 W)] w fun e w' => e = .returned (.bool true) ∧ Only [] w w' := by
  have K1 := fun wx => even_no W wx hno
  have K2 := fun wx => reven_no W wx hno
  simp only [c3] at K1 K2
  have HK1 := Lib.hid K1
  have HK2 := Lib.hid K2
  have HB := Lib.hid (Bk.made w 35 (c3 W))
  have HO := Lib.hid ((Only.refl [] w).alloc (.cells (c3 W) 35))
  clear K1 K2 hno
  unfold c3
  go_enter Try.func8, Try.ntmps8
  go_wp2_with fail
  (with_reducible refine (HK1.out _).mono ?_)
  rintro e w1 ⟨rfl, o1⟩
  have O1 := Lib.hid (HO.out.trans o1 (by simp))
  obtain ⟨c0, c1, c2⟩ := c3_cells (HB.out.only o1 (by simp))
  clear o1
  go_wp2_with fail
  (with_reducible refine (HK2.out _).mono ?_)
  rintro e w2 ⟨rfl, o2⟩
  have O2 := Lib.hid (O1.out.trans o2 (by simp))
  clear o2 c0 c1 c2
  go_wp2_with fail
  (with_reducible refine (awake_any _).mono ?_)
  rintro e w3 ⟨rfl, o3⟩
  have O3 := Lib.hid (O2.out.trans o3 (by simp))
  clear o3
  go_wp2_with fail
  go_ret
  exact ⟨rfl, O3.out⟩

set_option maxRecDepth 100000 in
set_option maxHeartbeats 4000000 in
theorem evenl_yes (W : Cred) (w : World) (ok : OkW W) :
    Calls Try.prog 8 #[.agg (c3 W)] w fun e w' => e = .returned (.bool true) ∧ Only [] w w' := by
  have OK := Lib.hid ok
  obtain ⟨_, hn1, hn2⟩ := ok.all
  obtain ⟨n, hn⟩ : ∃ n, n = allW W := ⟨_, rfl⟩
  rw [← hn] at hn1 hn2
  have K1 : ∀ wx : World, Calls Try.prog 21 #[.agg #[.int .i64 (W 0), .int .i64 (W 1), .int .i64 (W 2)]] wx fun e w' => ∃ g, e = .returned (.tuple #[.slice (some ⟨g, 0, none⟩) n n, .int .i64 0]) ∧ Bk w' g 3 (ics (evs W n n)) ∧ wx.heap.size ≤ g ∧ Only [] wx w' := fun wx => by
    rw [hn]
    exact even_yes W wx ok
  have HK1 := Lib.hid K1
  have HN := Lib.hid hn
  have HB := Lib.hid (Bk.made w 35 (c3 W))
  have HO := Lib.hid ((Only.refl [] w).alloc (.cells (c3 W) 35))
  clear K1 ok hn
  unfold c3
  go_enter Try.func8, Try.ntmps8
  go_wp2_with fail
  (with_reducible refine (HK1.out _).mono ?_)
  rintro e w1 ⟨g, rfl, bg, hg, o1⟩
  have hgw := bg.lt
  rw [World.size_alloc] at hg
  have N0 := Lib.hid (show CRel w W n w.heap.size g w1.heap.size (.int .i64 0) (w1.alloc (.cells (c3 fun _ => 0) 35)) from
    ⟨0, rfl, by omega, (HB.out.only o1 (by simp)).alloc _, bg.alloc _, by
      have h := Bk.made w1 35 (c3 fun _ => 0)
      rw [show c3 (fun _ => 0) = c3 (cntF (evs W n n) 0) from c3_congr fun j _ => by simp [cntF]] at h ⊢
      exact h, (HO.out.trans o1 (by simp)).alloc _⟩)
  have hB0 := (HO.out.trans o1 (by simp)).size
  clear bg o1 HB HO HK1
  go_wp2_with fail
  go_loopw [8] (fun v wr => CRel w W n w.heap.size g w1.heap.size v wr) (fun v _ => n - (intOf v).toNat)
  case atStart => exact N0.out
  case round =>
    clear N0
    generalize hBB : w1.heap.size = B at *
    obtain ⟨i, rfl, hi, b1, b2, b3, ho⟩ := hrel
    by_cases hlt : i < n
    · have hp := pick_lt W n i
      have he := evs_at W n hlt
      have hcell := b2.cell0 (ics_at (getElem?_getD (show i < (evs W n n).length by rw [evs_len]; exact hlt)))
      rw [he] at hcell
      have hcl := b3.cell0 (c3_at _ hp)
      have hfr := b3.free (pickE W n i)
      have hle : 0 ≤ cntF (evs W n n) i (pickE W n i : Nat) ∧ cntF (evs W n n) i (pickE W n i : Nat) ≤ 64 := by
        unfold cntF
        have h1 := List.count_le_length (a := ((pickE W n i : Nat) : Int)) (l := (evs W n n).take i)
        rw [List.length_take, evs_len] at h1
        omega
      have HS := Lib.hid (fun q v a => CRel.step (v := v) q hlt hp he (by omega) (by omega) (by omega) b1 b2 b3 ho a)
      have HR := Lib.hid (Rd.of_bk b2)
      generalize cntF (evs W n n) i (pickE W n i : Nat) = y at *
      generalize pickE W n i = k at *
      clear b1 b2 b3 ho he
      have p1 : 0 ≤ (k : Int) := by omega
      have p2 : (k : Int) < 3 := by omega
      have e6 : IntKind.i64.wrap (y + 1) = y + 1 := IntWalk.i64_in _ (by omega)
      go_wp2_with fail
      refine wp_region_quiet_then 12 (by kernel_rfl) (by kernel_rfl) ?_
      simp only [List.take_succ_cons, List.take_zero, List.drop_succ_cons, List.drop_zero]
      repeat (go_big_quiet_step (fail))
      refine wpQuiet_nil ?_
      intro q
      clear e6
      go_wp2
      go_roundw
      case rel => exact HS.out _ _ rfl
      case measure => simp [intOf]; omega
    · obtain rfl : i = n := by omega
      have b3' := b3
      rw [HN.out, cntF_full OK.out] at b3'
      obtain ⟨c0, c1, c2⟩ := c3_cells b1
      obtain ⟨d0, d1, d2⟩ := c3_cells b3'
      have B1' := Lib.hid b1
      have B2' := Lib.hid b2
      have HO := Lib.hid ho
      have t4 : ∀ w, (Op.equalIn 10000 35 (.agg #[.int .i64 (W 0), .int .i64 (W 1), .int .i64 (W 2)]) (.agg #[.int .i64 (W 0), .int .i64 (W 1), .int .i64 (W 2)])).run Try.prog w = .ok true w := fun w => by rw [eqInt3]; simp
      have K3 := check_any (some ⟨g, 0, none⟩) (evs W i i) i wr (Rd.of_bk b2) (by rw [evs_len]; omega)
      rw [evs_len, chk_yes (by have := evs_isW OK.out; rw [← HN.out] at this; exact this)] at K3
      have HK3 := Lib.hid K3
      clear b1 b2 b3 b3' ho K3
      go_wp2_with fail
      (with_reducible refine HK3.out.mono ?_)
      rintro e w4 ⟨rfl, o4⟩
      have O4 := Lib.hid (HO.out.trans o4 (by simp))
      have B14 := Lib.hid (B1'.out.only o4 (by simp))
      have B24 := Lib.hid (B2'.out.only o4 (by simp))
      clear c0 c1 c2 d0 d1 d2 o4 HK3
      obtain ⟨c0, c1, c2⟩ := c3_cells B14.out
      have w0 := OK.out.w0
      have w1' := OK.out.w1
      have w2 := OK.out.w2
      have w3 := OK.out.top
      by_cases h64 : 2 * i ≤ 64
      · have okd : OkW (dbl W) := ⟨by unfold dbl; omega, by unfold dbl; omega, by unfold dbl; omega, by
          have := OK.out.all.1
          have := HN.out
          unfold dbl
          omega⟩
        have K5 : ∀ wx : World, Calls Try.prog 21 #[.agg #[.int .i64 (2 * W 0), .int .i64 (2 * W 1), .int .i64 (2 * W 2)]] wx fun e w' => ∃ g, e = .returned (.tuple #[.slice (some ⟨g, 0, none⟩) (2 * i) (2 * i), .int .i64 0]) ∧ Bk w' g 3 (ics (evs W i i ++ evs W i i)) ∧ wx.heap.size ≤ g ∧ Only [] wx w' := fun wx => by
          have h := even_yes (dbl W) wx okd
          unfold NewE at h
          rw [allW_dbl OK.out, evs_dbl OK.out, ← HN.out] at h
          exact h
        have HK5 := Lib.hid K5
        clear K5
        go_wp2_with fail
        (with_reducible refine (HK5.out _).mono ?_)
        rintro e w5 ⟨g2, rfl, bg2, hg2, o5⟩
        have O5 := Lib.hid ((O4.out.alloc _).trans o5 (by simp))
        have B25 := Lib.hid ((B24.out.alloc _).only o5 (by simp))
        have BG2 := Lib.hid bg2
        have el : (evs W i i).length = i := evs_len W i i
        have el2 : (evs W i i ++ evs W i i).length = 2 * i := by rw [List.length_append, el]; omega
        obtain ⟨A1, hs1, rd1⟩ := slice_to (some ⟨g2, 0, none⟩) (evs W i i ++ evs W i i) (2 * i) i (i : Int) rfl (by omega) (by omega)
        obtain ⟨A2, hs2, rd2⟩ := slice_from (some ⟨g2, 0, none⟩) (evs W i i ++ evs W i i) (2 * i) i (i : Int) rfl (by omega) (by omega)
        rw [el2] at hs1 hs2
        rw [show 2 * i - i = i by omega] at hs2
        have r1 := rd1 w5 (Rd.of_bk bg2)
        have r2 := rd2 w5 (Rd.of_bk bg2)
        rw [List.take_append_of_le_length (by omega), List.take_of_length_le (by omega)] at r1
        rw [List.drop_append_of_le_length (by omega), List.drop_of_length_le (by omega), List.nil_append] at r2
        have R2 := Lib.hid r2
        have K6 := alike_yes A1 (some ⟨g, 0, none⟩) (evs W i i) (2 * i) i r1 (Rd.of_bk B25.out) (by omega)
        rw [el] at K6
        have HK6 := Lib.hid K6
        have EL := Lib.hid el
        have t5 : ((2 : Int) * (i : Int) == 2 * (i : Int)) = true := beq_self_eq_true _
        clear o5 bg2 HK5 K6 r1 r2 rd1 rd2 el el2 c0 c1 c2
        go_wp2_with fail
        (with_reducible refine HK6.out.mono ?_)
        rintro e w6 ⟨rfl, o6⟩
        have O6 := Lib.hid (O5.out.trans o6 (by simp))
        have K7 := alike_yes A2 (some ⟨g, 0, none⟩) (evs W i i) i i (R2.out.only o6 (by simp)) (Rd.of_bk (B25.out.only o6 (by simp))) (by have := EL.out; omega)
        rw [EL.out] at K7
        have HK7 := Lib.hid K7
        clear o6 K7 HK6 hs1
        go_wp2_with fail
        (with_reducible refine HK7.out.mono ?_)
        rintro e w7 ⟨rfl, o7⟩
        have O7 := Lib.hid (O6.out.trans o7 (by simp))
        clear o7 HK7 hs2
        go_wp2_with fail
        (with_reducible refine (awake_any _).mono ?_)
        rintro e w8 ⟨rfl, o8⟩
        have O8 := Lib.hid (O7.out.trans o8 (by simp))
        clear o8
        go_wp2_with fail
        go_ret
        exact ⟨rfl, O8.out⟩
      · have okd : ¬ OkW (dbl W) := fun h => by
          have := h.top
          have := OK.out.all.1
          have := HN.out
          unfold dbl at *
          omega
        have K5 : ∀ wx : World, Calls Try.prog 21 #[.agg #[.int .i64 (2 * W 0), .int .i64 (2 * W 1), .int .i64 (2 * W 2)]] wx fun e w' => e = .returned (.tuple #[.slice none 0 0, .int .i64 1]) ∧ Only [] wx w' := fun wx => even_no (dbl W) wx okd
        have HK5 := Lib.hid K5
        clear K5 okd
        go_wp2_with fail
        (with_reducible refine (HK5.out _).mono ?_)
        rintro e w5 ⟨rfl, o5⟩
        have O5 := Lib.hid ((O4.out.alloc _).trans o5 (by simp))
        clear o5 HK5 c0 c1 c2
        go_wp2_with fail
        (with_reducible refine (awake_any _).mono ?_)
        rintro e w8 ⟨rfl, o8⟩
        have O8 := Lib.hid (O5.out.trans o8 (by simp))
        clear o8
        go_wp2_with fail
        go_ret
        exact ⟨rfl, O8.out⟩

theorem evenl_any (W : Cred) (w : World) :
    Calls Try.prog 8 #[.agg (c3 W)] w fun e w' => e = .returned (.bool true) ∧ Only [] w w' := by
  by_cases ok : OkW W
  · exact evenl_yes W w ok
  · exact evenl_no W w ok
end Go.Proofs.Ytioglpaakmmidaa
