/- The law RingWindows, walked. -/
import Derived.Test.YteebkgclopffbaaWin4
import Derived.Test.YteebkgclopffbaaLawQueue
namespace Go.Proofs.Yteebkgclopffbaa
open Go.RowKit

/-- l, its first i windows written over. -/
def fills (l : List Int) (room : Nat) : Nat → List Int
  | 0 => l
  | i + 1 => over (fills l room i) (i * room) (min room (l.length - i * room)) (-770000 - (i : Int))
theorem fills_len (l : List Int) (room i : Nat) (h : i * room < l.length + room) : (fills l room i).length = l.length := by
  induction i with
  | zero => rfl
  | succ i ih =>
    have e : (i + 1) * room = i * room + room := by rw [Nat.add_mul, Nat.one_mul]
    have := ih (by omega)
    simp only [fills]
    rw [over_len (by rw [this]; omega)]
    exact this
theorem fills_at {l : List Int} {room : Nat} (i t : Nat) (ht : t < min room (l.length - i * room)) : ∀ m, i < m → m * room < l.length + room → (fills l room m)[i * room + t]? = some (-770000 - (i : Int)) := by
  intro m
  induction m with
  | zero => intro h; omega
  | succ m ih =>
    intro him hm
    have e : (m + 1) * room = m * room + room := by rw [Nat.add_mul, Nat.one_mul]
    have hl := fills_len l room m (by omega)
    simp only [fills]
    rw [over_at (by rw [hl]; omega)]
    by_cases hi : i = m
    · subst hi
      rw [if_pos (by omega)]
    · have e2 : (i + 1) * room = i * room + room := by rw [Nat.add_mul, Nat.one_mul]
      have e3 : (i + 1) * room ≤ m * room := Nat.mul_le_mul_right _ (by omega)
      rw [if_neg (by omega)]
      exact ih (by omega) (by omega)

theorem wcount {n room K K' : Nat} (h1 : K * room < n + room) (h2 : n ≤ K' * room) (h3 : K' * room < n + room) (h4 : n ≤ K * room) : K = K' := by
  have a : K < K' + 1 := Nat.lt_of_mul_lt_mul_right (a := room) (by rw [Nat.add_mul, Nat.one_mul]; omega)
  have b : K' < K + 1 := Nat.lt_of_mul_lt_mul_right (a := room) (by rw [Nat.add_mul, Nat.one_mul]; omega)
  omega

theorem win_rd {w : World} {R : Nat} {l : List Int} (hb : Bk w R 3 (ics l)) (off room : Nat) : Rd w (some ⟨R, off, none⟩) ((l.drop off).take room) :=
  .inr ⟨R, off, rfl, hb.lt, fun t v ht => by
    rw [List.getElem?_take] at ht
    by_cases h : t < room
    · rw [if_pos h, List.getElem?_drop] at ht
      exact hb.cell0 (ics_at ht)
    · rw [if_neg h] at ht
      cases ht⟩

theorem rd_lt {w : World} {A : Option Addr} {l : List Int} (h : Rd w A l) (hx : l ≠ []) {bl off : Nat} (e : A = some ⟨bl, off, none⟩) : bl < w.heap.size := by
  rcases h with h | ⟨b, o, e2, hb, _⟩
  · exact absurd h hx
  · rw [e] at e2
    injection e2 with e2
    injection e2 with e2
    subst e2
    exact hb

def L1 (w3 : World) (K : Nat) (vi : Value) (wr : World) : Prop := ∃ i q : Nat, vi = .int .i64 i ∧ i ≤ K ∧ wr = w3.drewN q
def L2 (w3 : World) (R : Nat) (l : List Int) (room K : Nat) (vi : Value) (wr : World) : Prop := ∃ i : Nat, vi = .int .i64 i ∧ i ≤ K ∧ Bk wr R 3 (ics (fills l room i)) ∧ Only [R] w3 wr
def L3 (w4 : World) (K : Nat) (vi : Value) (wr : World) : Prop := ∃ i : Nat, vi = .int .i64 i ∧ i ≤ K ∧ wr = w4

set_option maxHeartbeats 4000000 in
theorem wins_no (room : Int) (A : Option Addr) (l : List Int) (cap : Nat) (w : World) (hl : Rd w A l) (hlen : l.length ≤ 1000000000) (hr : ¬ (1 ≤ room ∧ room ≤ 65536)) :
    Calls Try.prog 4 #[.slice A l.length cap, .int .i64 room] w fun e w' => e = .returned (.bool true) ∧ Only [] w w' := by
  have HL := Lib.hid hl
  clear hl
  go_enter Try.func4, Try.ntmps4
  go_wp2_with ((at_builtin; refine wpList_app _ (by rfl) (.tmp 14) (.tmp 15) (by rfl) (by rfl) (OwnL.nil w w.heap.size) A l l.length cap (by rfl) rfl HL.out (Nat.le_refl _) (by simp; omega) ?_; intro v1 w1 hown1 hg1 _; have HO1 := Lib.hid hown1; have OO1 := Lib.hid (show Only [] w w1 from (Only.of_grown hg1).more (by simp [Value.ownBlock])); clear hown1 hg1))
  have hown := HO1.out
  rw [List.nil_append] at hown
  obtain ⟨A1, cap1, rfl, hc1, hc2, hR1, hA1⟩ := hown.form
  have CU := Lib.hid (windows_no room (.slice A1 l.length cap1) hr w1)
  have RC := Lib.hid (refWindows_no room (.slice A l.length cap) hr w1)
  have HR1 := Lib.hid hR1
  have HL1 := Lib.hid (HL.out.only OO1.out (by simp))
  clear hown HO1 hA1 hR1 hr
  go_wp2_with fail
  (with_reducible refine CU.out.mono ?_)
  rintro e w2 ⟨rfl, rfl⟩
  go_wp2_with fail
  (with_reducible refine RC.out.mono ?_)
  rintro e w2 ⟨rfl, rfl⟩
  have s9 := same_any A1 A l l cap1 cap HR1.out HL1.out (by omega) (by omega)
  rw [decide_eq_true rfl] at s9
  have S9 := Lib.hid s9
  clear s9
  go_wp2_with fail
  go_loopw [10] (fun vi wr => vi = .int .i64 0 ∧ wr = w1) (fun _ _ => 0)
  case atStart => exact ⟨rfl, rfl⟩
  case round =>
    obtain ⟨rfl, rfl⟩ := hrel
    go_wp2_with fail
    obtain ⟨wo, rfl⟩ : ∃ wo : World, wo = wr := ⟨_, rfl⟩
    go_loopw [11] (fun vi wr => vi = .int .i64 0 ∧ wr = wo) (fun _ _ => 0)
    case atStart => exact ⟨rfl, rfl⟩
    case round =>
      obtain ⟨rfl, rfl⟩ := hrel
      go_wp2_with fail
      obtain ⟨wo, rfl⟩ : ∃ wo : World, wo = wr := ⟨_, rfl⟩
      go_loopw [12] (fun vi wr => vi = .int .i64 0 ∧ wr = wo) (fun _ _ => 0)
      case atStart => exact ⟨rfl, rfl⟩
      case round =>
        obtain ⟨rfl, rfl⟩ := hrel
        go_wp2_with fail
        (with_reducible refine S9.out.mono ?_)
        rintro e w5 ⟨rfl, q5, rfl⟩
        go_wp2_with fail
        (with_reducible refine (awake_any _).mono ?_)
        rintro e w6 ⟨rfl, o6⟩
        have O6 := Lib.hid ((OO1.out.drewN q5).trans o6 (by simp))
        clear o6
        go_wp2
        go_ret
        exact ⟨rfl, O6.out⟩

set_option maxHeartbeats 4000000 in
theorem wins_yes (room : Nat) (A : Option Addr) (l : List Int) (cap : Nat) (w : World) (hl : Rd w A l) (hlen : l.length ≤ 1000000000) (h1 : 1 ≤ room) (h2 : room ≤ 65536) :
    Calls Try.prog 4 #[.slice A l.length cap, .int .i64 room] w fun e w' => e = .returned (.bool true) ∧ Only [] w w' := by
  have HL := Lib.hid hl
  clear hl
  go_enter Try.func4, Try.ntmps4
  go_wp2_with ((at_builtin; refine wpList_app _ (by rfl) (.tmp 14) (.tmp 15) (by rfl) (by rfl) (OwnL.nil w w.heap.size) A l l.length cap (by rfl) rfl HL.out (Nat.le_refl _) (by simp; omega) ?_; intro v1 w1 hown1 hg1 _; have HO1 := Lib.hid hown1; have OO1 := Lib.hid (show Only [] w w1 from (Only.of_grown hg1).more (by simp [Value.ownBlock])); clear hown1 hg1))
  have hown := HO1.out
  rw [List.nil_append] at hown
  obtain ⟨A1, cap1, rfl, hc1, hc2, hR1, hA1⟩ := hown.form
  have CU := Lib.hid (windows_yes room A1 l cap1 h1 h2 w1 hR1 hlen)
  have HR1 := Lib.hid hR1
  have HL1 := Lib.hid (HL.out.only OO1.out (by simp))
  clear hown HO1 hA1 hR1
  go_wp2_with fail
  (with_reducible refine CU.out.mono ?_)
  rintro e w2 ⟨R, K, P, capP, rfl, k1, k2, v2, b2, hRs, o2⟩
  have RC := Lib.hid (refWindows_yes room A l cap h1 h2 w2 (HL1.out.only o2 (by simp)) hlen)
  have V2 := Lib.hid v2
  have B2 := Lib.hid b2
  have O2 := Lib.hid o2
  clear v2 b2 o2 CU
  go_wp2_with fail
  (with_reducible refine RC.out.mono ?_)
  rintro e w3 ⟨us, Q, capQ, rfl, k3, k4, v3, each, o3⟩
  obtain rfl : K = us.length := wcount k1 k4 k3 k2
  have V3 := Lib.hid v3
  have P3 := Lib.hid (V2.out.only o3 (by simp))
  have B3 := Lib.hid (B2.out.only o3 (by simp))
  have O3 := Lib.hid o3
  have EACH := Lib.hid each
  clear v3 o3 each V2 B2 RC k3 k4
  go_wp2_with fail
  have hKn : us.length ≤ 1000066000 := Nat.le_trans (Nat.le_mul_of_pos_right us.length h1) (by omega)
  go_loopw [10] (fun vi wr => L1 w3 us.length vi wr) (fun vi _ => us.length - (intOf vi).toNat)
  case atStart => exact ⟨0, 0, rfl, Nat.zero_le _, rfl⟩
  case round =>
    obtain ⟨i, q, rfl, hi, rfl⟩ := hrel
    by_cases hlt : i < us.length
    · obtain ⟨AP, cP, eP, _, _, hP⟩ := P3.out.form
      rw [wins_len] at eP
      injection eP with eP eP2 eP3
      subst eP
      subst eP3
      clear eP2
      rcases hP with ⟨_, hP⟩ | ⟨g, cur, rfl, _, bP, _, hcur⟩
      · have := wins_len R room l.length us.length
        rw [hP] at this
        simp at this
        omega
      obtain ⟨AQ, cQ, eQ, _, _, hQ⟩ := V3.out.form
      injection eQ with eQ eQ2 eQ3
      subst eQ
      subst eQ3
      clear eQ2
      rcases hQ with ⟨_, hQ⟩ | ⟨g2, cur2, rfl, _, bQ, _, hcur2⟩
      · rw [hQ] at hlt
        simp at hlt
      have hu : us[i]? = some (us[i]'hlt) := List.getElem?_eq_getElem hlt
      obtain ⟨Ai, ci, ei, _, _, rdi, _⟩ := (EACH.out i _ hu).form
      have p1 : w3.cell? ⟨g, i, none⟩ = some (win R room l.length i) := bP.cell0 (hcur i _ (wins_at hlt))
      have p2 : w3.cell? ⟨g2, i, none⟩ = some (us[i]'hlt) := bQ.cell0 (hcur2 i _ hu)
      rw [ei] at p2
      unfold win at p1
      have hW : min room (l.length - i * room) = ((l.drop (i * room)).take room).length := by simp
      rw [hW] at p1
      have rdw := win_rd B3.out (i * room) room
      have hWl : ((l.drop (i * room)).take room).length ≤ 9223372036854775807 := by simp; omega
      have S : ∀ q', Calls Try.prog 16 #[.slice (some ⟨R, i * room, none⟩) ((l.drop (i * room)).take room).length ((l.drop (i * room)).take room).length, .slice Ai ((l.drop (i * room)).take room).length ci] (w3.drewN (q + q')) fun e w'' => e = .returned (.bool true) ∧ ∃ n, w'' = w3.drewN (q + n) :=
        fun q' => (same_any (w := w3.drewN (q + q')) (some ⟨R, i * room, none⟩) Ai ((l.drop (i * room)).take room) ((l.drop (i * room)).take room) ((l.drop (i * room)).take room).length ci (rdw.only ((Only.refl [] _).drewN _) (by simp)) (rdi.only ((Only.refl [] _).drewN _) (by simp)) hWl hWl).mono
          fun e w'' ⟨he, k, hk⟩ => ⟨by rw [decide_eq_true rfl] at he; exact he, q' + k, by rw [hk]; simp [Nat.add_assoc]⟩
      have S := Lib.hid S
      clear bP bQ hcur hcur2 hu ei rdi rdw hW
      generalize ((l.drop (i * room)).take room).length = n at *
      go_wp2_with fail
      go_quiet ((go_at_call 16; with_reducible exact S.out _))
      go_wp2
      go_roundw
      case rel => exact ⟨i + 1, q + nq, by go_num, by omega, by simp⟩
      case measure => simp [intOf]; omega
    · obtain rfl : i = us.length := by omega
      have H2 := Lib.hid (show L2 (w3.drewN q) R l room us.length (.int .i64 0) (w3.drewN q) from ⟨0, rfl, Nat.zero_le _, B3.out.drewN q, Only.refl _ _⟩)
      go_wp2_with fail
      obtain ⟨wq, hwq⟩ : ∃ wq, wq = w3.drewN q := ⟨_, rfl⟩
      have OQ : Only [] w3 wq := by rw [hwq]; exact (Only.refl [] w3).drewN q
      rw [← hwq] at H2 ⊢
      have OQ := Lib.hid OQ
      clear hwq
      go_loopw [11] (fun vi wr => L2 wq R l room us.length vi wr) (fun vi _ => us.length - (intOf vi).toNat)
      case atStart => exact H2.out
      case round =>
        clear H2
        obtain ⟨i, rfl, hi2, hb, o⟩ := hrel
        by_cases hlt : i < us.length
        · obtain ⟨AP, cP, eP, _, _, hP⟩ := P3.out.form
          rw [wins_len] at eP
          injection eP with eP eP2 eP3
          subst eP
          subst eP3
          clear eP2
          rcases hP with ⟨_, hP⟩ | ⟨g, cur, rfl, _, bP, _, hcur⟩
          · have := wins_len R room l.length us.length
            rw [hP] at this
            simp at this
            omega
          have hgR : g ≠ R := bP.apart B3.out (by decide)
          have p1 : wr.cell? ⟨g, i, none⟩ = some (win R room l.length i) := ((bP.only OQ.out (by simp)).only o (by simp; exact hgR)).cell0 (hcur i _ (wins_at hlt))
          unfold win at p1
          have e1 : (i + 1) * room = i * room + room := by rw [Nat.add_mul, Nat.one_mul]
          have e2 : (i + 1) * room ≤ us.length * room := Nat.mul_le_mul_right _ (by omega)
          have hin : i * room < l.length := by omega
          have hfl := fills_len l room i (by omega)
          have MW := Lib.hid (marked_win hb (off := i * room) (n := min room (l.length - i * room)) (by rw [hfl]; omega) (by rw [hfl]; omega) i (by omega))
          have HO := Lib.hid o
          have N2 := Lib.hid (show ∀ w', Bk w' R 3 (ics (over (fills l room i) (i * room) (min room (l.length - i * room)) (-770000 - (i : Int)))) → Only [R] wr w' → L2 wq R l room us.length (.int .i64 ((i : Int) + 1)) w' from fun w' b' o' => ⟨i + 1, by go_num, by omega, b', o.trans o' (by simp)⟩)
          clear bP hcur hb o hfl hin e1 e2
          generalize min room (l.length - i * room) = n at *
          generalize over (fills l room i) (i * room) n (-770000 - (i : Int)) = ys at *
          generalize i * room = off at *
          go_wp2_with ((go_at_call 17; (with_reducible refine MW.out.mono ?_); rintro e w5 ⟨rfl, b5, o5⟩; have N5 := Lib.hid (N2.out w5 b5 o5); clear b5 o5))
          go_roundw
          case rel => exact N5.out
          case measure => simp [intOf]; omega
        · obtain rfl : i = us.length := by omega
          have HB := Lib.hid hb
          have HO := Lib.hid o
          clear hb o
          obtain ⟨w4, hw4⟩ : ∃ w4 : World, w4 = wr := ⟨_, rfl⟩
          have H3 := Lib.hid (show L3 wr us.length (.int .i64 0) wr from ⟨0, rfl, Nat.zero_le _, rfl⟩)
          rw [← hw4] at HB HO H3 ⊢
          clear hw4
          go_wp2_with fail
          go_loopw [12] (fun vi wr => L3 w4 us.length vi wr) (fun vi _ => us.length - (intOf vi).toNat)
          case atStart => exact H3.out
          case round =>
            clear H3
            obtain ⟨i, rfl, hi3, rfl⟩ := hrel
            by_cases hlt : i < us.length
            · obtain ⟨AP, cP, eP, _, _, hP⟩ := P3.out.form
              rw [wins_len] at eP
              injection eP with eP eP2 eP3
              subst eP
              subst eP3
              clear eP2
              rcases hP with ⟨_, hP⟩ | ⟨g, cur, rfl, _, bP, _, hcur⟩
              · have := wins_len R room l.length us.length
                rw [hP] at this
                simp at this
                omega
              have hgR : g ≠ R := bP.apart B3.out (by decide)
              have p1 : wr.cell? ⟨g, i, none⟩ = some (win R room l.length i) := ((bP.only OQ.out (by simp)).only HO.out (by simp; exact hgR)).cell0 (hcur i _ (wins_at hlt))
              unfold win at p1
              have hcells := Lib.hid (fun t ht => HB.out.cell0 (ics_at (fills_at i t ht us.length hlt k1)))
              have hnl : min room (l.length - i * room) ≤ 65536 := by omega
              clear bP hcur
              generalize min room (l.length - i * room) = n at *
              generalize i * room = off at *
              go_wp2_with fail
              go_loopw [13] (fun vi wr' => L3 wr n vi wr') (fun vi _ => n - (intOf vi).toNat)
              case atStart => exact ⟨0, rfl, Nat.zero_le _, rfl⟩
              case round =>
                obtain ⟨t, rfl, ht, rfl⟩ := hrel
                by_cases htn : t < n
                · have ct := hcells.out t htn
                  go_wp2
                  go_roundw
                  case rel => exact ⟨t + 1, by go_num, by omega, rfl⟩
                  case measure => simp [intOf]; omega
                · go_wp2
                  go_roundw
                  case rel => exact ⟨i + 1, by go_num, by omega, rfl⟩
                  case measure => simp [intOf]; omega
            · have hsz1 := OO1.out.size
              have o13 := (O2.out.trans O3.out (by simp)).trans OQ.out (by simp)
              have ra : Rd wr A1 l := (HR1.out.only o13 (by simp)).only HO.out (fun hx bl off e => by have := rd_lt HR1.out hx e; simp; omega)
              have rb : Rd wr A l := (HL1.out.only o13 (by simp)).only HO.out (fun hx bl off e => by have := rd_lt HL1.out hx e; simp; omega)
              have s9 := same_any A1 A l l cap1 cap ra rb (by omega) (by omega)
              rw [decide_eq_true rfl] at s9
              have S9 := Lib.hid s9
              have O9 := Lib.hid ((OO1.out.trans o13 (by simp)).trans HO.out (fun i hi => .inr (by simp at hi; omega)))
              clear o13 ra rb s9
              go_wp2_with fail
              (with_reducible refine S9.out.mono ?_)
              rintro e w5 ⟨rfl, q5, rfl⟩
              go_wp2_with fail
              (with_reducible refine (awake_any _).mono ?_)
              rintro e w6 ⟨rfl, o6⟩
              have O6 := Lib.hid ((O9.out.drewN q5).trans o6 (by simp))
              clear o6
              go_wp2
              go_ret
              exact ⟨rfl, O6.out⟩

theorem windows_any (room : Int) (A : Option Addr) (l : List Int) (cap : Nat) (w : World) (hl : Rd w A l) (hlen : l.length ≤ 1000000000) :
    Calls Try.prog 4 #[.slice A l.length cap, .int .i64 room] w fun e w' => e = .returned (.bool true) ∧ Only [] w w' := by
  by_cases hr : 1 ≤ room ∧ room ≤ 65536
  · obtain ⟨k, rfl⟩ := Int.eq_ofNat_of_zero_le (show 0 ≤ room by omega)
    exact wins_yes k A l cap w hl hlen (by omega) (by omega)
  · exact wins_no room A l cap w hl hlen hr

end Go.Proofs.Yteebkgclopffbaa
