/- The law RingQueue, walked. -/
import Derived.Test.YteebkgclopffbaaOwn
namespace Go.Proofs.Yteebkgclopffbaa
open Go.RowKit

theorem own_len {w0 w : World} {b room : Nat} {xs : List Int} (h : OwnR w0 w b room xs) :
    Calls Try.prog 20 #[.pointer (some ⟨b, 0, none⟩)] w fun e w' => e = .returned (.int .i64 (xs.length : Nat)) ∧ w = w' := by
  obtain ⟨A, r, _⟩ := h
  exact len_yes r
theorem own_room {w0 w : World} {b room : Nat} {xs : List Int} (h : OwnR w0 w b room xs) :
    Calls Try.prog 21 #[.pointer (some ⟨b, 0, none⟩)] w fun e w' => e = .returned (.int .i64 ((room : Int) - xs.length)) ∧ ∃ k, w' = w.drewN k := by
  obtain ⟨A, r, _⟩ := h
  exact room_yes r

/-- The document's New. -/
theorem refNew_any (room : Int) (w : World) :
    Calls Try.prog 9 #[.int .i64 room] w fun e w' => e = .returned (.tuple #[.agg #[.int .i64 (if 1 ≤ room ∧ room ≤ 65536 then room else 0), .slice none 0 0], .int .i64 (if 1 ≤ room ∧ room ≤ 65536 then 0 else 1)]) ∧ Only [] w w' := by
  by_cases h1 : room < 1
  · rw [if_neg (by omega), if_neg (by omega)]
    have hd : decide (room < 1) = true := decide_eq_true h1
    go_enter Try.func9, Try.ntmps9
    go_wp2
    exact bodyPost_ret (v := .tuple #[.agg #[.int .i64 0, .slice none 0 0], .int .i64 1]) (by simp [results, Try.results9, go_sem]) rfl ⟨rfl, (Only.refl _ _).alloc _⟩
  · have hd : decide (room < 1) = false := decide_eq_false h1
    by_cases h2 : room ≤ 65536
    · rw [if_pos (by omega), if_pos (by omega)]
      go_enter Try.func9, Try.ntmps9
      go_wp2
      exact bodyPost_ret (v := .tuple #[.agg #[.int .i64 room, .slice none 0 0], .int .i64 0]) (by simp [results, Try.results9, go_sem]) rfl ⟨rfl, (Only.refl _ _).alloc _⟩
    · rw [if_neg (by omega), if_neg (by omega)]
      go_enter Try.func9, Try.ntmps9
      go_wp2
      exact bodyPost_ret (v := .tuple #[.agg #[.int .i64 0, .slice none 0 0], .int .i64 1]) (by simp [results, Try.results9, go_sem]) rfl ⟨rfl, (Only.refl _ _).alloc _⟩

def Q1 (w : World) (b room : Nat) (l : List Int) (vn vi : Value) (wr : World) : Prop :=
  ∃ i n : Nat, vi = .int .i64 i ∧ vn = .int .i64 n ∧ i ≤ l.length ∧ n = min i room ∧ OwnR w wr b room (l.take n)
def Q2 (w : World) (b room n : Nat) (l : List Int) (vi : Value) (wr : World) : Prop :=
  ∃ i : Nat, vi = .int .i64 i ∧ i ≤ n ∧ OwnR w wr b room ((l.take n).drop i)

set_option maxHeartbeats 4000000 in
theorem queue_no (room : Int) (v : Value) (w : World) (hr : ¬ (1 ≤ room ∧ room ≤ 65536)) :
    Calls Try.prog 5 #[.int .i64 room, v] w fun e w' => e = .returned (.bool true) ∧ Only [] w w' := by
  have N1 := Lib.hid (new_no room hr w)
  have n2 := refNew_any room w
  rw [if_neg hr, if_neg hr] at n2
  have N2 := Lib.hid n2
  clear hr n2
  go_enter Try.func5, Try.ntmps5
  go_wp2_with fail
  (with_reducible refine N1.out.mono ?_)
  rintro e w1 ⟨rfl, rfl⟩
  go_wp2_with fail
  (with_reducible refine N2.out.mono ?_)
  rintro e w2 ⟨rfl, o2⟩
  have O2 := Lib.hid o2
  clear o2
  go_wp2_with fail
  (with_reducible refine (awake_any _).mono ?_)
  rintro e w3 ⟨rfl, o3⟩
  have O3 := Lib.hid o3
  clear o3
  go_wp2
  go_ret
  exact ⟨rfl, (O2.out.alloc _).trans O3.out (by simp)⟩

set_option maxHeartbeats 4000000 in
theorem queue_yes (room : Nat) (A : Option Addr) (l : List Int) (cap : Nat) (w : World) (h1 : 1 ≤ room) (h2 : room ≤ 65536) (hl : Rd w A l) (hlen : l.length ≤ 9223372036854775807) :
    Calls Try.prog 5 #[.int .i64 room, .slice A l.length cap] w fun e w' => e = .returned (.bool true) ∧ Only [] w w' := by
  have N1 := Lib.hid (own_new room h1 h2 w w (Only.refl _ _))
  generalize w.heap.size = b at N1
  have HL := Lib.hid hl
  clear hl
  go_enter Try.func5, Try.ntmps5
  go_wp2_with fail
  (with_reducible refine N1.out.mono ?_)
  rintro e w1 ⟨rfl, r1⟩
  have R1 := Lib.hid r1
  clear r1
  go_wp2_with fail
  go_loopw [9, 10] (fun vn vi wr => Q1 w b room l vn vi wr) (fun _ vi _ => l.length - (intOf vi).toNat)
  case atStart => exact ⟨0, 0, rfl, rfl, Nat.zero_le _, by simp, by simpa using R1.out⟩
  case round =>
    obtain ⟨i, n, rfl, rfl, hi, hn, r⟩ := hrel
    have hnb : n ≤ 65536 := by omega
    by_cases hil : i < l.length
    · have hR : Rd wr A l := HL.out.only r.only_ (by simp)
      obtain ⟨bl, off, rfl, hc⟩ := hR.form (by omega)
      have hcell := hc i hil
      have hg := getElem?_getD hil
      have hln : (l.take n).length = n := take_len (by omega)
      by_cases hir : i < room
      · have hni : n = i := by omega
        have P := Lib.hid (own_push r (l.getD i 0) (by omega))
        have hd : decide ((i : Int) < (room : Int)) = true := decide_eq_true (by omega)
        have hap : l.take n ++ [l.getD i 0] = l.take (n + 1) := by rw [List.take_add_one, hni, hg]; rfl
        rw [hap] at P
        have HNI := Lib.hid hni
        clear hR hc r hg hap hn hni hln
        generalize l.getD i 0 = x at *
        go_wp2_with fail
        (with_reducible refine P.out.mono ?_)
        rintro e w2 ⟨rfl, r2⟩
        have R2 := Lib.hid r2
        clear r2
        go_wp2
        go_roundw
        case rel => exact ⟨i + 1, n + 1, by go_num, by go_num, by omega, by have := HNI.out; omega, R2.out⟩
        case measure => simp [intOf]; omega
      · have hni : n = room := by omega
        have P := Lib.hid (own_push_full r (l.getD i 0) (by omega))
        have hd : decide ((i : Int) < (room : Int)) = false := decide_eq_false (by omega)
        have HNI := Lib.hid hni
        clear hR hc r hg hn hni hln
        generalize l.getD i 0 = x at *
        go_wp2_with fail
        (with_reducible refine P.out.mono ?_)
        rintro e w2 ⟨rfl, r2⟩
        have R2 := Lib.hid r2
        clear r2
        go_wp2
        go_roundw
        case rel => exact ⟨i + 1, n, by go_num, rfl, by omega, by have := HNI.out; omega, R2.out⟩
        case measure => simp [intOf]; omega
    · have hln : (l.take n).length = n := take_len (by omega)
      have hnl : n ≤ l.length := by omega
      have HR := Lib.hid r
      clear hn r
      go_wp2_with fail
      obtain ⟨wo, rfl⟩ : ∃ wo : World, wo = wr := ⟨_, rfl⟩
      go_loopw [12] (fun vi wr => Q2 w b room n l vi wr) (fun vi _ => n - (intOf vi).toNat)
      case atStart => exact ⟨0, rfl, Nat.zero_le _, by simpa using HR.out⟩
      case round =>
        obtain ⟨j, rfl, hj, r⟩ := hrel
        by_cases hjn : j < n
        · have hR : Rd wr A l := HL.out.only r.only_ (by simp)
          have hcons : (l.take n).drop j = l.getD j 0 :: (l.take n).drop (j + 1) := by
            rw [List.drop_eq_getElem_cons (by omega)]
            congr 1
            simp [List.getD, show j < l.length by omega]
          rw [hcons] at r
          have P := Lib.hid (own_pop r)
          have hne : (l.getD j 0 != l.getD j 0) = false := by simp
          clear r hcons
          generalize hx : l.getD j 0 = x at *
          have HX := Lib.hid hx
          clear hx
          go_wp2_with fail
          (with_reducible refine P.out.mono ?_)
          rintro e w2 ⟨rfl, r2⟩
          obtain ⟨bl, off, rfl, hc⟩ := (HL.out.only r2.only_ (by simp) : Rd w2 A l).form (by omega)
          have hcell := hc j (by omega)
          rw [HX.out] at hcell
          have R2 := Lib.hid r2
          clear r2 hc hR
          go_wp2
          go_roundw
          case rel => exact ⟨j + 1, by go_num, by omega, R2.out⟩
          case measure => simp [intOf]; omega
        · obtain rfl : j = n := by omega
          have r0 : OwnR w wr b room [] := by
            have e : (l.take j).drop j = [] := List.drop_of_length_le (by omega)
            rw [e] at r
            exact r
          have P := Lib.hid (own_pop_no r0)
          have P2 := own_len r0
          have P3 := own_room r0
          rw [show ((([] : List Int).length : Nat) : Int) = 0 from rfl] at P2 P3
          have hd0 : ((room : Int) - 0 == (room : Int)) = true := by simp
          have P2' := Lib.hid P2
          have P3' := Lib.hid P3
          have HO := Lib.hid r.only_
          clear r r0 P2 P3
          go_wp2_with fail
          (with_reducible refine P.out.mono ?_)
          rintro e w2 ⟨rfl, rfl⟩
          go_wp2_with fail
          (with_reducible refine P2'.out.mono ?_)
          rintro e w2 ⟨rfl, rfl⟩
          go_wp2_with fail
          (with_reducible refine P3'.out.mono ?_)
          rintro e w2 ⟨rfl, q, rfl⟩
          go_wp2_with fail
          (with_reducible refine (awake_any _).mono ?_)
          rintro e w3 ⟨rfl, o3⟩
          have O3 := Lib.hid o3
          clear o3
          go_wp2
          go_ret
          exact ⟨rfl, (HO.out.drewN q).trans O3.out (by simp)⟩

theorem queue_any (room : Int) (A : Option Addr) (l : List Int) (cap : Nat) (w : World) (hl : Rd w A l) (hlen : l.length ≤ 9223372036854775807) :
    Calls Try.prog 5 #[.int .i64 room, .slice A l.length cap] w fun e w' => e = .returned (.bool true) ∧ Only [] w w' := by
  by_cases hr : 1 ≤ room ∧ room ≤ 65536
  · obtain ⟨k, rfl⟩ := Int.eq_ofNat_of_zero_le (show 0 ≤ room by omega)
    exact queue_yes k A l cap w (by omega) (by omega) hl hlen
  · exact queue_no room _ w hr

end Go.Proofs.Yteebkgclopffbaa
