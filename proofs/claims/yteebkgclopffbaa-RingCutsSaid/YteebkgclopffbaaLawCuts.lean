/- The law RingCuts, walked. -/
import Derived.Test.YteebkgclopffbaaSlices
import Derived.Test.YteebkgclopffbaaLawQueue
namespace Go.Proofs.Yteebkgclopffbaa
open Go.RowKit

set_option maxHeartbeats 4000000 in
theorem cuts_no (room : Int) (v : Value) (n : Int) (w : World) (hr : ¬ (1 ≤ room ∧ room ≤ 65536)) :
    Calls Try.prog 6 #[.int .i64 room, v, .int .i64 n] w fun e w' => e = .returned (.bool true) ∧ Only [] w w' := by
  have N1 := Lib.hid (new_no room hr w)
  have n2 := refNew_any room w
  rw [if_neg hr, if_neg hr] at n2
  have N2 := Lib.hid n2
  clear hr n2
  go_enter Try.func6, Try.ntmps6
  go_wp2_with fail
  (with_reducible refine N1.out.mono ?_)
  rintro e w1 ⟨rfl, rfl⟩
  go_wp2_with fail
  (with_reducible refine N2.out.mono ?_)
  rintro e w2 ⟨rfl, o2⟩
  have O2 := Lib.hid o2
  clear o2
  go_wp2_with fail
  (with_reducible refine (awake_any _).mono ?_)
  rintro e w3 ⟨rfl, o3⟩
  have O3 := Lib.hid o3
  clear o3
  go_wp2
  go_ret
  exact ⟨rfl, (O2.out.alloc _).trans O3.out (by simp)⟩

set_option maxHeartbeats 4000000 in
theorem cuts_big (room : Nat) (A : Option Addr) (l : List Int) (cap : Nat) (n : Int) (w : World) (h1 : 1 ≤ room) (h2 : room ≤ 65536) (hlen : l.length ≤ 9223372036854775807) (hbig : room < l.length) :
    Calls Try.prog 6 #[.int .i64 room, .slice A l.length cap, .int .i64 n] w fun e w' => e = .returned (.bool true) ∧ Only [] w w' := by
  have N1 := Lib.hid (own_new room h1 h2 w w (Only.refl _ _))
  generalize w.heap.size = b at N1
  have hd : decide ((room : Int) < (l.length : Int)) = true := decide_eq_true (by omega)
  go_enter Try.func6, Try.ntmps6
  go_wp2_with fail
  (with_reducible refine N1.out.mono ?_)
  rintro e w1 ⟨rfl, r1⟩
  have J := Lib.hid (own_join_no r1 A l.length cap hlen (by simpa using hbig))
  clear r1
  go_wp2_with fail
  (with_reducible refine J.out.mono ?_)
  rintro e w2 ⟨rfl, r2⟩
  have P := Lib.hid (own_len r2)
  have O2 := Lib.hid r2.only_
  clear r2
  go_wp2_with fail
  (with_reducible refine P.out.mono ?_)
  rintro e w3 ⟨rfl, rfl⟩
  go_wp2_with fail
  (with_reducible refine (awake_any _).mono ?_)
  rintro e w3 ⟨rfl, o3⟩
  have O3 := Lib.hid o3
  clear o3
  go_wp2
  go_ret
  exact ⟨rfl, O2.out.trans O3.out (by simp)⟩

set_option maxHeartbeats 4000000 in
theorem cuts_out (room : Nat) (A : Option Addr) (l : List Int) (cap : Nat) (n : Int) (w : World) (h1 : 1 ≤ room) (h2 : room ≤ 65536) (hl : Rd w A l) (hfit : l.length ≤ room) (hn : n < 0 ∨ (l.length : Int) < n) :
    Calls Try.prog 6 #[.int .i64 room, .slice A l.length cap, .int .i64 n] w fun e w' => e = .returned (.bool true) ∧ Only [] w w' := by
  have N1 := Lib.hid (own_new room h1 h2 w w (Only.refl _ _))
  generalize w.heap.size = b at N1
  have HL := Lib.hid hl
  rcases hn with hn | hn
  · have hd : decide (n < 0) = true := decide_eq_true hn
    clear hl
    go_enter Try.func6, Try.ntmps6
    go_wp2_with fail
    (with_reducible refine N1.out.mono ?_)
    rintro e w1 ⟨rfl, r1⟩
    have J := Lib.hid (own_join r1 A l cap HL.out (by simpa using hfit))
    clear r1
    go_wp2_with fail
    (with_reducible refine J.out.mono ?_)
    rintro e w2 ⟨rfl, r2⟩
    rw [List.nil_append] at r2
    have P := Lib.hid (own_cut_neg r2 n hn)
    have P2 := Lib.hid (own_items r2)
    clear r2
    go_wp2_with fail
    (with_reducible refine P.out.mono ?_)
    rintro e w3 ⟨rfl, rfl⟩
    go_wp2_with fail
    (with_reducible refine P2.out.mono ?_)
    rintro e w3 ⟨rfl, b3, r3⟩
    have s3 := same_any _ A l l l.length cap (Rd.of_bk b3) (HL.out.only r3.only_ (by simp)) (by omega) (by omega)
    rw [decide_eq_true rfl] at s3
    have S3 := Lib.hid s3
    have O3 := Lib.hid r3.only_
    clear b3 r3 s3
    go_wp2_with fail
    (with_reducible refine S3.out.mono ?_)
    rintro e w4 ⟨rfl, q, rfl⟩
    go_wp2_with fail
    (with_reducible refine (awake_any _).mono ?_)
    rintro e w5 ⟨rfl, o5⟩
    have O5 := Lib.hid o5
    clear o5
    go_wp2
    go_ret
    exact ⟨rfl, (O3.out.drewN q).trans O5.out (by simp)⟩
  · have hd : decide (n < 0) = false := decide_eq_false (by omega)
    have hd2 : decide ((l.length : Int) < n) = true := decide_eq_true hn
    clear hl
    go_enter Try.func6, Try.ntmps6
    go_wp2_with fail
    (with_reducible refine N1.out.mono ?_)
    rintro e w1 ⟨rfl, r1⟩
    have J := Lib.hid (own_join r1 A l cap HL.out (by simpa using hfit))
    clear r1
    go_wp2_with fail
    (with_reducible refine J.out.mono ?_)
    rintro e w2 ⟨rfl, r2⟩
    rw [List.nil_append] at r2
    have P := Lib.hid (own_cut_none r2 n hn)
    have P2 := Lib.hid (own_items r2)
    clear r2
    go_wp2_with fail
    (with_reducible refine P.out.mono ?_)
    rintro e w3 ⟨rfl, rfl⟩
    go_wp2_with fail
    (with_reducible refine P2.out.mono ?_)
    rintro e w3 ⟨rfl, b3, r3⟩
    have s3 := same_any _ A l l l.length cap (Rd.of_bk b3) (HL.out.only r3.only_ (by simp)) (by omega) (by omega)
    rw [decide_eq_true rfl] at s3
    have S3 := Lib.hid s3
    have O3 := Lib.hid r3.only_
    clear b3 r3 s3
    go_wp2_with fail
    (with_reducible refine S3.out.mono ?_)
    rintro e w4 ⟨rfl, q, rfl⟩
    go_wp2_with fail
    (with_reducible refine (awake_any _).mono ?_)
    rintro e w5 ⟨rfl, o5⟩
    have O5 := Lib.hid o5
    clear o5
    go_wp2
    go_ret
    exact ⟨rfl, (O3.out.drewN q).trans O5.out (by simp)⟩

set_option maxHeartbeats 4000000 in
theorem cuts_main (room : Nat) (A : Option Addr) (l : List Int) (cap : Nat) (n : Nat) (w : World) (h1 : 1 ≤ room) (h2 : room ≤ 65536) (hl : Rd w A l) (hcap : l.length ≤ cap) (hfit : l.length ≤ room) (hn : n ≤ l.length) :
    Calls Try.prog 6 #[.int .i64 room, .slice A l.length cap, .int .i64 n] w fun e w' => e = .returned (.bool true) ∧ Only [] w w' := by
  have N1 := Lib.hid (own_new room h1 h2 w w (Only.refl _ _))
  generalize w.heap.size = b at N1
  have HL := Lib.hid hl
  have hd : decide ((n : Int) < 0) = false := decide_eq_false (by omega)
  have hd2 : decide (l.length < n) = false := decide_eq_false (by omega)
  obtain ⟨A1, hs1, rd1⟩ := slice_from A l cap (l.length - n) ((l.length : Int) - (n : Int)) (by omega) (by omega) hcap
  obtain ⟨A2, hs2, rd2⟩ := slice_to A l cap (l.length - n) ((l.length : Int) - (n : Int)) (by omega) (by omega) hcap
  have RD1 := Lib.hid rd1
  have RD2 := Lib.hid rd2
  rw [show l.length - (l.length - n) = n from by omega] at hs1
  have e1 : IntKind.i64.wrap ((l.length : Int) - (n : Int)) = (l.length : Int) - (n : Int) := IntWalk.i64_in _ (by omega)
  clear hl rd1 rd2
  go_enter Try.func6, Try.ntmps6
  go_wp2_with fail
  (with_reducible refine N1.out.mono ?_)
  rintro e w1 ⟨rfl, r1⟩
  have J := Lib.hid (own_join r1 A l cap HL.out (by simpa using hfit))
  clear r1
  go_wp2_with fail
  (with_reducible refine J.out.mono ?_)
  rintro e w2 ⟨rfl, r2⟩
  rw [List.nil_append] at r2
  have P := Lib.hid (own_cut r2 n hn)
  clear r2
  go_wp2_with fail
  (with_reducible refine P.out.mono ?_)
  rintro e w3 ⟨rfl, r3⟩
  have hdl : (l.drop (l.length - n)).length = n := by simp; omega
  have htl : (l.take (l.length - n)).length = l.length - n := by simp
  have r3d : OwnC w w3.drew b room (l.take (l.length - n)) w2.heap.size (l.drop (l.length - n)) := r3.drewN 1
  have s3 := same_any _ A1 (l.drop (l.length - n)) (l.drop (l.length - n)) n (cap - (l.length - n)) (Rd.of_bk r3d.row) (RD1.out _ (HL.out.only r3d.own.only_ (by simp))) (by omega) (by omega)
  rw [decide_eq_true rfl, hdl] at s3
  have S3 := Lib.hid s3
  have HDL := Lib.hid hdl
  have HTL := Lib.hid htl
  have I3 := fun q => own_itemsC (r3.drewN q)
  rw [htl] at I3
  have I3' := Lib.hid I3
  have T3 : ∀ w5, Bk w5 w3.heap.size 3 (ics (l.take (l.length - n))) → OwnC w w5 b room (l.take (l.length - n)) w2.heap.size (l.drop (l.length - n)) →
      Calls Try.prog 16 #[.slice (some ⟨w3.heap.size, 0, none⟩) (l.length - n) (l.length - n), .slice A2 (l.length - n) cap] w5 fun e w' => e = .returned (.bool true) ∧ ∃ k, w' = w5.drewN k := by
    intro w5 b5 r5
    have s5 := same_any _ A2 (l.take (l.length - n)) (l.take (l.length - n)) (l.length - n) cap (Rd.of_bk b5) (RD2.out _ (HL.out.only r5.own.only_ (by simp))) (by omega) (by omega)
    rw [decide_eq_true rfl, htl] at s5
    exact s5
  have T3' := Lib.hid T3
  clear r3 s3 r3d hdl htl I3 T3
  go_wp2_with fail
  go_region_held3 (fun _ => True) (trivial)
    (first
      | (go_at_call 16; (with_reducible refine S3.out.mono ?_); rintro e w4 ⟨rfl, q, rfl⟩)
      | (go_at_call 24; (with_reducible refine (I3'.out _).mono ?_); rintro e w5 ⟨rfl, b5, r5⟩; have R5 := Lib.hid r5; have T5 := Lib.hid (T3'.out w5 b5 r5); clear b5 r5)
      | (go_at_call 16; (with_reducible refine T5.out.mono ?_); rintro e w6 ⟨rfl, q2, rfl⟩))
  have j2 := own_rejoin (R5.out.drewN q2) n (by rw [HTL.out, HDL.out]; omega)
  rw [HDL.out, List.take_append_drop] at j2
  have J2 := Lib.hid j2
  clear j2
  go_wp2_with fail
  (with_reducible refine J2.out.mono ?_)
  rintro e w7 ⟨rfl, r7⟩
  have P7 := Lib.hid (own_items r7)
  clear r7
  go_wp2_with fail
  (with_reducible refine P7.out.mono ?_)
  rintro e w8 ⟨rfl, b8, r8⟩
  have s8 := same_any _ A l l l.length cap (Rd.of_bk b8) (HL.out.only r8.only_ (by simp)) (by omega) (by omega)
  rw [decide_eq_true rfl] at s8
  have S8 := Lib.hid s8
  have O8 := Lib.hid r8.only_
  clear b8 r8 s8
  go_wp2_with fail
  (with_reducible refine S8.out.mono ?_)
  rintro e w9 ⟨rfl, q3, rfl⟩
  go_wp2_with fail
  (with_reducible refine (awake_any _).mono ?_)
  rintro e w10 ⟨rfl, o10⟩
  have O10 := Lib.hid o10
  clear o10
  go_wp2
  go_ret
  exact ⟨rfl, (O8.out.drewN q3).trans O10.out (by simp)⟩

theorem cuts_any (room : Int) (A : Option Addr) (l : List Int) (cap : Nat) (n : Int) (w : World) (hl : Rd w A l) (hcap : l.length ≤ cap) (hmax : cap ≤ 9223372036854775807) :
    Calls Try.prog 6 #[.int .i64 room, .slice A l.length cap, .int .i64 n] w fun e w' => e = .returned (.bool true) ∧ Only [] w w' := by
  by_cases hr : 1 ≤ room ∧ room ≤ 65536
  · obtain ⟨k, rfl⟩ := Int.eq_ofNat_of_zero_le (show 0 ≤ room by omega)
    by_cases hf : l.length ≤ k
    · by_cases hn : n < 0 ∨ (l.length : Int) < n
      · exact cuts_out k A l cap n w (by omega) (by omega) hl hf hn
      · obtain ⟨m, rfl⟩ := Int.eq_ofNat_of_zero_le (show 0 ≤ n by omega)
        exact cuts_main k A l cap m w (by omega) (by omega) hl hcap hf (by omega)
    · exact cuts_big k A l cap n w (by omega) (by omega) (by omega) (by omega)
  · exact cuts_no room _ n w hr

end Go.Proofs.Yteebkgclopffbaa
