/- The word of an error: the program's and the document's, for whatever number. -/
import Derived.Test.YtafpakdoogdjaaaGreatDoorR1
namespace Go.Proofs.YtafpakdoogdjaaaGreatDoor
open Go.RowKit
set_option maxRecDepth 1000000

/-- The word's bytes. -/
def rw8 (n : Int) : ByteArray :=
  if n = 0 then ⟨#[110, 111, 114, 109, 97, 108]⟩
  else if n = 32 then ⟨#[98, 97, 100, 107, 105, 110, 100]⟩
  else if n = 31 then ⟨#[98, 97, 100, 114, 97, 110, 103, 101]⟩
  else if n = 33 then ⟨#[98, 97, 100, 122, 101, 114, 111]⟩
  else if n = 34 then ⟨#[116, 111, 111, 98, 105, 103]⟩
  else if n = 90 then ⟨#[116, 111, 111, 100, 101, 101, 112]⟩
  else if n = 91 then ⟨#[116, 111, 111, 104, 105, 103, 104]⟩
  else ⟨#[98, 97, 100, 99, 111, 100, 101]⟩
def es7 : List Int := [0, 32, 31, 33, 34, 90, 91]
abbrev at5z : Array Value := #[.int .i64 0, .int .i64 0, .complex .f64 0 0, .string ⟨#[]⟩, .int .i64 0, .int .i64 0, .slice none 0 0]
theorem rw8_no {n : Int} (h : n ∉ es7) : rw8 n = ⟨#[98, 97, 100, 99, 111, 100, 101]⟩ := by
  simp [es7] at h
  simp [rw8, h]
theorem reason_runs : (es7.all fun n => runsTo E0 2 5000 50 8 #[.int .i64 n] (.agg (at5 (rw8 n)))) = true := by kernel_rfl
theorem refReason_runs : (es7.all fun n => runsTo E0 2 5000 50 9 #[.int .i64 n] (.agg (at5 (rw8 n)))) = true := by kernel_rfl
theorem same_runs : ((1 :: es7).all fun n => runsTo E0 2 5000 50 7 #[.agg (at5 (rw8 n)), .agg (at5 (rw8 n))] (.bool true)) = true := by kernel_rfl
theorem name_run : runsTo E0 2 5000 50 23 #[.string ⟨#[98, 97, 100, 99, 111, 100, 101]⟩] (.agg (at5 ⟨#[98, 97, 100, 99, 111, 100, 101]⟩)) = true := by kernel_rfl
theorem name_any (w : World) : Calls Tryz.prog 23 #[.string ⟨#[98, 97, 100, 99, 111, 100, 101]⟩] w fun e w1 => e = .returned (.agg (at5 ⟨#[98, 97, 100, 99, 111, 100, 101]⟩)) ∧ Only [] w w1 :=
  run_to E0_ok name_run w
theorem same_any (n : Int) (w : World) : Calls Tryz.prog 7 #[.agg (at5 (rw8 n)), .agg (at5 (rw8 n))] w fun e w1 => e = .returned (.bool true) ∧ Only [] w w1 := by
  have h := List.all_eq_true.1 same_runs
  by_cases hn : n ∈ es7
  · exact run_to E0_ok (h n (List.mem_cons_of_mem _ hn)) w
  · have h1 := run_to E0_ok (h 1 (List.mem_cons_self ..)) w
    rw [rw8_no (n := 1) (by decide)] at h1
    rw [rw8_no hn]
    exact h1
set_option maxHeartbeats 4000000 in
theorem reason_any (n : Int) (w : World) : Calls Tryz.prog 8 #[.int .i64 n] w fun e w1 => e = .returned (.agg (at5 (rw8 n))) ∧ Only [] w w1 := by
  by_cases hn : n ∈ es7
  · exact run_to E0_ok (List.all_eq_true.1 reason_runs n hn) w
  · rw [rw8_no hn]
    simp [es7] at hn
    obtain ⟨h1, h2, h3, h4, h5, h6, h7⟩ := hn
    have rs := store_com
    go_enter Tryz.func8, Tryz.ntmps8
    go_wp2_with fail
    obtain ⟨z0, z1, z2, z3, z4, z5, z6⟩ := (Bk.made w 28 (at5 ⟨#[98, 97, 100, 99, 111, 100, 101]⟩)).seven
    exact bodyPost_ret (v := .agg (at5 ⟨#[98, 97, 100, 99, 111, 100, 101]⟩)) (by simp [results, Tryz.results8, go_sem, z0, z1, z2, z3, z4, z5, z6]) rfl ⟨rfl, (Only.refl [] w).alloc _⟩
set_option maxHeartbeats 4000000 in
theorem refReason_any (n : Int) (w : World) : Calls Tryz.prog 9 #[.int .i64 n] w fun e w1 => e = .returned (.agg (at5 (rw8 n))) ∧ Only [] w w1 := by
  by_cases hn : n ∈ es7
  · exact run_to E0_ok (List.all_eq_true.1 refReason_runs n hn) w
  · rw [rw8_no hn]
    simp [es7] at hn
    obtain ⟨h1, h2, h3, h4, h5, h6, h7⟩ := hn
    have H := Lib.hid (fun w => name_any w)
    have rs := store_com
    go_enter Tryz.func9, Tryz.ntmps9
    go_wp2_with fail
    (with_reducible refine (H.out _).mono ?_)
    rintro e w1 ⟨rfl, o1⟩
    have B := Lib.hid ((Bk.made w 28 (at5z)).only o1 (by simp))
    have O := Lib.hid (((Only.refl [] w).alloc (.cells at5z 28)).trans o1 (by simp))
    obtain ⟨z0, z1, z2, z3, z4, z5, z6⟩ := B.out.seven
    have fr := B.out.free
    clear o1
    go_wp2_with fail
    have L := Nat.le_refl w.heap.size
    exact bodyPost_ret (v := .agg (at5 ⟨#[98, 97, 100, 99, 111, 100, 101]⟩)) (by simp [results, Tryz.results9, go_sem, z0, z1, z2, z3, z4, z5, z6]) rfl ⟨rfl, (((((((O.out.set (.inr L) _).set (.inr L) _).set (.inr L) _).set (.inr L) _).set (.inr L) _).set (.inr L) _).set (.inr L) _)⟩
/-! ### Reply to a stack that no maker made -/
abbrev stz : Array Value := #[.pointer none, .slice none 0 0, .slice none 0 0]
def W4 : AW := AW.new ⟨.e, 3, 4⟩ (.cells stz 45) false
def r4 (b c p : Nat) : Ren := fun k => if k < 2 then some (k, 0) else if k = 2 then some (b, c) else if k = 3 then some (p, 0) else none
theorem W4_get (k : Nat) : W4.get k = if k = 3 then some (.cells stz 45, false) else none := by
  unfold W4
  rw [AW.get_new]
  rfl
theorem W4_holds {k : Nat} (h : W4.holds k) : k = 3 := by
  unfold AW.holds at h
  rw [W4_get] at h
  by_cases h1 : k = 3
  · exact h1
  · rw [if_neg h1] at h
    exact absurd rfl h
theorem r4_WR (b c p : Nat) (w : World) (h : Bk w p 45 stz) : WR Tryz.prog (r4 b c p) W4 w := by
  refine ⟨fun k q hk => ?_, fun k o l hk => ?_, fun j k b x y hj hk _ _ => (W4_holds hj).trans (W4_holds hk).symm⟩
  · have hn : W4.next = 4 := rfl
    rw [hn]
    unfold r4 at hk
    by_cases h1 : k < 2
    · omega
    · rw [if_neg h1] at hk
      by_cases h2 : k = 2
      · omega
      · rw [if_neg h2] at hk
        by_cases h3 : k = 3
        · omega
        · rw [if_neg h3] at hk
          cases hk
  · rw [W4_get] at hk
    by_cases h1 : k = 3
    · rw [if_pos h1] at hk
      injection hk with hk
      injection hk with h2 h3
      subst h1 h2 h3
      refine ⟨p, 0, _, by simp [r4], h, .cells (by simp) fun i v hv => ⟨v, hv, ?_⟩, fun _ => rfl⟩
      match i, hv with
      | 0, rfl => exact .pnil
      | 1, rfl => exact .snil _ _
      | 2, rfl => exact .snil _ _
    · rw [if_neg h1] at hk
      cases hk
theorem replyS_run : runsIn E0 2 5000 50 6 #[.agg (md 2 0), .pointer (some ⟨3, 0, none⟩), .agg (ask0 2), .agg ans0] W4 (.int .i64 1) = true := by kernel_rfl
theorem reply_stack (b c p : Nat) (w : World) (h : Bk w p 45 stz) : Calls Tryz.prog 6 #[.agg (md b c), .pointer (some ⟨p, 0, none⟩), .agg (ask0 2), .agg ans0] w fun e w1 => e = .returned (.int .i64 1) ∧ Only [] w w1 := by
  refine runIn_ok E0_ok replyS_run (r := r4 b c p) ?_ (fun g hg => ⟨0, by simp [r4, hg]⟩) (r4_WR b c p w h) (fun k hk => by rw [W4_holds hk]; exact (by decide : 3 < 4))
  refine ⟨rfl, fun i v v' h1 h2 => ?_⟩
  match i, h1, h2 with
  | 0, rfl, rfl =>
    refine .agg rfl fun i v v' h1 h2 => ?_
    match i, h1, h2 with
    | 0, rfl, rfl => exact .string _
    | 1, rfl, rfl =>
      have := VR.slice (r := r4 b c p) (b := 2) (o := 0) (b' := b) (x := c) (n := 1) (c := 0) (sp := none) (by simp [r4])
      rwa [Nat.zero_add] at this
  | 1, rfl, rfl => exact .ptr (x := 0) (by simp [r4])
  | 2, rfl, rfl => exact .simple (by kernel_rfl)
  | 3, rfl, rfl => exact .simple (by kernel_rfl)
end Go.Proofs.YtafpakdoogdjaaaGreatDoor
