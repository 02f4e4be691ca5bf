/- Marked, Grown. -/
import Derived.Test.YtlidnlcmnkagaaaHp
namespace Go.Proofs.Ytlidnlcmnkagaaa
open Go.RowKit
set_option maxRecDepth 20000

/-- A full slice of the call's own, or nil. -/
def Fu (w : World) (A : Option Addr) (xs : List Int) : Prop := (A = none ∧ xs = []) ∨ ∃ g, A = some ⟨g, 0, none⟩ ∧ Bk w g 3 (ics xs)
def blk (A : Option Addr) : List Nat := (A.map (·.block)).toList
theorem Fu.rd {w : World} {A : Option Addr} {xs : List Int} (h : Fu w A xs) : Rd w A xs := by
  rcases h with ⟨_, rfl⟩ | ⟨g, rfl, hb⟩
  · exact Rd.nil _ _
  · exact Rd.of_bk hb
theorem Fu.only {S : List Nat} {w w' : World} {A : Option Addr} {xs : List Int} (h : Fu w A xs) (o : Only S w w') (hS : ∀ g, A = some ⟨g, 0, none⟩ → g ∉ S) : Fu w' A xs := by
  rcases h with h | ⟨g, rfl, hb⟩
  · exact .inl h
  · exact .inr ⟨g, rfl, hb.only o (hS g rfl)⟩
theorem Fu.lt {w : World} {A : Option Addr} {xs : List Int} (h : Fu w A xs) {g : Nat} (hg : A = some ⟨g, 0, none⟩) : g < w.heap.size := by
  rcases h with ⟨h, _⟩ | ⟨g', e, hb⟩
  · rw [h] at hg; cases hg
  · rw [e] at hg
    injection hg with hg
    injection hg with hg
    subst hg
    exact hb.lt

def marks (m : Int) (k : Nat) (xs : List Int) : List Int := List.replicate k (-1000000 - m) ++ xs.drop k
theorem marks_len (m : Int) {k : Nat} {xs : List Int} (h : k ≤ xs.length) : (marks m k xs).length = xs.length := by simp [marks]; omega
theorem marks_set (m : Int) {k : Nat} {xs : List Int} (h : k < xs.length) : (marks m k xs).set k (-1000000 - m) = marks m (k + 1) xs := by
  unfold marks
  rw [List.set_append_right _ _ (by simp), List.length_replicate, Nat.sub_self, List.drop_eq_getElem_cons h, List.set_cons_zero, List.replicate_succ']
  simp
theorem marks_full (m : Int) (xs : List Int) : marks m xs.length xs = List.replicate xs.length (-1000000 - m) := by simp [marks]
def MRel (w : World) (xs : List Int) (m : Int) (g : Nat) (v : Value) (wr : World) : Prop :=
  ∃ k : Nat, v = .int .i64 k ∧ k ≤ xs.length ∧ Bk wr g 3 (ics (marks m k xs)) ∧ Only [g] w wr

set_option maxHeartbeats 1000000 in
theorem marked_any {w : World} {A : Option Addr} {xs : List Int} (h : Fu w A xs) (hlen : xs.length ≤ 1000) (m : Int) (hm : 0 ≤ m ∧ m ≤ 1000) :
    Calls Try.prog 15 #[.slice A xs.length xs.length, .int .i64 m] w fun e w' => e = .returned (.tuple #[]) ∧ Fu w' A (List.replicate xs.length (-1000000 - m)) ∧ Only (blk A) w w' := by
  rcases h with ⟨rfl, rfl⟩ | ⟨g, rfl, hb⟩
  · go_enter Try.func15, Try.ntmps15
    go_wp2_with fail
    go_loopw [4] (fun v wr => v = .int .i64 0 ∧ wr = w) (fun _ _ => 0)
    case atStart => exact ⟨rfl, rfl⟩
    case round =>
      obtain ⟨rfl, rfl⟩ := hrel
      go_wp2
      go_end0
      exact ⟨rfl, .inl ⟨rfl, rfl⟩, Only.refl _ _⟩
  · have HB := Lib.hid hb
    obtain ⟨n, hn⟩ : ∃ n, n = xs.length := ⟨_, rfl⟩
    rw [← hn] at hlen ⊢
    have HN := Lib.hid hn
    clear hb hn
    go_enter Try.func15, Try.ntmps15
    go_wp2_with fail
    go_loopw [4] (fun v wr => MRel w xs m g v wr) (fun v _ => n - (intOf v).toNat)
    case atStart => exact ⟨0, rfl, Nat.zero_le _, by simpa [marks] using HB.out, Only.refl _ _⟩
    case round =>
      clear HB
      obtain ⟨k, rfl, hk, hb, ho⟩ := hrel
      rw [← HN.out] at hk
      by_cases hlt : k < n
      · have hlt' : k < xs.length := by rw [← HN.out]; exact hlt
        have hml := marks_len m (Nat.le_of_lt hlt')
        have hcell := hb.cell0 (ics_at (getElem?_getD (show k < (marks m k xs).length by omega)))
        have hfr := hb.free k
        have N1 := Lib.hid (show MRel w xs m g (.int .i64 ((k : Int) + 1)) (wr.setCell ⟨g, k, none⟩ (.int .i64 (-1000000 - m))) from ⟨k + 1, by go_num, by omega, by
          have h := hb.set k (.int .i64 (-1000000 - m))
          rw [ics_set, marks_set m hlt'] at h
          exact h, ho.set (.inl (by simp)) _⟩)
        generalize (marks m k xs).getD k 0 = x at *
        clear hml hb ho hlt'
        go_wp2
        go_roundw
        case rel => exact N1.out
        case measure => simp [intOf]; omega
      · obtain rfl : k = n := by omega
        rw [HN.out, marks_full] at hb
        have HF := Lib.hid (show Fu wr (some ⟨g, 0, none⟩) (List.replicate k (-1000000 - m)) from .inr ⟨g, rfl, by rw [HN.out]; exact hb⟩)
        have HO := Lib.hid (show Only (blk (some ⟨g, 0, none⟩)) w wr from ho)
        clear hb ho
        go_wp2
        go_end0
        exact ⟨rfl, HF.out, HO.out⟩

/-- The growing loop's head: nothing is put behind yet, or the row is the call's own. -/
def GrRel (w : World) (A : Option Addr) (n : Nat) (xs : List Int) (v v4 : Value) (wr : World) : Prop :=
  ∃ k : Nat, v4 = .int .i64 k ∧ k ≤ 20 ∧ Only [] w wr ∧ ((k = 0 ∧ v = .slice A n n ∧ Fu wr A xs) ∨ ∃ base ys, OwnL wr base v ys ∧ w.heap.size ≤ base ∧ base ≤ wr.heap.size ∧ ys.length = n + k)
set_option maxHeartbeats 2000000 in
theorem grown_any {w : World} {A : Option Addr} {xs : List Int} (h : Fu w A xs) (hlen : xs.length ≤ 1000) (m : Int) (hm : 0 ≤ m ∧ m ≤ 1000) :
    Calls Try.prog 33 #[.slice A xs.length xs.length, .int .i64 m] w fun e w' => e = .returned (.tuple #[]) ∧ Only [] w w' := by
  have H := Lib.hid h
  have hA : A = none → xs.length = 0 := fun e => by
    rcases h with ⟨_, rfl⟩ | ⟨g, e2, _⟩
    · rfl
    · rw [e] at e2; cases e2
  obtain ⟨n, hn⟩ : ∃ n, n = xs.length := ⟨_, rfl⟩
  rw [← hn] at hlen hA ⊢
  have HN := Lib.hid hn
  have HA := Lib.hid hA
  clear h hn hA
  go_enter Try.func33, Try.ntmps33
  go_wp2_with fail
  go_loopw [0, 4] (fun v v4 wr => GrRel w A n xs v v4 wr) (fun _ v _ => 20 - (intOf v).toNat)
  case atStart => exact ⟨0, rfl, by omega, Only.refl _ _, .inl ⟨rfl, rfl, H.out⟩⟩
  case round =>
    obtain ⟨k, rfl, hk, ho, hcase⟩ := hrel
    by_cases hlt : k < 20
    · obtain ⟨x, hx⟩ : ∃ x : Int, x = -2000000 - m := ⟨_, rfl⟩
      have HX := Lib.hid hx
      have hosz := ho.size
      have HO := Lib.hid ho
      clear hx ho
      rcases hcase with ⟨rfl, rfl, hf⟩ | ⟨base, ys, hown, hb1, hb2, hys⟩
      · have HR := Lib.hid (hf.rd.only ((Only.refl [] wr).alloc (.cells (ics [x]) 3)) (by simp))
        clear hf
        go_wp2_with (at_builtin; refine wpList_appGrow _ (by rfl) (.tmp 9) (.tmp 12) (by rfl) A n xs (by rfl) HN.out HA.out (by rw [HX.out] at HR; exact HR.out) wr.heap.size x (by rfl) (by rw [HX.out]; exact Bk.made wr 3 (ics [_])) (by rw [← HN.out]; omega) ?_; intro v' w1 hown1 o1; have N1 := Lib.hid (show GrRel w A n xs v' (.int .i64 1) w1 from ⟨1, rfl, by omega, (HO.out.alloc _).trans o1 (by simp), .inr ⟨_, _, hown1, by simp; omega, o1.size, by rw [List.length_append, ← HN.out]; rfl⟩⟩); clear hown1 o1)
        go_roundw
        case rel => exact N1.out
        case measure => simp [intOf]
      · have HOWN := Lib.hid hown
        have HYS := Lib.hid hys
        clear hown hys
        go_wp2_with (at_builtin; refine wpList_app _ (by rfl) (.tmp 9) (.tmp 12) (by rfl) (by rfl) (HOWN.out.alloc _) (some ⟨wr.heap.size, 0, none⟩) [x] 1 1 (by rfl) rfl (by rw [HX.out]; exact Rd.of_bk (Bk.made wr 3 (ics [_]))) (by simp; omega) (by rw [HYS.out]; simp; omega) ?_; intro v' w1 hown1 hg1 _; have N1 := Lib.hid (show GrRel w A n xs v' (.int .i64 ((k : Int) + 1)) w1 from ⟨k + 1, by go_num, by omega, (HO.out.alloc _).trans (Only.of_grown hg1) (fun i hi => .inr (by have := (World.ownsRow.lt HOWN.out i (by simpa using hi)).1; omega)), .inr ⟨base, _, hown1, hb1, by have := hg1.size; simp at this; omega, by rw [List.length_append, HYS.out]; simp; omega⟩⟩); clear hown1 hg1)
        go_roundw
        case rel => exact N1.out
        case measure => simp [intOf]; omega
    · have HO := Lib.hid ho
      clear ho hcase
      go_wp2
      go_end0
      exact ⟨rfl, HO.out⟩
end Go.Proofs.Ytlidnlcmnkagaaa
