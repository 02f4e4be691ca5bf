/- What each step does, on both sides, in one word a step. -/
import Derived.Test.YteebkgclopffbaaRefs3
namespace Go.Proofs.Yteebkgclopffbaa
open Go.RowKit

/-- The document's ring, handed back: it reads as xs; its list stands where Aw stood, or in new memory. -/
def RefOk (w w' : World) (room : Nat) (Aw : Option Addr) (xs0 xs : List Int) (v : Value) : Prop :=
  ∃ A cap, v = .agg #[.int .i64 room, .slice A xs.length cap] ∧ xs.length ≤ cap ∧ cap ≤ maxLen ∧ Rd w' A xs ∧ (∀ bl off, A = some ⟨bl, off, none⟩ → (Aw = some ⟨bl, off, none⟩ ∧ xs = xs0) ∨ w.heap.size ≤ bl) ∧ Only [] w w'
/-- The ring, after a step. -/
def RingOk (w w' : World) (b : Nat) (A : Option Nat) (room : Nat) (xs : List Int) : Prop :=
  ∃ A', Ring w' b A' room xs ∧ NewA w A A' ∧ Only (b :: A.toList) w w'

theorem RingOk.same {w w' : World} {b : Nat} {A : Option Nat} {room : Nat} {xs : List Int} (r : Ring w b A room xs) (o : Only [] w w') : RingOk w w' b A room xs :=
  ⟨A, r.only o (by simp) (by simp), .inl rfl, o.more (by simp)⟩

def pushErr (room : Nat) (xs : List Int) : Int := if xs.length < room then 0 else 2
def pushList (room : Nat) (xs : List Int) (x : Int) : List Int := if xs.length < room then xs ++ [x] else xs

theorem ring_push {w : World} {b : Nat} {A : Option Nat} {room : Nat} {xs : List Int} (hr : Ring w b A room xs) (x : Int) :
    Calls Try.prog 18 #[.pointer (some ⟨b, 0, none⟩), .int .i64 x] w fun e w' => e = .returned (.int .i64 (pushErr room xs)) ∧ RingOk w w' b A room (pushList room xs x) := by
  unfold pushErr pushList
  by_cases h : xs.length < room
  · rw [if_pos h, if_pos h]
    exact push_room hr x h
  · rw [if_neg h, if_neg h]
    exact (push_full hr x h).mono fun _ _ ⟨he, k, hw⟩ => ⟨he, by rw [hw]; exact RingOk.same hr ((Only.refl _ _).drewN k)⟩
theorem ref_push {w : World} (room : Nat) (A : Option Addr) (xs : List Int) (cap : Nat) (x : Int) (h1 : 1 ≤ room) (htop : room ≤ 65536) (hR : Rd w A xs) (hcap : xs.length ≤ cap) (hm : cap ≤ maxLen) (hlen : xs.length ≤ room) :
    Calls Try.prog 29 #[.agg #[.int .i64 room, .slice A xs.length cap], .int .i64 x] w fun e w' => ∃ v, e = .returned (.tuple #[v, .int .i64 (pushErr room xs)]) ∧ RefOk w w' room A xs (pushList room xs x) v := by
  unfold pushErr pushList
  by_cases h : xs.length < room
  · rw [if_pos h, if_pos h]
    exact (refPush_room room A xs cap x hR h htop).mono fun _ _ ⟨A', cap', he, h2, h3, h4, h5, h6⟩ => ⟨_, he, A', cap', rfl, h2, h3, h4, fun bl off e => .inr (h5 bl off e), h6⟩
  · rw [if_neg h, if_neg h]
    exact (refPush_full room A xs.length cap x h1 (by omega) htop).mono fun _ _ ⟨he, h6⟩ => ⟨_, he, A, cap, rfl, hcap, hm, hR.only h6 (by simp), fun bl off e => .inl ⟨e, rfl⟩, h6⟩

def inB (xs : List Int) (i : Int) : Prop := 0 ≤ i ∧ i < xs.length
instance (xs : List Int) (i : Int) : Decidable (inB xs i) := inferInstanceAs (Decidable (0 ≤ i ∧ i < xs.length))
def atVal (xs : List Int) (i : Int) : Int := if inB xs i then xs.getD i.toNat 0 else 0
def atErr (xs : List Int) (i : Int) : Int := if inB xs i then 0 else 3
def takeList (xs : List Int) (i : Int) : List Int := if inB xs i then xs.eraseIdx i.toNat else xs

theorem ring_at {w : World} {b : Nat} {A : Option Nat} {room : Nat} {xs : List Int} (hr : Ring w b A room xs) (i : Int) :
    Calls Try.prog 25 #[.pointer (some ⟨b, 0, none⟩), .int .i64 i] w fun e w' => e = .returned (.tuple #[.int .i64 (atVal xs i), .int .i64 (atErr xs i)]) ∧ RingOk w w' b A room xs := by
  unfold atVal atErr
  by_cases h : inB xs i
  · rw [if_pos h, if_pos h]
    obtain ⟨k, rfl⟩ := Int.eq_ofNat_of_zero_le h.1
    have hk : k < xs.length := by have := h.2; omega
    exact (at_yes hr k hk).mono fun _ _ ⟨he, q, hw⟩ => ⟨he, by rw [hw]; exact RingOk.same hr ((Only.refl _ _).drewN q)⟩
  · rw [if_neg h, if_neg h]
    exact (at_no hr i (by unfold inB at h; omega)).mono fun _ _ ⟨he, hw⟩ => ⟨he, by rw [← hw]; exact RingOk.same hr (Only.refl _ _)⟩
theorem ring_take {w : World} {b : Nat} {A : Option Nat} {room : Nat} {xs : List Int} (hr : Ring w b A room xs) (i : Int) :
    Calls Try.prog 26 #[.pointer (some ⟨b, 0, none⟩), .int .i64 i] w fun e w' => e = .returned (.tuple #[.int .i64 (atVal xs i), .int .i64 (atErr xs i)]) ∧ RingOk w w' b A room (takeList xs i) := by
  unfold atVal atErr takeList
  by_cases h : inB xs i
  · rw [if_pos h, if_pos h, if_pos h]
    obtain ⟨k, rfl⟩ := Int.eq_ofNat_of_zero_le h.1
    have hk : k < xs.length := by have := h.2; omega
    exact (take_yes hr k hk).mono fun _ _ ⟨he, r, o⟩ => ⟨he, A, r, .inl rfl, o⟩
  · rw [if_neg h, if_neg h, if_neg h]
    exact (take_no hr i (by unfold inB at h; omega)).mono fun _ _ ⟨he, hw⟩ => ⟨he, by rw [← hw]; exact RingOk.same hr (Only.refl _ _)⟩
theorem ref_at {w : World} (room : Nat) (A : Option Addr) (xs : List Int) (cap : Nat) (i : Int) (h1 : 1 ≤ room) (hR : Rd w A xs) (hx : xs.length ≤ 65536) :
    Calls Try.prog 31 #[.agg #[.int .i64 room, .slice A xs.length cap], .int .i64 i] w fun e w' => e = .returned (.tuple #[.int .i64 (atVal xs i), .int .i64 (atErr xs i)]) ∧ Only [] w w' := by
  unfold atVal atErr
  by_cases h : inB xs i
  · rw [if_pos h, if_pos h]
    obtain ⟨k, rfl⟩ := Int.eq_ofNat_of_zero_le h.1
    have hk : k < xs.length := by have := h.2; omega
    exact refAt_yes room A xs cap k h1 hR hk hx
  · rw [if_neg h, if_neg h]
    exact refAt_no room A xs.length cap i h1 (by unfold inB at h; omega)
theorem ref_take {w : World} (room : Nat) (A : Option Addr) (xs : List Int) (cap : Nat) (i : Int) (h1 : 1 ≤ room) (hR : Rd w A xs) (hx : xs.length ≤ 65536) (hcap : xs.length ≤ cap) (hm : cap ≤ maxLen) :
    Calls Try.prog 32 #[.agg #[.int .i64 room, .slice A xs.length cap], .int .i64 i] w fun e w' => ∃ v, e = .returned (.tuple #[v, .int .i64 (atVal xs i), .int .i64 (atErr xs i)]) ∧ RefOk w w' room A xs (takeList xs i) v := by
  unfold atVal atErr takeList
  by_cases h : inB xs i
  · rw [if_pos h, if_pos h, if_pos h]
    obtain ⟨k, rfl⟩ := Int.eq_ofNat_of_zero_le h.1
    have hk : k < xs.length := by have := h.2; omega
    exact (refTake_yes room A xs cap k h1 hR hk hx hcap).mono fun _ _ ⟨A', cap', he, h2, h3, h4, h5, h6⟩ => ⟨_, he, A', cap', rfl, h2, h3, h4, fun bl off e => .inr (h5 bl off e), h6⟩
  · rw [if_neg h, if_neg h, if_neg h]
    exact (refTake_no room A xs.length cap i h1 (by unfold inB at h; omega)).mono fun _ _ ⟨he, h6⟩ => ⟨_, he, A, cap, rfl, hcap, hm, hR.only h6 (by simp), fun bl off e => .inl ⟨e, rfl⟩, h6⟩

theorem ring_pop {w : World} {b : Nat} {A : Option Nat} {room : Nat} {xs : List Int} (hr : Ring w b A room xs) :
    Calls Try.prog 19 #[.pointer (some ⟨b, 0, none⟩)] w fun e w' => e = .returned (.tuple #[.int .i64 (atVal xs 0), .int .i64 (atErr xs 0)]) ∧ RingOk w w' b A room (takeList xs 0) := by
  cases xs with
  | nil => exact (pop_no hr).mono fun _ _ ⟨he, hw⟩ => ⟨he, by rw [← hw]; exact RingOk.same hr (Only.refl _ _)⟩
  | cons x t =>
    have h : inB (x :: t) 0 := ⟨by omega, by simp⟩
    unfold atVal atErr takeList
    rw [if_pos h, if_pos h, if_pos h]
    exact (pop_yes hr).mono fun _ _ ⟨he, r, o⟩ => ⟨he, A, r, .inl rfl, o⟩
theorem ref_pop {w : World} (room : Nat) (A : Option Addr) (xs : List Int) (cap : Nat) (h1 : 1 ≤ room) (hR : Rd w A xs) (hx : xs.length ≤ 65536) (hcap : xs.length ≤ cap) (hm : cap ≤ maxLen) :
    Calls Try.prog 30 #[.agg #[.int .i64 room, .slice A xs.length cap]] w fun e w' => ∃ v, e = .returned (.tuple #[v, .int .i64 (atVal xs 0), .int .i64 (atErr xs 0)]) ∧ RefOk w w' room A xs (takeList xs 0) v := by
  cases xs with
  | nil => exact (refPop_no room A cap h1).mono fun _ _ ⟨he, h6⟩ => ⟨_, he, A, cap, rfl, hcap, hm, Rd.nil _ _, fun bl off e => .inl ⟨e, rfl⟩, h6⟩
  | cons x t =>
    have h : inB (x :: t) 0 := ⟨by omega, by simp⟩
    unfold atVal atErr takeList
    rw [if_pos h, if_pos h, if_pos h]
    exact (refPop_yes room A x t cap h1 hR (by simpa using hx) (by simpa using hcap)).mono fun _ _ ⟨A', cap', he, h2, h3, h4, h5, h6⟩ => ⟨_, he, A', cap', rfl, h2, h3, h4, fun bl off e => .inr (h5 bl off e), h6⟩

def cutErr (xs : List Int) (n : Int) : Int := if n < 0 then 1 else if (xs.length : Int) < n then 3 else 0
def cutLeft (xs : List Int) (n : Int) : List Int := if n < 0 ∨ (xs.length : Int) < n then xs else xs.take (xs.length - n.toNat)
def cutOut (xs : List Int) (n : Int) : List Int := if n < 0 ∨ (xs.length : Int) < n then [] else xs.drop (xs.length - n.toNat)

theorem own_of_bk {w : World} {G base : Nat} {xs : List Int} (h : Bk w G 3 (ics xs)) (hb : base ≤ G) (hm : xs.length ≤ maxLen) : OwnL w base (.slice (some ⟨G, 0, none⟩) xs.length xs.length) xs :=
  ⟨by simp, .inr ⟨G, xs.length, ics xs, rfl, hb, h, Nat.le_refl _, hm, by simp [ics], by simp [ics, List.take_of_length_le]⟩⟩

theorem ring_cut {w : World} {b : Nat} {A : Option Nat} {room : Nat} {xs : List Int} (hr : Ring w b A room xs) (n : Int) :
    Calls Try.prog 23 #[.pointer (some ⟨b, 0, none⟩), .int .i64 n] w fun e w' => ∃ lv, e = .returned (.tuple #[lv, .int .i64 (cutErr xs n)]) ∧ OwnL w' w.heap.size lv (cutOut xs n) ∧ (lv.ownBlock = none ∨ lv.ownBlock = some w.heap.size) ∧
      Ring w' b A room (cutLeft xs n) ∧ Only (b :: A.toList) w w' := by
  have hle := hr.len
  have htop := hr.top
  unfold cutErr cutLeft cutOut
  by_cases h : n < 0
  · rw [if_pos h, if_pos (.inl h), if_pos (.inl h)]
    exact (cut_neg hr n h).mono fun _ _ ⟨he, hw⟩ => ⟨_, he, OwnL.nil _ _, .inl rfl, by rw [← hw]; exact hr, by rw [← hw]; exact Only.refl _ _⟩
  · by_cases h2 : (xs.length : Int) < n
    · rw [if_neg h, if_pos h2, if_pos (.inr h2), if_pos (.inr h2)]
      exact (cut_none hr n h2).mono fun _ _ ⟨he, hw⟩ => ⟨_, he, OwnL.nil _ _, .inl rfl, by rw [← hw]; exact hr, by rw [← hw]; exact Only.refl _ _⟩
    · rw [if_neg h, if_neg h2, if_neg (by omega), if_neg (by omega)]
      obtain ⟨k, rfl⟩ := Int.eq_ofNat_of_zero_le (show 0 ≤ n by omega)
      have hk : k ≤ xs.length := by omega
      refine (cut_yes hr k hk).mono fun _ _ ⟨he, hb, r, o⟩ => ?_
      have hdl : (xs.drop (xs.length - k)).length = k := by simp; omega
      have hown := own_of_bk (base := w.heap.size) hb (Nat.le_refl _) (by rw [hdl]; simp only [maxLen]; omega)
      rw [hdl] at hown
      exact ⟨_, he, hown, .inr rfl, r, o⟩
theorem ref_cut {w : World} (room : Nat) (A : Option Addr) (xs : List Int) (cap : Nat) (n : Int) (h1 : 1 ≤ room) (hR : Rd w A xs) (hx : xs.length ≤ 65536) (hcap : xs.length ≤ cap) (hm : cap ≤ maxLen) :
    Calls Try.prog 33 #[.agg #[.int .i64 room, .slice A xs.length cap], .int .i64 n] w fun e w' => ∃ v B capb, e = .returned (.tuple #[v, .slice B (cutOut xs n).length capb, .int .i64 (cutErr xs n)]) ∧ RefOk w w' room A xs (cutLeft xs n) v ∧ Rd w' B (cutOut xs n) := by
  unfold cutErr cutLeft cutOut
  by_cases h : n < 0
  · rw [if_pos h, if_pos (.inl h), if_pos (.inl h)]
    refine (refCut_no room A xs.length cap n h1 (.inl h)).mono fun _ _ ⟨he, h6⟩ => ?_
    rw [if_pos h] at he
    exact ⟨_, none, 0, he, ⟨A, cap, rfl, hcap, hm, hR.only h6 (by simp), fun bl off e => .inl ⟨e, rfl⟩, h6⟩, Rd.nil _ _⟩
  · by_cases h2 : (xs.length : Int) < n
    · rw [if_neg h, if_pos h2, if_pos (.inr h2), if_pos (.inr h2)]
      refine (refCut_no room A xs.length cap n h1 (.inr h2)).mono fun _ _ ⟨he, h6⟩ => ?_
      rw [if_neg h] at he
      exact ⟨_, none, 0, he, ⟨A, cap, rfl, hcap, hm, hR.only h6 (by simp), fun bl off e => .inl ⟨e, rfl⟩, h6⟩, Rd.nil _ _⟩
    · rw [if_neg h, if_neg h2, if_neg (by omega), if_neg (by omega)]
      obtain ⟨k, rfl⟩ := Int.eq_ofNat_of_zero_le (show 0 ≤ n by omega)
      exact (refCut_yes room A xs cap k h1 hR (by omega) hx hcap).mono fun _ _ ⟨A', cap', B, capb, he, h2, h3, h4, h5, h6, h7⟩ => ⟨_, B, capb, he, ⟨A', cap', rfl, h2, h3, h4, fun bl off e => .inr (h5 bl off e), h7⟩, h6⟩

def joinErr (room : Nat) (xs l : List Int) : Int := if xs.length + l.length ≤ room then 0 else 2
def joinList (room : Nat) (xs l : List Int) : List Int := if xs.length + l.length ≤ room then xs ++ l else xs
theorem ring_join {w : World} {b : Nat} {A : Option Nat} {room : Nat} {xs : List Int} (hr : Ring w b A room xs) (Al : Option Addr) (l : List Int) (cap : Nat) (hl : Rd w Al l) (hm : l.length ≤ 9223372036854775807)
    (hb : l ≠ [] → ∀ bl off, Al = some ⟨bl, off, none⟩ → bl ∉ b :: A.toList) :
    Calls Try.prog 22 #[.pointer (some ⟨b, 0, none⟩), .slice Al l.length cap] w fun e w' => e = .returned (.int .i64 (joinErr room xs l)) ∧ RingOk w w' b A room (joinList room xs l) := by
  unfold joinErr joinList
  by_cases h : xs.length + l.length ≤ room
  · rw [if_pos h, if_pos h]
    exact join_yes hr Al l cap hl hb h
  · rw [if_neg h, if_neg h]
    exact (join_no hr Al l.length cap hm (by omega)).mono fun _ _ ⟨he, k, hw⟩ => ⟨he, by rw [hw]; exact RingOk.same hr ((Only.refl _ _).drewN k)⟩
theorem ref_join {w : World} (room : Nat) (A B : Option Addr) (xs ys : List Int) (cap capb : Nat) (h1 : 1 ≤ room) (htop : room ≤ 65536) (hR : Rd w A xs) (hB : Rd w B ys) (hcap : xs.length ≤ cap) (hm : cap ≤ maxLen) (hlen : xs.length ≤ room) (hmy : ys.length ≤ 9223372036854775807) :
    Calls Try.prog 34 #[.agg #[.int .i64 room, .slice A xs.length cap], .slice B ys.length capb] w fun e w' => ∃ v, e = .returned (.tuple #[v, .int .i64 (joinErr room xs ys)]) ∧ RefOk w w' room A xs (joinList room xs ys) v := by
  unfold joinErr joinList
  by_cases h : xs.length + ys.length ≤ room
  · rw [if_pos h, if_pos h]
    exact (refJoin_yes room A B xs ys cap capb h1 htop hR hB h).mono fun _ _ ⟨A', cap', he, h2, h3, h4, h5, h6⟩ => ⟨_, he, A', cap', rfl, h2, h3, h4, fun bl off e => .inr (h5 bl off e), h6⟩
  · rw [if_neg h, if_neg h]
    exact (refJoin_no room A B xs.length cap ys.length capb h1 htop hlen hmy (by omega)).mono fun _ _ ⟨he, h6⟩ => ⟨_, he, A, cap, rfl, hcap, hm, hR.only h6 (by simp), fun bl off e => .inl ⟨e, rfl⟩, h6⟩

end Go.Proofs.Yteebkgclopffbaa
