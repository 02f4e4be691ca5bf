/- The document's Windows. -/
import Derived.Test.YteebkgclopffbaaWin2
namespace Go.Proofs.Yteebkgclopffbaa
open Go.RowKit

theorem OwnL.blk {w : World} {base : Nat} {v : Value} {xs : List Int} (h : OwnL w base v xs) (g : Nat) (hg : v.ownBlock = some g) : base ≤ g ∧ ∃ cur, Bk w g 3 cur := by
  obtain ⟨h1, h2⟩ := h
  rcases h2 with ⟨rfl, _⟩ | ⟨g', cap, cur, rfl, hb, hh, rest⟩
  · simp [Value.ownBlock] at hg
  · simp [Value.ownBlock] at hg
    subst hg
    exact ⟨hb, cur, hh⟩
theorem OwnV.blk {w : World} {base : Nat} {v : Value} {us : List Value} (h : OwnV w base v us) (g : Nat) (hg : v.ownBlock = some g) : base ≤ g ∧ ∃ cur, Bk w g 27 cur := by
  obtain ⟨h1, h2⟩ := h
  rcases h2 with ⟨rfl, _⟩ | ⟨g', cap, cur, rfl, hb, hh, rest⟩
  · simp [Value.ownBlock] at hg
  · simp [Value.ownBlock] at hg
    subst hg
    exact ⟨hb, cur, hh⟩
theorem OwnL.one {w : World} {base : Nat} {v : Value} {xs : List Int} (h : OwnL w base v xs) : v.oneCell' = true := by
  obtain ⟨A, cap, rfl, _⟩ := h.form
  rfl

structure RW (w wr : World) (room : Nat) (l : List Int) (k i : Nat) (us : List Value) (vout vone : Value) : Prop where
  out : OwnV wr w.heap.size vout us
  len : us.length = k
  each : ∀ (j : Nat) (u : Value), us[j]? = some u → OwnL wr w.heap.size u ((l.drop (j * room)).take room) ∧ ∀ g, u.ownBlock = some g → vone.ownBlock ≠ some g
  one : OwnL wr w.heap.size vone ((l.drop (k * room)).take (i - k * room))
  only : Only [] w wr

theorem RW.start (w : World) (room : Nat) (l : List Int) : RW w w room l 0 0 [] (.slice none 0 0) (.slice none 0 0) :=
  ⟨OwnV.nil _ _, rfl, fun j u h => by simp at h, by simpa using OwnL.nil w w.heap.size, Only.refl _ _⟩

theorem RW.push {w wr w' : World} {room k i : Nat} {l : List Int} {us : List Value} {vout vone v' : Value} {x : Int} {obj : Obj} (r : RW w wr room l k i us vout vone) (h1 : k * room ≤ i) (h2 : i < l.length) (hx : x = l.getD i 0)
    (hown : OwnL w' w.heap.size v' ((l.drop (k * room)).take (i - k * room) ++ [x])) (hg : (wr.alloc obj).grownBy w' vone.ownBlock) (ha : v'.ownBlock = vone.ownBlock ∨ v'.ownBlock = some (wr.alloc obj).heap.size) : RW w w' room l k (i + 1) us vout v' := by
  have og : Only vone.ownBlock.toList (wr.alloc obj) w' := Only.of_grown hg
  refine ⟨?_, r.len, fun j u hu => ⟨?_, fun g hg0 => ?_⟩, ?_, ?_⟩
  · refine (r.out.alloc obj).only og (fun g hg0 hm => ?_)
    obtain ⟨_, c1, b1⟩ := r.out.blk g hg0
    obtain ⟨_, c2, b2⟩ := r.one.blk g (by simpa using hm)
    exact b1.apart b2 (by decide) rfl
  · refine ((r.each j u hu).1.alloc obj).only og (fun g hg0 hm => ?_)
    exact (r.each j u hu).2 g hg0 (by simpa using hm)
  · rcases ha with ha | ha
    · rw [ha]
      exact (r.each j u hu).2 g hg0
    · rw [ha]
      obtain ⟨_, c1, b1⟩ := (r.each j u hu).1.blk g hg0
      have := b1.lt
      simp
      omega
  · rw [show i + 1 - k * room = (i - k * room) + 1 by omega, List.take_add_one, List.getElem?_drop, show k * room + (i - k * room) = i by omega, getElem?_getD h2, ← hx]
    exact hown
  · refine (r.only.alloc obj).trans og (fun g hm => .inr ?_)
    exact (r.one.blk g (by simpa using hm)).1

theorem RW.cut {w wr w' : World} {room k i : Nat} {l : List Int} {us : List Value} {vout vone v' : Value} {obj : Obj} (r : RW w wr room l k i us vout vone)
    (hown : OwnV w' w.heap.size v' (us ++ [vone])) (hg : (wr.alloc obj).grownBy w' vout.ownBlock) (hfull : i - k * room = room ∨ i = l.length ∧ i ≤ k * room + room) (hle : i ≤ k * room + room) : RW w w' room l (k + 1) i (us ++ [vone]) v' (.slice none 0 0) := by
  have og : Only vout.ownBlock.toList (wr.alloc obj) w' := Only.of_grown hg
  have e : (k + 1) * room = k * room + room := by rw [Nat.add_mul, Nat.one_mul]
  have hlen := r.len
  have keep : ∀ u xs, OwnL wr w.heap.size u xs → OwnL w' w.heap.size u xs := fun u xs hu => (hu.alloc obj).only og (fun g hg0 hm => by
    obtain ⟨_, c1, b1⟩ := hu.blk g hg0
    obtain ⟨_, c2, b2⟩ := r.out.blk g (by simpa using hm)
    exact b1.apart b2 (by decide) rfl)
  refine ⟨hown, by simp [hlen], fun j u hu => ⟨?_, fun g hg0 => by simp [Value.ownBlock]⟩, ?_, ?_⟩
  · by_cases hj : j < us.length
    · rw [List.getElem?_append_left hj] at hu
      exact keep _ _ (r.each j u hu).1
    · have hjk : j = k := by
        apply Nat.le_antisymm _ (by omega)
        apply Nat.le_of_not_lt
        intro h
        rw [List.getElem?_eq_none (by simp; omega)] at hu
        cases hu
      subst hjk
      rw [List.getElem?_append_right (by omega), hlen, Nat.sub_self] at hu
      simp at hu
      subst hu
      have h := keep _ _ r.one
      rcases hfull with hf | ⟨hf, _⟩
      · rw [hf] at h
        exact h
      · rw [List.take_of_length_le (by simp; omega)] at h ⊢
        exact h
  · rw [e, show i - (k * room + room) = 0 by omega, List.take_zero]
    exact OwnL.nil _ _
  · refine (r.only.alloc obj).trans og (fun g hm => .inr ?_)
    exact (r.out.blk g (by simpa using hm)).1

/-- The document's windows: rows of their own. -/
def RCuts (w : World) (room : Nat) (l : List Int) (e : Ending) (w' : World) : Prop :=
  ∃ us P cap, e = .returned (.tuple #[.slice P us.length cap, .int .i64 0]) ∧ us.length * room < l.length + room ∧ l.length ≤ us.length * room ∧ OwnV w' w.heap.size (.slice P us.length cap) us ∧
    (∀ (j : Nat) (u : Value), us[j]? = some u → OwnL w' w.heap.size u ((l.drop (j * room)).take room)) ∧ Only [] w w'

def RWRel (w : World) (room : Nat) (l : List Int) (vout vone vi : Value) (wr : World) : Prop :=
  ∃ (k i : Nat) (us : List Value), vi = .int .i64 i ∧ i ≤ l.length ∧ k * room < l.length + room ∧ (i < l.length → k * room ≤ i ∧ i < k * room + room) ∧ (i = l.length → l.length ≤ k * room) ∧ RW w wr room l k i us vout vone

theorem refWindows_no (room : Int) (v : Value) (h : ¬ (1 ≤ room ∧ room ≤ 65536)) (w : World) :
    Calls Try.prog 15 #[v, .int .i64 room] w fun e w' => e = .returned (.tuple #[.slice none 0 0, .int .i64 1]) ∧ w = w' := by
  by_cases h1 : room < 1
  · have hd : decide (room < 1) = true := decide_eq_true h1
    go_enter Try.func15, Try.ntmps15
    go_wp2
    go_ret2
    exact ⟨rfl, rfl⟩
  · have hd : decide (room < 1) = false := decide_eq_false h1
    have hd2 : decide (room > 65536) = true := decide_eq_true (by omega)
    go_enter Try.func15, Try.ntmps15
    go_wp2
    go_ret2
    exact ⟨rfl, rfl⟩

set_option maxHeartbeats 2000000 in
theorem refWindows_yes (room : Nat) (A : Option Addr) (l : List Int) (cap : Nat) (h1 : 1 ≤ room) (h2 : room ≤ 65536) (w : World) (hl : Rd w A l) (hlen : l.length ≤ 1000000000) :
    Calls Try.prog 15 #[.slice A l.length cap, .int .i64 room] w (RCuts w room l) := by
  have HL := Lib.hid hl
  clear hl
  go_enter Try.func15, Try.ntmps15
  go_wp2_with fail
  go_loopw [6, 7, 8] (fun vout vone vi wr => RWRel w room l vout vone vi wr) (fun _ _ vi _ => l.length - (intOf vi).toNat)
  case atStart => exact ⟨0, 0, [], rfl, Nat.zero_le _, by simp; omega, fun _ => by simp; omega, fun h => by omega, RW.start w room l⟩
  case round =>
    obtain ⟨k, i, us, rfl, hi, hk, hin, hend, r⟩ := hrel
    by_cases hlt : i < l.length
    · obtain ⟨h3, h4⟩ := hin hlt
      have hR : Rd wr A l := HL.out.only r.only (by simp)
      obtain ⟨bl, off, rfl, hc⟩ := hR.form (by omega)
      have hcell := hc i hlt
      have hsz := r.only.size
      obtain ⟨c, hcl⟩ : ∃ c, c = i - k * room := ⟨_, rfl⟩
      have hl1 : ((l.drop (k * room)).take c).length = c := by simp; omega
      have hkl : us.length ≤ 1000000000000 := by rw [r.len]; exact Nat.le_trans (Nat.le_trans (Nat.le_mul_of_pos_right k h1) (show k * room ≤ 1000000000 by omega)) (by omega)
      generalize hx : l.getD i 0 = x at *
      have PU := Lib.hid (fun v' w' obj a b d => RW.push (v' := v') (w' := w') (obj := obj) r h3 hlt hx.symm a b d)
      rw [← hcl] at PU
      have HO := r.one
      rw [← hcl] at HO
      have HO := Lib.hid HO
      have HR := Lib.hid r
      have HK := Lib.hid hk
      clear hR hc hx hend hin r hk
      have e1 : (k + 1) * room = k * room + room := by rw [Nat.add_mul, Nat.one_mul]
      have e2 : i + 1 - k * room = c + 1 := by omega
      have hci : i = c + k * room := by omega
      have hcb : c ≤ 65536 := by omega
      have HLE : Hid (i + 1 ≤ k * room + room) := h4
      have HC := Lib.hid hcl
      clear hcl
      by_cases hf1 : c + 1 = room
      · have g1 : (c + 1 == room) = true := by simp [hf1]
        have g1' : (((c : Int) + 1) == (room : Int)) = true := by simp; omega
        have HFULL : Hid (i + 1 - k * room = room ∨ i + 1 = l.length ∧ i + 1 ≤ k * room + room) := .inl (by omega)
        have HF1 := Lib.hid hf1
        have HCI := Lib.hid hci
        have HE1 := Lib.hid e1
        have HE2 := Lib.hid e2
        clear hf1 hci e1 e2
        go_wp2_with (first | (at_builtin; refine wpList_app _ (by rfl) (.tmp 21) (.tmp 26) (by rfl) (by rfl) (HO.out.alloc _) (some ⟨wr.heap.size, 0, none⟩) [x] 1 1 (by rfl) rfl (Rd.of_bk (Bk.made wr 3 (ics [x]))) (by simp; omega) (by rw [hl1]; simp; omega) ?_; intro v' w1 hown1 hg1 ha1; have N1 := Lib.hid (PU.out v' w1 _ hown1 hg1 ha1); obtain ⟨A1, cap1, rfl, hf1, hf2, hf3, hf4⟩ := hown1.form; rw [List.length_append, hl1] at *; have hs1 := N1.out.only.size; clear hown1 hg1 ha1 hf1 hf2 hf3 hf4) | (at_builtin; refine wpList_appV _ (by rfl) (.tmp 39) (.tmp 41) (by rfl) (by rfl) (N1.out.out.alloc _) w1.heap.size _ (by rfl) (Bk.made _ _ _) (by rfl) (by simp; omega) hkl ?_; intro v2 w2 hown2 hg2 _; have N2 := Lib.hid (N1.out.cut hown2 hg2 HFULL.out HLE.out); clear hown2 hg2))
        go_roundw
        case rel => exact ⟨k + 1, i + 1, us ++ [_], by go_num, hlt, by rw [HE1.out]; have := HLE.out; have := HF1.out; have := HCI.out; omega, fun h => by rw [HE1.out]; have := HF1.out; have := HCI.out; omega, fun h => by rw [HE1.out]; have := HF1.out; have := HCI.out; omega, N2.out⟩
        case measure => simp [intOf]; omega
      · have g1 : (c + 1 == room) = false := by simp [hf1]
        have g1' : (((c : Int) + 1) == (room : Int)) = false := by simp; omega
        by_cases hf2 : i + 1 = l.length
        · have g2 : ((i : Int) == (l.length : Int) - 1) = true := by simp; omega
          have HFULL : Hid (i + 1 - k * room = room ∨ i + 1 = l.length ∧ i + 1 ≤ k * room + room) := .inr (by omega)
          have HF2 := Lib.hid hf2
          have HCI := Lib.hid hci
          have HE1 := Lib.hid e1
          have HE2 := Lib.hid e2
          clear hf1 hf2 hci e1 e2
          go_wp2_with (first | (at_builtin; refine wpList_app _ (by rfl) (.tmp 21) (.tmp 26) (by rfl) (by rfl) (HO.out.alloc _) (some ⟨wr.heap.size, 0, none⟩) [x] 1 1 (by rfl) rfl (Rd.of_bk (Bk.made wr 3 (ics [x]))) (by simp; omega) (by rw [hl1]; simp; omega) ?_; intro v' w1 hown1 hg1 ha1; have N1 := Lib.hid (PU.out v' w1 _ hown1 hg1 ha1); obtain ⟨A1, cap1, rfl, hf1, hf2, hf3, hf4⟩ := hown1.form; rw [List.length_append, hl1] at *; have hs1 := N1.out.only.size; clear hown1 hg1 ha1 hf1 hf2 hf3 hf4) | (at_builtin; refine wpList_appV _ (by rfl) (.tmp 39) (.tmp 41) (by rfl) (by rfl) (N1.out.out.alloc _) w1.heap.size _ (by rfl) (Bk.made _ _ _) (by rfl) (by simp; omega) hkl ?_; intro v2 w2 hown2 hg2 _; have N2 := Lib.hid (N1.out.cut hown2 hg2 HFULL.out HLE.out); clear hown2 hg2))
          go_roundw
          case rel => exact ⟨k + 1, i + 1, us ++ [_], by go_num, hlt, by rw [HE1.out]; have := HK.out; have := HF2.out; omega, fun h => by have := HF2.out; omega, fun h => by rw [HE1.out]; have := HLE.out; omega, N2.out⟩
          case measure => simp [intOf]; omega
        · have g2 : ((i : Int) == (l.length : Int) - 1) = false := by simp; omega
          have HF1 := Lib.hid hf1
          have HF2 := Lib.hid hf2
          have HCI := Lib.hid hci
          have HE1 := Lib.hid e1
          have HE2 := Lib.hid e2
          clear hf1 hf2 hci e1 e2
          go_wp2_with (at_builtin; refine wpList_app _ (by rfl) (.tmp 21) (.tmp 26) (by rfl) (by rfl) (HO.out.alloc _) (some ⟨wr.heap.size, 0, none⟩) [x] 1 1 (by rfl) rfl (Rd.of_bk (Bk.made wr 3 (ics [x]))) (by simp; omega) (by rw [hl1]; simp; omega) ?_; intro v' w1 hown1 hg1 ha1; have N1 := Lib.hid (PU.out v' w1 _ hown1 hg1 ha1); obtain ⟨A1, cap1, rfl, hf1, hf2, hf3, hf4⟩ := hown1.form; rw [List.length_append, hl1] at *; have hs1 := N1.out.only.size; clear hown1 hg1 ha1 hf1 hf2 hf3 hf4)
          go_roundw
          case rel => exact ⟨k, i + 1, us, by go_num, hlt, HK.out, fun h => by have := HF1.out; have := HCI.out; have := HLE.out; omega, fun h => absurd h HF2.out, N1.out⟩
          case measure => simp [intOf]; omega
    · obtain rfl : i = l.length := by omega
      obtain ⟨P, cp, rfl, _, _, _⟩ := r.out.form
      have hlen := r.len
      subst hlen
      have HC := Lib.hid (show RCuts w room l (.returned (.tuple #[.slice P us.length cp, .int .i64 0])) wr from ⟨us, P, cp, rfl, hk, hend rfl, r.out, fun j u hu => (r.each j u hu).1, r.only⟩)
      clear hin hend r hk
      go_wp2
      go_ret2
      exact HC.out

end Go.Proofs.Yteebkgclopffbaa
