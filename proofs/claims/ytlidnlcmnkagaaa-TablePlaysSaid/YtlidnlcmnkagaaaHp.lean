/- The document's helpers: Alike, Lent, Kept. -/
import Derived.Test.YtlidnlcmnkagaaaG2
import Derived.Test.YtlidnlcmnkagaaaTail
namespace Go.Proofs.Ytlidnlcmnkagaaa
open Go.RowKit
set_option maxRecDepth 20000

def SameRel (w : World) (xs ys : List Int) (v : Value) (wr : World) : Prop := ∃ k q : Nat, v = .int .i64 k ∧ k ≤ xs.length ∧ (∀ j, j < k → xs.getD j 0 = ys.getD j 0) ∧ wr = w.drewN q
theorem SameRel.step {w : World} {xs ys : List Int} {k q : Nat} (hk : k < xs.length) (h : ∀ j, j < k → xs.getD j 0 = ys.getD j 0) (e : xs.getD k 0 = ys.getD k 0) : SameRel w xs ys (.int .i64 ((k : Int) + 1)) (w.drewN q) :=
  ⟨k + 1, q, by go_num, by omega, fun j hj => by
    by_cases hjk : j = k
    · subst hjk; exact e
    · exact h j (by omega), rfl⟩

set_option maxHeartbeats 1000000 in
theorem alike_any {w : World} (A B : Option Addr) (xs ys : List Int) (ca cb : Nat) (ha : Rd w A xs) (hb : Rd w B ys) (h1 : xs.length ≤ 9223372036854775807) (h2 : ys.length ≤ 9223372036854775807) :
    Calls Try.prog 31 #[.slice A xs.length ca, .slice B ys.length cb] w fun e w' => e = .returned (.bool (decide (xs = ys))) ∧ Only [] w w' := by
  by_cases hlen : xs.length = ys.length
  · have e1 : (((xs.length : Int)) != (ys.length : Int)) = false := by simp; omega
    have HA := Lib.hid ha
    have HB := Lib.hid hb
    have HL := Lib.hid hlen
    clear ha hb hlen
    go_enter Try.func31, Try.ntmps31
    go_wp2_with fail
    go_loopw [5] (fun v wr => SameRel w xs ys v wr) (fun v _ => xs.length - (intOf v).toNat)
    case atStart => exact ⟨0, 0, rfl, Nat.zero_le _, fun j hj => absurd hj (Nat.not_lt_zero j), rfl⟩
    case round =>
      obtain ⟨k, q, rfl, hk, hall, rfl⟩ := hrel
      by_cases hlt : k < xs.length
      · have hk2 : k < ys.length := by rw [← HL.out]; exact hlt
        obtain ⟨b1, o1, rfl, f1⟩ := HA.out.form (by omega)
        obtain ⟨b2, o2, rfl, f2⟩ := HB.out.form (by omega)
        have g1 := f1 k hlt
        have g2 := f2 k hk2
        have HX := Lib.hid hall
        clear f1 f2 hall
        by_cases hv : xs.getD k 0 = ys.getD k 0
        · have hb1 : (xs.getD k 0 != ys.getD k 0) = false := by rw [hv, bne_self_eq_false]
          have HN := Lib.hid (fun q' => SameRel.step (w := w) (q := q') hlt HX.out hv)
          clear hv HX
          generalize xs.getD k 0 = x at *
          generalize ys.getD k 0 = y at *
          go_wp2_with fail
          go_quiet (fail)
          go_wp2
          go_roundw
          case rel => exact HN.out _
          case measure => simp [intOf]; omega
        · have hb1 : (xs.getD k 0 != ys.getD k 0) = true := by simpa using hv
          have hne : ¬ xs = ys := fun e => hv (by rw [e])
          have HE := Lib.hid (decide_eq_false hne)
          clear hv hne HX
          generalize xs.getD k 0 = x at *
          generalize ys.getD k 0 = y at *
          go_wp2_with fail
          go_quiet (fail)
          go_wp2
          go_ret
          exact ⟨by rw [HE.out]; rfl, ((Only.refl _ _).drewN _).drewN _⟩
      · have he : xs = ys := same_of HL.out (fun j hj => hall j (by omega))
        have HE := Lib.hid (decide_eq_true he)
        clear he hall
        go_wp2
        go_ret
        exact ⟨by rw [HE.out]; rfl, (Only.refl _ _).drewN _⟩
  · have hne : ¬ xs = ys := fun e => hlen (by rw [e])
    have e1 : (((xs.length : Int)) != (ys.length : Int)) = true := by simp; omega
    rw [decide_eq_false hne]
    clear ha hb hne
    go_enter Try.func31, Try.ntmps31
    go_wp2
    go_ret
    exact ⟨rfl, Only.refl _ _⟩

/-- The marks behind what is lent. -/
def lents (k : Nat) : List Int := (List.range k).map fun (i : Nat) => -770000 - (i : Int)
theorem lents_succ (k : Nat) : lents (k + 1) = lents k ++ [-770000 - (k : Int)] := by simp [lents, List.range_succ]
theorem lents_len (k : Nat) : (lents k).length = k := by simp [lents]
theorem lents_at {k i : Nat} (h : i < k) : (lents k).getD i 0 = -770000 - (i : Int) := by simp [lents, List.getD, h]

def LRel (w : World) (l : List Int) (g : Nat) (v3 v : Value) (wr : World) : Prop :=
  ∃ k : Nat, v = .int .i64 k ∧ v3 = .slice (some ⟨g, 0, none⟩) (l.length + k) (l.length + 70) ∧ k ≤ 70 ∧ OwnF wr g (l.length + 70) (l ++ lents k) ∧ Only [] w wr ∧ w.heap.size ≤ g

set_option maxHeartbeats 1000000 in
theorem lent_any {w : World} (A : Option Addr) (l : List Int) (cap : Nat) (ha : Rd w A l) (hlen : l.length + 70 ≤ 17592186044416) :
    Calls Try.prog 10 #[.slice A l.length cap] w fun e w' => e = .returned (.slice (some ⟨w.heap.size, 0, none⟩) l.length (l.length + 70)) ∧ Bk w' w.heap.size 3 (ics (l ++ lents 70)) ∧ Only [] w w' := by
  have HA := Lib.hid ha
  clear ha
  go_enter Try.func10, Try.ntmps10
  go_wp2_with (first
    | (refine wpList_makeF _ (by rfl) (.const (.int .i64 0)) (.tmp 7) (by rfl) (l.length + 70) _ (by rfl) (by rfl) (by omega) hlen ?_; intro w1 own1 o1; have OWN1 := Lib.hid own1; have O1 := Lib.hid o1; clear own1 o1)
    | (at_builtin; refine wpList_appF _ (by rfl) (.tmp 9) (.tmp 10) (by rfl) (by rfl) (by rfl) OWN1.out A l l.length cap (by rfl) rfl (HA.out.only O1.out (by simp)) (by simp) ?_; intro w2 own2 o2; have OWN2 := Lib.hid own2; have O2 := Lib.hid (O1.out.trans o2 (by simp)); clear own2 o2))
  go_loopw [3, 4] (fun v3 v wr => LRel w l w.heap.size v3 v wr) (fun _ v _ => 70 - (intOf v).toNat)
  case atStart => exact ⟨0, rfl, rfl, by omega, by simpa [lents] using OWN2.out, O2.out, Nat.le_refl _⟩
  case round =>
    clear OWN1 OWN2 O1 O2
    obtain ⟨k, rfl, rfl, hk, hown, ho, hg⟩ := hrel
    have hsz := ho.size
    by_cases hlt : k < 70
    · have HOWN := Lib.hid hown
      have HO := Lib.hid ho
      have hlen2 : (l ++ lents k).length = l.length + k := by rw [List.length_append, lents_len]
      have HLEN := Lib.hid hlen2
      obtain ⟨x, hx⟩ : ∃ x : Int, x = -770000 - (k : Int) := ⟨_, rfl⟩
      have HX := Lib.hid hx
      clear hown ho hlen2 hx
      go_wp2_with (at_builtin; refine wpList_appF _ (by rfl) (.tmp 16) (.tmp 19) (by rfl) (by rfl) HLEN.out.symm (HOWN.out.alloc _) (some ⟨wr.heap.size, 0, none⟩) [x] 1 1 (by rfl) rfl (by rw [HX.out]; exact Rd.of_bk (Bk.made wr 3 (ics [_]))) (by rw [HLEN.out]; simp; omega) ?_; intro w2 own2 o2; have OWN2 := Lib.hid own2; have O2 := Lib.hid ((HO.out.alloc _).trans o2 (by simp)); clear own2 o2)
      go_roundw
      case rel => exact ⟨k + 1, by go_num, rfl, by omega, by rw [lents_succ, ← List.append_assoc, ← HX.out]; exact OWN2.out, O2.out, hg⟩
      case measure => simp [intOf]; omega
    · obtain rfl : k = 70 := by omega
      have HB := Lib.hid (show Bk wr w.heap.size 3 (ics (l ++ lents 70)) from OwnF.bk (by rw [List.length_append, lents_len]; exact hown))
      have HO := Lib.hid ho
      have hs : ∀ W, (Instr.slice 26 (.slice (some ⟨w.heap.size, 0, none⟩) (l.length + 70) (l.length + 70)) none (some (.int .i64 l.length)) none).run Try.prog W = .ok (.slice (some ⟨w.heap.size, 0, none⟩) l.length (l.length + 70)) W := by
        intro W
        have := run_slice_h (P := Try.prog) (w := W) 26 (some ⟨w.heap.size, 0, none⟩) (l.length + 70) (l.length + 70) Try.underlying26 .i64 (l.length : Int) (by omega) (by omega)
        rw [this, show Try.prog.elem 26 = 3 from by kernel_rfl, int_size]
        simp [Result.andThen, sliced, Addr.add]
      clear hown ho
      go_wp2_with fail
      go_ret
      exact ⟨rfl, HB.out, HO.out⟩

theorem rd_front {w : World} {g : Nat} {l r : List Int} (h : Bk w g 3 (ics (l ++ r))) : Rd w (some ⟨g, 0, none⟩) l :=
  .inr ⟨g, 0, rfl, h.lt, fun k x hx => by
    rw [Nat.zero_add]
    refine h.cell0 (ics_at ?_)
    have hk : k < l.length := by
      apply Nat.lt_of_not_le
      intro hle
      rw [List.getElem?_eq_none hle] at hx
      cases hx
    rw [List.getElem?_append_left hk]
    exact hx⟩
def KRel (w : World) (v : Value) (wr : World) : Prop := ∃ k : Nat, v = .int .i64 k ∧ k ≤ 70 ∧ wr = w

set_option maxHeartbeats 1000000 in
theorem kept_any {w : World} (g : Nat) (A : Option Addr) (l : List Int) (cap : Nat) (ha : Rd w A l) (hb : Bk w g 3 (ics (l ++ lents 70))) (hlen : l.length + 70 ≤ 17592186044416) :
    Calls Try.prog 13 #[.slice (some ⟨g, 0, none⟩) l.length (l.length + 70), .slice A l.length cap] w fun e w' => e = .returned (.bool true) ∧ Only [] w w' := by
  have K := alike_any (some ⟨g, 0, none⟩) A l l (l.length + 70) cap (rd_front hb) ha (by omega) (by omega)
  rw [decide_eq_true rfl] at K
  have HK := Lib.hid K
  have HB := Lib.hid hb
  have hs : ∀ W, (Instr.slice 26 (.slice (some ⟨g, 0, none⟩) l.length (l.length + 70)) none (some (.int .i64 ((l.length : Int) + 70))) none).run Try.prog W = .ok (.slice (some ⟨g, 0, none⟩) (l.length + 70) (l.length + 70)) W := by
    intro W
    have := run_slice_h (P := Try.prog) (w := W) 26 (some ⟨g, 0, none⟩) l.length (l.length + 70) Try.underlying26 .i64 ((l.length : Int) + 70) (by omega) (by omega)
    rw [this, show Try.prog.elem 26 = 3 from by kernel_rfl, int_size]
    simp [Result.andThen, sliced, Addr.add]
    omega
  clear K ha hb
  go_enter Try.func13, Try.ntmps13
  go_wp2_with fail
  go_loopw [6] (fun v wr => KRel w v wr) (fun v _ => 70 - (intOf v).toNat)
  case atStart => exact ⟨0, rfl, by omega, rfl⟩
  case round =>
    obtain ⟨k, rfl, hk, rfl⟩ := hrel
    by_cases hlt : k < 70
    · obtain ⟨x, hx⟩ : ∃ x : Int, x = -770000 - (k : Int) := ⟨_, rfl⟩
      have hcell : wr.cell? ⟨g, l.length + k, none⟩ = some (.int .i64 x) := by
        refine HB.out.cell0 (ics_at ?_)
        rw [List.getElem?_append_right (by omega), Nat.add_sub_cancel_left, getElem?_getD (by rw [lents_len]; exact hlt), lents_at hlt, hx]
      have hne : (x != -770000 - (k : Int)) = false := by rw [hx]; exact bne_self_eq_false _
      clear hx
      go_wp2_with fail
      go_roundw
      case rel => exact ⟨k + 1, by go_num, by omega, rfl⟩
      case measure => simp [intOf]; omega
    · obtain rfl : k = 70 := by omega
      go_wp2_with fail
      (with_reducible refine HK.out.mono ?_)
      rintro e w1 ⟨rfl, o⟩
      go_wp2_with fail
      go_ret
      exact ⟨rfl, o⟩
end Go.Proofs.Ytlidnlcmnkagaaa
