/- Check of any term, by the program and by the document. The document's Same: of two values that are the same tree. -/
import Derived.Test.YtlpafnibcmcjgaaGreatDoorMe
import Derived.Test.YtlpafnibcmcjgaaGreatDoorTail
namespace Go.Proofs.YtlpafnibcmcjgaaGreatDoor
open Go.RowKit

theorem ThrOk.use0 {t : T} (h : ThrOk t) {sl : Value} {F : Nat → Prop} {r : Int} {b : Nat} {w : World} (h1 : TV w F t sl) (h2 : ¬ F b) (h3 : Bk w b 119 #[.int .i64 0, .int .i64 0]) (hr : (thr t 0 0).2 = r) :
    Calls Tryz.prog 69 #[.pointer (some ⟨b, 0, none⟩), .agg #[.int .i64 t.k, .int .i64 t.n, .complex .f64 t.x t.y, .string t.S, .int .i64 t.a, .int .i64 t.b, sl], .int .i64 0] w fun e w' => e = .returned (.int .i64 r) ∧ Only [b] w w' :=
  (h.use (met := 0) (deep := 0) (d := 0) (D := 0) h1 h2 h3 (by omega) (by omega) rfl hr).mono fun _ _ ⟨he, ho, _⟩ => ⟨he, ho⟩
theorem check_any (t : T) (hg : t.Good) (sl : Value) (F : Nat → Prop) (w : World) (h : TV w F t sl) (hF : ∀ b, F b → b < w.heap.size) :
    Calls Tryz.prog 42 #[.agg (tcs t.k t.n t.x t.y t.S t.a t.b sl)] w fun e w' => e = .returned (.int .i64 (chk t)) ∧ Only [] w w' := by
  have HT := Lib.hid (through_any t hg)
  have HV := Lib.hid h
  obtain ⟨r, hr⟩ : ∃ r, chk t = r := ⟨_, rfl⟩
  have HR := Lib.hid (show (thr t 0 0).2 = r from hr)
  rw [hr]
  clear h hr
  go_enter Tryz.func42, Tryz.ntmps42
  go_wp2_with fail
  (with_reducible refine (HT.out.use0 (b := w.heap.size + 1) (HV.out.same (((Only.refl [] w).alloc _).alloc _)) (fun hf => ?_) (Bk.madeAt (by simp)) HR.out).mono ?_)
  · have := hF _ hf
    omega
  rintro e w1 ⟨rfl, o1⟩
  have O1 := Lib.hid ((((Only.refl [] w).alloc (.cells (tcs t.k t.n t.x t.y t.S t.a t.b sl) 27)).alloc (.cells #[.int .i64 0, .int .i64 0] 119)).trans o1 (by simp))
  clear o1
  go_wp2_with fail
  go_ret
  exact ⟨rfl, O1.out⟩
/-- What the document's walk does with a term. -/
def WalkOk (t : T) : Prop := ∀ (sl : Value) (F : Nat → Prop) (met deep : Nat) (w : World), TV w F t sl → met ≤ 1024 → deep ≤ 64 →
  Calls Tryz.prog 50 #[.agg (tcs t.k t.n t.x t.y t.S t.a t.b sl), .int .i64 met, .int .i64 deep] w fun e w' => e = .returned (.tuple #[.int .i64 (thr t met deep).1, .int .i64 (thr t met deep).2]) ∧ Only [] w w'
theorem WalkOk.use {t : T} (h : WalkOk t) {sl : Value} {F : Nat → Prop} {met deep m' : Nat} {D r : Int} {w : World} (h1 : TV w F t sl) (h4 : met ≤ 1024) (h5 : deep ≤ 64) (hD : D = (deep : Int)) (hm : (thr t met deep).1 = m') (hr : (thr t met deep).2 = r) :
    Calls Tryz.prog 50 #[.agg #[.int .i64 t.k, .int .i64 t.n, .complex .f64 t.x t.y, .string t.S, .int .i64 t.a, .int .i64 t.b, sl], .int .i64 met, .int .i64 D] w fun e w' => e = .returned (.tuple #[.int .i64 m', .int .i64 r]) ∧ Only [] w w' := by
  subst hD hr hm
  exact h sl F met deep w h1 h4 h5
theorem ret2 {a b c d : Int} (h : a = c) (h' : b = d) : Ending.returned (.tuple #[.int .i64 a, .int .i64 b]) = .returned (.tuple #[.int .i64 c, .int .i64 d]) := by rw [h, h']
set_option maxHeartbeats 4000000 in
theorem walk_full (t : T) (sl : Value) (met deep : Nat) (w : World) (hm : met ≤ 1024) (hd : deep ≤ 64) (hc : 1024 ≤ met ∨ 64 ≤ deep) :
    Calls Tryz.prog 50 #[.agg (tcs t.k t.n t.x t.y t.S t.a t.b sl), .int .i64 met, .int .i64 deep] w fun e w' => e = .returned (.tuple #[.int .i64 met, .int .i64 34]) ∧ Only [] w w' := by
  by_cases h1 : 1024 ≤ met
  · have h1' : (1024 : Int) ≤ (met : Int) := by omega
    clear hc
    go_enter Tryz.func50, Tryz.ntmps50
    go_wp2_with fail
    go_ret2
    exact ⟨rfl, (Only.refl _ _).alloc _⟩
  · have h2 : (64 : Int) ≤ (deep : Int) := by omega
    have h1' : decide ((1024 : Int) ≤ (met : Int)) = false := decide_eq_false (by omega)
    clear hc h1
    go_enter Tryz.func50, Tryz.ntmps50
    go_wp2_with fail
    go_ret2
    exact ⟨rfl, (Only.refl _ _).alloc _⟩
set_option maxHeartbeats 4000000 in
theorem walk_no (t : T) (hg : t.Good) (sl : Value) (F : Nat → Prop) (met deep : Nat) (w : World) (ht : TV w F t sl) (hc : ¬ (1024 ≤ met ∨ 64 ≤ deep)) (hr : okT t = false) :
    Calls Tryz.prog 50 #[.agg (tcs t.k t.n t.x t.y t.S t.a t.b sl), .int .i64 met, .int .i64 deep] w fun e w' => e = .returned (.tuple #[.int .i64 met, .int .i64 30]) ∧ Only [] w w' := by
  have HM := Lib.hid (fun w h => one_any t hg sl F w h)
  have HT := Lib.hid ht
  have HR := Lib.hid hr
  have h1 : decide ((1024 : Int) ≤ (met : Int)) = false := decide_eq_false (by omega)
  have h2 : decide ((64 : Int) ≤ (deep : Int)) = false := decide_eq_false (by omega)
  clear ht hr hc
  go_enter Tryz.func50, Tryz.ntmps50
  go_wp2_with fail
  (with_reducible refine (HM.out _ (HT.out.same ((Only.refl [] w).alloc _))).mono ?_)
  rw [HR.out]
  rintro e w1 ⟨rfl, o1⟩
  have O1 := Lib.hid (((Only.refl [] w).alloc (.cells (tcs t.k t.n t.x t.y t.S t.a t.b sl) 27)).trans o1 (by simp))
  clear o1
  go_wp2_with fail
  go_ret2
  exact ⟨rfl, O1.out⟩
set_option maxHeartbeats 4000000 in
theorem walk_leaf (t : T) (hg : t.Good) (F : Nat → Prop) (met deep : Nat) (w : World) (ht : TV w F t (.slice none 0 0)) (hc : ¬ (1024 ≤ met ∨ 64 ≤ deep)) (hr : okT t = true) :
    Calls Tryz.prog 50 #[.agg (tcs t.k t.n t.x t.y t.S t.a t.b (.slice none 0 0)), .int .i64 met, .int .i64 deep] w fun e w' => e = .returned (.tuple #[.int .i64 (met + 1 : Nat), .int .i64 0]) ∧ Only [] w w' := by
  have HM := Lib.hid (fun w h => one_any t hg (.slice none 0 0) F w h)
  have HT := Lib.hid ht
  have HR := Lib.hid hr
  have h1 : decide ((1024 : Int) ≤ (met : Int)) = false := decide_eq_false (by omega)
  have h2 : decide ((64 : Int) ≤ (deep : Int)) = false := decide_eq_false (by omega)
  have hm : met < 1024 := by omega
  clear ht hr hc
  go_enter Tryz.func50, Tryz.ntmps50
  go_wp2_with fail
  (with_reducible refine (HM.out _ (HT.out.same ((Only.refl [] w).alloc _))).mono ?_)
  rw [HR.out]
  rintro e w1 ⟨rfl, o1⟩
  have O1 := Lib.hid (((Only.refl [] w).alloc (.cells (tcs t.k t.n t.x t.y t.S t.a t.b (.slice none 0 0)) 27)).trans o1 (by simp))
  have BT := Lib.hid ((Bk.made w 27 (tcs t.k t.n t.x t.y t.S t.a t.b (.slice none 0 0))).only o1 (by simp))
  have c6 : w1.cell? ⟨w.heap.size, 6, none⟩ = some (.slice none 0 0) := BT.out.cell0 (by rfl)
  clear o1
  go_wp2_with fail
  refine wp_loop_rounds 1 ?_
  rw [rounds_succ]
  go_wp2_with fail
  go_ret2
  exact ⟨ret2 (by omega) rfl, O1.out⟩
set_option maxHeartbeats 8000000 in
theorem walk_tup (k : Int) (l : List T) (hg : (T.tup k l).Good) (ih : ∀ u ∈ l, WalkOk u) : WalkOk (.tup k l) := by
  intro sl F met deep w ht hm hd
  rw [thr_tup]
  by_cases hc : 1024 ≤ met ∨ 64 ≤ deep
  · rw [if_pos hc]
    exact walk_full (.tup k l) sl met deep w hm hd hc
  · rw [if_neg hc]
    have HM := Lib.hid (fun w h => one_any (.tup k l) hg sl F w h)
    have HT := Lib.hid ht
    have IH := Lib.hid ih
    simp only [TV] at ht
    obtain ⟨A, cap, rfl, hlc, hcap, hrows⟩ := ht
    have HR := Lib.hid hrows
    have h1 : decide ((1024 : Int) ≤ (met : Int)) = false := decide_eq_false (by omega)
    have h2 : decide ((64 : Int) ≤ (deep : Int)) = false := decide_eq_false (by omega)
    have hm1 : met < 1024 := by omega
    have hd1 : deep < 64 := by omega
    clear hc ih hg hrows hm hd
    go_enter Tryz.func50, Tryz.ntmps50
    go_wp2_with fail
    (with_reducible refine (HM.out _ (HT.out.same ((Only.refl [] w).alloc _))).mono ?_)
    rintro e w1 ⟨he, o1⟩
    rw [show okT (.tup k l) = true from rfl] at he
    subst he
    have O1 := Lib.hid (((Only.refl [] w).alloc (.cells (tcs k 0 0 0 ⟨#[]⟩ 0 0 (.slice A l.length cap)) 27)).trans o1 (by simp))
    have BT := Lib.hid ((Bk.made w 27 (tcs k 0 0 0 ⟨#[]⟩ 0 0 (.slice A l.length cap))).only o1 (by simp))
    clear o1
    go_wp2_with fail
    go_loopw [1, 8] (fun mv i wr => ∃ (j m : Nat), mv = .int .i64 m ∧ i = .int .i64 j ∧ j ≤ l.length ∧ m ≤ 1024 ∧ thrs (l.drop j) m (deep + 1) = thrs l (met + 1) (deep + 1) ∧ Bk wr w.heap.size 27 (tcs k 0 0 0 ⟨#[]⟩ 0 0 (.slice A l.length cap)) ∧ Only [] w wr) (fun _ i _ => l.length - (intOf i).toNat)
    case atStart =>
      exact ⟨0, met + 1, by go_num, rfl, Nat.zero_le _, hm1, rfl, BT.out, O1.out⟩
    case round =>
      obtain ⟨j, m, rfl, rfl, hj, hm2, hth, hbt, hor⟩ := hrel
      have HBt := Lib.hid hbt
      have HOr := Lib.hid hor
      have HTh := Lib.hid hth
      have c6 : wr.cell? ⟨w.heap.size, 6, none⟩ = some (.slice A l.length cap) := hbt.cell0 (by rfl)
      clear hbt hor hth
      by_cases hjl : j < l.length
      · rcases HR.out with h0 | ⟨bl, off, rfl, hbl, hFb, hvs⟩
        · rw [h0] at hjl; simp at hjl
        · obtain ⟨sl', htv, hcs⟩ := (TVs.iff.1 hvs) j (l[j]'hjl) (List.getElem?_eq_getElem hjl)
          obtain ⟨A', n', c', rfl⟩ := htv.slice
          have hcs2 : ∀ q u, ((l[j]'hjl).cs (.slice A' n' c'))[q]? = some u → wr.cell? ⟨bl, off + j * 7 + q, none⟩ = some u := fun q u hu => (HOr.out.cell (p := ⟨bl, off + j * 7 + q, none⟩) hbl (by simp)).trans (by rw [Nat.mul_comm j 7]; exact hcs q u hu)
          obtain ⟨r0, r1, r2, r3, r4, r5, r6⟩ := cs_seven _ _ hcs2
          have HTV := Lib.hid (TV.same HOr.out htv)
          have HI := Lib.hid (IH.out _ (List.getElem_mem hjl))
          clear hcs hcs2 htv hvs
          have HD := Lib.hid (show l.drop j = l[j]'hjl :: l.drop (j + 1) from List.drop_eq_getElem_cons hjl)
          generalize l[j]'hjl = u at HD HI HTV r0 r1 r2 r3 r4 r5 r6
          have hth2 := HTh.out
          rw [HD.out, thrs_cons] at hth2
          have HTh2 := Lib.hid hth2
          have H3 := Lib.hid (thr_met u m (deep + 1))
          clear hth2
          obtain ⟨r, hr⟩ : ∃ r, (thr u m (deep + 1)).2 = r := ⟨_, rfl⟩
          obtain ⟨m', hm'⟩ : ∃ m', (thr u m (deep + 1)).1 = m' := ⟨_, rfl⟩
          have HRr := Lib.hid hr
          have HRm := Lib.hid hm'
          clear hr hm'
          go_wp2_with fail
          (with_reducible refine (HI.out.use (deep := deep + 1) (D := (deep : Int) + 1) HTV.out hm2 (by omega) (by omega) HRm.out HRr.out).mono ?_)
          rintro e w2 ⟨rfl, o2⟩
          have HO2 := Lib.hid (HOr.out.trans o2 (by simp))
          have HB2 := Lib.hid (HBt.out.only o2 (by simp))
          clear o2
          by_cases hz : r = 0
          · subst hz
            have H3' := H3.out HRr.out
            rw [HRm.out] at H3'
            have H4 := Lib.hid (show thrs (l.drop (j + 1)) m' (deep + 1) = thrs l (met + 1) (deep + 1) by rw [← HTh2.out, if_pos HRr.out, HRm.out])
            go_wp2_with fail
            go_roundw
            case rel => exact ⟨j + 1, m', rfl, by go_num, by omega, H3', H4.out, HB2.out, HO2.out⟩
            case measure => simp [intOf]; omega
          · have hne : (r != 0) = true := by simpa using hz
            have H4 := Lib.hid (show thrs l (met + 1) (deep + 1) = thr u m (deep + 1) by rw [← HTh2.out, if_neg (by rw [HRr.out]; exact hz)])
            clear hz
            go_wp2_with fail
            go_ret2
            exact ⟨ret2 (by rw [H4.out, HRm.out]) (by rw [H4.out, HRr.out]), HO2.out⟩
      · have hje : j = l.length := by omega
        subst hje
        have H4 := Lib.hid (show thrs l (met + 1) (deep + 1) = (m, 0) by rw [← HTh.out, List.drop_length, thrs_nil])
        clear hj
        go_wp2_with fail
        go_ret2
        exact ⟨ret2 (by rw [H4.out]) (by rw [H4.out]), HOr.out⟩
theorem walk_any (t : T) (hg : t.Good) : WalkOk t := by
  revert hg
  refine T.ind (P := fun t => t.Good → WalkOk t) (fun t ht hg => ?_) (fun k l ih hg => ?_) t
  · intro sl F met deep w htv hm hd
    rw [thr_leaf ht hg]
    by_cases hc : 1024 ≤ met ∨ 64 ≤ deep
    · rw [if_pos hc]
      exact walk_full t sl met deep w hm hd hc
    · rw [if_neg hc]
      obtain rfl := (TV.leaf ht).1 htv
      by_cases hr : okT t = true
      · rw [if_pos hr]
        exact walk_leaf t hg F met deep w htv hc hr
      · rw [if_neg hr]
        exact walk_no t hg _ F met deep w htv hc (by simpa using hr)
  · exact walk_tup k l hg (fun u hu => ih u hu (Goods.iff.1 hg.2 u hu))
theorem WalkOk.use0 {t : T} (h : WalkOk t) {sl : Value} {F : Nat → Prop} {m' : Nat} {r : Int} {w : World} (h1 : TV w F t sl) (hm : (thr t 0 0).1 = m') (hr : (thr t 0 0).2 = r) :
    Calls Tryz.prog 50 #[.agg #[.int .i64 t.k, .int .i64 t.n, .complex .f64 t.x t.y, .string t.S, .int .i64 t.a, .int .i64 t.b, sl], .int .i64 0, .int .i64 0] w fun e w' => e = .returned (.tuple #[.int .i64 m', .int .i64 r]) ∧ Only [] w w' :=
  h.use (met := 0) (deep := 0) (D := 0) h1 (by omega) (by omega) rfl hm hr
theorem rcheck_any (t : T) (hg : t.Good) (sl : Value) (F : Nat → Prop) (w : World) (h : TV w F t sl) :
    Calls Tryz.prog 21 #[.agg (tcs t.k t.n t.x t.y t.S t.a t.b sl)] w fun e w' => e = .returned (.int .i64 (chk t)) ∧ Only [] w w' := by
  have HT := Lib.hid (walk_any t hg)
  have HV := Lib.hid h
  obtain ⟨r, hr⟩ : ∃ r, chk t = r := ⟨_, rfl⟩
  obtain ⟨m, hm⟩ : ∃ m, (thr t 0 0).1 = m := ⟨_, rfl⟩
  have HR := Lib.hid (show (thr t 0 0).2 = r from hr)
  have HM := Lib.hid hm
  rw [hr]
  clear h hr hm
  go_enter Tryz.func21, Tryz.ntmps21
  go_wp2_with fail
  (with_reducible refine (HT.out.use0 (HV.out.same ((Only.refl [] w).alloc _)) HM.out HR.out).mono ?_)
  rintro e w1 ⟨rfl, o1⟩
  have O1 := Lib.hid (((Only.refl [] w).alloc (.cells (tcs t.k t.n t.x t.y t.S t.a t.b sl) 27)).trans o1 (by simp))
  clear o1
  go_wp2_with fail
  go_ret
  exact ⟨rfl, O1.out⟩
end Go.Proofs.YtlpafnibcmcjgaaGreatDoor

namespace Go.Proofs.YtlpafnibcmcjgaaGreatDoor
open Go.RowKit

theorem TV.zero {w : World} {F : Nat → Prop} {sl : Value} (h : TV w F .zero sl) : sl = .slice none 0 0 := (TV.leaf (by simp)).1 h
/-- A term, or the zero value. -/
def T.Fine (t : T) : Prop := t.Good ∨ t = .zero
theorem num_x {t : T} (h : t.Fine) : FloatKind.f64.format.order t.x t.x = some .eq ∧ FloatKind.f64.format.order t.y t.y = some .eq := by
  rcases h with h | rfl
  · cases t with
    | com a b => exact ⟨part_me h.1, part_me h.2⟩
    | _ => exact ⟨z64, z64⟩
  · exact ⟨z64, z64⟩
def SameOk (t : T) : Prop := ∀ (sl sl' : Value) (F F' : Nat → Prop) (w : World), TV w F t sl → TV w F' t sl' →
  Calls Tryz.prog 8 #[.agg (tcs t.k t.n t.x t.y t.S t.a t.b sl), .agg (tcs t.k t.n t.x t.y t.S t.a t.b sl')] w fun e w' => e = .returned (.bool true) ∧ Only [] w w'
theorem SameOk.use {t : T} (h : SameOk t) {sl sl' : Value} {F F' : Nat → Prop} {w : World} (h1 : TV w F t sl) (h2 : TV w F' t sl') :
    Calls Tryz.prog 8 #[.agg #[.int .i64 t.k, .int .i64 t.n, .complex .f64 t.x t.y, .string t.S, .int .i64 t.a, .int .i64 t.b, sl], .agg #[.int .i64 t.k, .int .i64 t.n, .complex .f64 t.x t.y, .string t.S, .int .i64 t.a, .int .i64 t.b, sl']] w fun e w' => e = .returned (.bool true) ∧ Only [] w w' := h sl sl' F F' w h1 h2
set_option maxHeartbeats 4000000 in
theorem same_leaf (k n : Int) (x y : Nat) (S : ByteArray) (a b : Int) (hx : FloatKind.f64.format.order x x = some .eq) (hy : FloatKind.f64.format.order y y = some .eq) (w : World) :
    Calls Tryz.prog 8 #[.agg (tcs k n x y S a b (.slice none 0 0)), .agg (tcs k n x y S a b (.slice none 0 0))] w fun e w' => e = .returned (.bool true) ∧ Only [] w w' := by
  have e1 := fun w => eqPid a b a b w
  simp only [beq_self_eq_true, Bool.and_self] at e1
  go_enter Tryz.func8, Tryz.ntmps8
  go_wp2_with fail
  refine wp_loop_rounds 1 ?_
  rw [rounds_succ]
  go_wp2_with fail
  go_ret
  exact ⟨rfl, ((Only.refl _ _).alloc _).alloc _⟩
set_option maxHeartbeats 8000000 in
theorem same_tup (k : Int) (l : List T) (ih : ∀ u ∈ l, SameOk u) : SameOk (.tup k l) := by
  intro sl sl' F F' w ht ht'
  have IH := Lib.hid ih
  simp only [TV] at ht ht'
  obtain ⟨A, cap, rfl, hlc, hcap, hrows⟩ := ht
  obtain ⟨A', cap', rfl, hlc', hcap', hrows'⟩ := ht'
  have HR := Lib.hid hrows
  have HR' := Lib.hid hrows'
  have e1 := fun w => eqPid 0 0 0 0 w
  simp only [beq_self_eq_true, Bool.and_self] at e1
  have z0 := z64
  clear ih hrows hrows'
  have B1 := Lib.hid ((Bk.made w 27 (tcs k 0 0 0 ⟨#[]⟩ 0 0 (.slice A l.length cap))).alloc (.cells (tcs k 0 0 0 ⟨#[]⟩ 0 0 (.slice A' l.length cap')) 27))
  have B2 := Lib.hid (Bk.madeAt (w := w.alloc (.cells (tcs k 0 0 0 ⟨#[]⟩ 0 0 (.slice A l.length cap)) 27)) (t := 27) (cs := tcs k 0 0 0 ⟨#[]⟩ 0 0 (.slice A' l.length cap')) (b := w.heap.size + 1) (by simp))
  have O0 := Lib.hid (((Only.refl [] w).alloc (.cells (tcs k 0 0 0 ⟨#[]⟩ 0 0 (.slice A l.length cap)) 27)).alloc (.cells (tcs k 0 0 0 ⟨#[]⟩ 0 0 (.slice A' l.length cap')) 27))
  change Calls Tryz.prog 8 #[.agg (tcs k 0 0 0 ⟨#[]⟩ 0 0 (.slice A l.length cap)), .agg (tcs k 0 0 0 ⟨#[]⟩ 0 0 (.slice A' l.length cap'))] w fun e w' => e = .returned (.bool true) ∧ Only [] w w'
  go_enter Tryz.func8, Tryz.ntmps8
  go_wp2_with fail
  go_loopw [5] (fun i wr => ∃ (j : Nat), i = .int .i64 j ∧ j ≤ l.length ∧ Bk wr w.heap.size 27 (tcs k 0 0 0 ⟨#[]⟩ 0 0 (.slice A l.length cap)) ∧ Bk wr (w.heap.size + 1) 27 (tcs k 0 0 0 ⟨#[]⟩ 0 0 (.slice A' l.length cap')) ∧ Only [] w wr) (fun i _ => l.length - (intOf i).toNat)
  case atStart => exact ⟨0, rfl, Nat.zero_le _, B1.out, B2.out, O0.out⟩
  case round =>
    obtain ⟨j, rfl, hj, hb1, hb2, hor⟩ := hrel
    have HB1 := Lib.hid hb1
    have HB2 := Lib.hid hb2
    have HOr := Lib.hid hor
    have c6 : wr.cell? ⟨w.heap.size, 6, none⟩ = some (.slice A l.length cap) := hb1.cell0 (by rfl)
    have d6 : wr.cell? ⟨w.heap.size + 1, 6, none⟩ = some (.slice A' l.length cap') := hb2.cell0 (by rfl)
    clear hb1 hb2 hor
    by_cases hjl : j < l.length
    · rcases HR.out with h0 | ⟨bl, off, rfl, hbl, _, hvs⟩
      · rw [h0] at hjl; simp at hjl
      rcases HR'.out with h0 | ⟨bl', off', rfl, hbl', _, hvs'⟩
      · rw [h0] at hjl; simp at hjl
      obtain ⟨sl, htv, hcs⟩ := (TVs.iff.1 hvs) j (l[j]'hjl) (List.getElem?_eq_getElem hjl)
      obtain ⟨sl', htv', hcs'⟩ := (TVs.iff.1 hvs') j (l[j]'hjl) (List.getElem?_eq_getElem hjl)
      obtain ⟨Ac, nc, cc, rfl⟩ := htv.slice
      obtain ⟨Ac', nc', cc', rfl⟩ := htv'.slice
      have hcs2 : ∀ q u, ((l[j]'hjl).cs (.slice Ac nc cc))[q]? = some u → wr.cell? ⟨bl, off + j * 7 + q, none⟩ = some u := fun q u hu => (HOr.out.cell (p := ⟨bl, off + j * 7 + q, none⟩) hbl (by simp)).trans (by rw [Nat.mul_comm j 7]; exact hcs q u hu)
      have hcs2' : ∀ q u, ((l[j]'hjl).cs (.slice Ac' nc' cc'))[q]? = some u → wr.cell? ⟨bl', off' + j * 7 + q, none⟩ = some u := fun q u hu => (HOr.out.cell (p := ⟨bl', off' + j * 7 + q, none⟩) hbl' (by simp)).trans (by rw [Nat.mul_comm j 7]; exact hcs' q u hu)
      obtain ⟨r0, r1, r2, r3, r4, r5, r6⟩ := cs_seven _ _ hcs2
      obtain ⟨s0, s1, s2, s3, s4, s5, s6⟩ := cs_seven _ _ hcs2'
      have HTV := Lib.hid (TV.same HOr.out htv)
      have HTV' := Lib.hid (TV.same HOr.out htv')
      have HI := Lib.hid (IH.out _ (List.getElem_mem hjl))
      clear hcs hcs2 htv hvs hcs' hcs2' htv' hvs'
      generalize l[j]'hjl = u at HI HTV HTV' r0 r1 r2 r3 r4 r5 r6 s0 s1 s2 s3 s4 s5 s6
      go_wp2_with fail
      refine wp_region_quiet_then 10 (by kernel_rfl) (by kernel_rfl) ?_
      simp only [List.take_succ_cons, List.take_zero, List.drop_succ_cons, List.drop_zero]
      repeat (go_big_quiet_step (fail))
      refine wpQuiet_nil ?_
      intro q
      go_wp2_with fail
      (with_reducible refine (HI.out.use (HTV.out.same ((Only.refl [] wr).drewN q)) (HTV'.out.same ((Only.refl [] wr).drewN q))).mono ?_)
      rintro e w2 ⟨rfl, o2⟩
      have o3 := o2.undrew
      have HO2 := Lib.hid (HOr.out.trans o3 (by simp))
      have HB1' := Lib.hid (HB1.out.only o3 (by simp))
      have HB2' := Lib.hid (HB2.out.only o3 (by simp))
      clear o2 o3
      go_wp2_with fail
      go_roundw
      case rel => exact ⟨j + 1, by go_num, by omega, HB1'.out, HB2'.out, HO2.out⟩
      case measure => simp [intOf]; omega
    · have hje : j = l.length := by omega
      subst hje
      clear hj
      go_wp2_with fail
      go_ret
      exact ⟨rfl, HOr.out⟩
theorem same_any (t : T) (hg : t.Fine) : SameOk t := by
  revert hg
  refine T.ind (P := fun t => t.Fine → SameOk t) (fun t ht hg => ?_) (fun k l ih hg => ?_) t
  · intro sl sl' F F' w h h'
    obtain rfl := (TV.leaf ht).1 h
    obtain rfl := (TV.leaf ht).1 h'
    obtain ⟨h1, h2⟩ := num_x hg
    exact same_leaf _ _ _ _ _ _ _ h1 h2 w
  · refine same_tup k l (fun u hu => ih u hu (.inl ?_))
    rcases hg with hg | hg
    · exact Goods.iff.1 hg.2 u hu
    · cases hg
end Go.Proofs.YtlpafnibcmcjgaaGreatDoor
