/- How heights are found: find, with its goto. -/
import Derived.Test.YtgpgcjdneikokaaDoorN6
import Derived.WalkMore
import Derived.ScopeJumps
namespace Go.Proofs.YtgpgcjdneikokaaDoor
open Go.RowKit

/-- The least number of which something is true. -/
theorem least {p : Nat → Prop} : ∀ k, p k → ∃ j, p j ∧ ∀ i, i < j → ¬ p i := by
  intro k
  induction k using Nat.strongRecOn with
  | _ k ih =>
    intro hk
    by_cases h : ∃ i, i < k ∧ p i
    · obtain ⟨i, hi, hp⟩ := h
      exact ih i hi hp
    · exact ⟨k, hk, fun i hi hp => h ⟨i, hi, hp⟩⟩
open Classical in
/-- A scope with one label, to which the run comes back a bounded number of times. -/
theorem wp_scope_count {P : Program} {a : Act} {w : World} {Q : Exit → Act → World → Prop} {c rest : Code} (l : Nat) (J : Nat → Act → World → Prop) (hf : findLabel c l = some rest)
    (first : c.wp P (Exit.jump l (fun a w => ∃ k, J k a w) Q) a w)
    (pass : ∀ k a w, J k a w → rest.wp P (Exit.jump l (fun a' w' => ∃ k', k' < k ∧ J k' a' w') Q) a w) : (Code.scope c).wp P Q a w := by
  refine wp_scope_jumps l (fun a w => ∃ k, J k a w) (fun a w => if h : ∃ j, J j a w ∧ ∀ i, i < j → ¬ J i a w then Classical.choose h else 0) hf first ?_
  intro a w ⟨k, hk⟩
  have h : ∃ j, J j a w ∧ ∀ i, i < j → ¬ J i a w := least k hk
  obtain ⟨hj, hmin⟩ := Classical.choose_spec h
  refine Code.wp_mono ?_ (pass _ a w hj)
  intro e a' w' hq
  cases e with
  | goto l' =>
    obtain ⟨rfl, k', hlt, hk'⟩ := hq
    refine ⟨rfl, ⟨k', hk'⟩, ?_⟩
    have h' : ∃ j, J j a' w' ∧ ∀ i, i < j → ¬ J i a' w' := least k' hk'
    simp only [dif_pos h, dif_pos h']
    have := (Classical.choose_spec h').2 k'
    refine Nat.lt_of_le_of_lt (Nat.le_of_not_lt fun hh => this hh hk') hlt
  | _ => exact hq
set_option maxRecDepth 20000 in
set_option maxHeartbeats 4000000 in
theorem find_1 (w : World) (fl fb cb hb wb : Nat) (h : Fl w fl fb cb hb wb 1 #[.int .i64 0] #[.bool true] 0) :
    Calls Tryd.prog 24 #[.pointer (some ⟨fl, 0, none⟩)] w fun e w' => e = .returned (.tuple #[.int .i64 64, .int .i64 0]) ∧ Only [hb, wb, fl] w w' := by
  obtain ⟨c0, c1, c2, c3, c4, c5⟩ := h.fs
  obtain ⟨a1, a2, a3, a4, a5, a6, a7, a8, a9⟩ := h.apart
  have k1 := h.s.cell0 (i := 0) rfl
  have q1 := h.s.free 0
  have HT := Lib.hid (thr_push1 _ fl fb cb hb wb (h.setV 0 (.bool false)))
  have O0 := Lib.hid ((Only.refl [hb, wb, fl] w).set (p := ⟨wb, 0, none⟩) (.inl (by simp)) (.bool false))
  clear h
  go_enter Tryd.func24, Tryd.ntmps24
  go_wp2_with fail
  go_step3
  go_wp2_with fail
  go_step3
  go_wp2_with fail
  (with_reducible refine (HT.out).mono ?_)
  rintro e w1 ⟨rfl, o1⟩
  have O1 := Lib.hid (O0.out.trans o1 (by simp))
  clear o1
  go_wp2_with fail
  try rw [Exit.noGoto_ret]
  exact bodyPost_ret (v := .tuple #[.int .i64 64, .int .i64 0]) (by simp [results, Tryd.results24, go_sem]) rfl ⟨rfl, O1.out⟩
/-- What holds when the run comes back to the label, so many passes ahead of the end. -/
def Jmp (w0 : World) (fl fb cb hb wb : Nat) (k : Nat) (a : Act) (w : World) : Prop :=
  (∃ u1 u2 u3 u4 u5 u6 u7 u8 u9 u10 u11 u12 u13 u14 u15 u16 u17 u18 u19 u20 u21 u22 u23 u24 u25 u26 u27 u28 u29 u30 u31 u32 u33 u34 u35 u36 u37 u38 u39 u40 u41 u42, a = { tmps := #[.pointer (some ⟨fl, 0, none⟩), u1, u2, u3, u4, u5, u6, u7, u8, u9, u10, u11, u12, u13, u14, u15, u16, u17, u18, u19, u20, u21, u22, u23, u24, u25, u26, u27, u28, u29, u30, u31, u32, u33, u34, u35, u36, u37, u38, u39, u40, u41, u42], defers := [] }) ∧ Only [hb, wb, fl] w0 w ∧
    ((k = 3 ∧ Fl w fl fb cb hb wb 2 #[.int .i64 0, .int .i64 1] #[.bool false, .bool true] 0) ∨ (k = 2 ∧ Fl w fl fb cb hb wb 2 #[.int .i64 0, .int .i64 1] #[.bool false, .bool true] 1) ∨
     (k = 1 ∧ Fl w fl fb cb hb wb 2 #[.int .i64 0, .int .i64 1] #[.bool false, .bool false] 1) ∨ (k = 0 ∧ Fl w fl fb cb hb wb 2 #[.int .i64 0, .int .i64 1] #[.bool false, .bool false] 2))
set_option maxRecDepth 20000 in
set_option maxHeartbeats 4000000 in
theorem find_2 (w : World) (fl fb cb hb wb : Nat) (h : Fl w fl fb cb hb wb 2 #[.int .i64 0, .int .i64 (-1)] #[.bool true, .bool false] 0) :
    Calls Tryd.prog 24 #[.pointer (some ⟨fl, 0, none⟩)] w fun e w' => e = .returned (.tuple #[.int .i64 0, .int .i64 0]) ∧ Only [hb, wb, fl] w w' ∧ Bk w' hb 3 #[.int .i64 0, .int .i64 1] ∧ Bk w' fl 67 #[.string ⟨#[109]⟩, .slice (some ⟨fb, 0, none⟩) 1 1, .slice (some ⟨cb, 0, none⟩) 2 2, .slice (some ⟨hb, 0, none⟩) 2 2, .slice (some ⟨wb, 0, none⟩) 2 2, .int .i64 2] := by
  obtain ⟨c0, c1, c2, c3, c4, c5⟩ := h.fs
  obtain ⟨a1, a2, a3, a4, a5, a6, a7, a8, a9⟩ := h.apart
  have k1 := h.s.cell0 (i := 0) rfl
  have q1 := h.s.free 0
  have HT := Lib.hid (thr_push2 _ fl fb cb hb wb (h.setV 0 (.bool false)))
  have O0 := Lib.hid ((Only.refl [hb, wb, fl] w).set (p := ⟨wb, 0, none⟩) (.inl (by simp)) (.bool false))
  clear h
  go_enter Tryd.func24, Tryd.ntmps24
  go_wp2_with fail
  refine wp_scope_count 0 (Jmp w fl fb cb hb wb) rfl ?_ ?_
  · go_wp2_with fail
    go_step3
    go_wp2_with fail
    (with_reducible refine (HT.out).mono ?_)
    rintro e w1 ⟨rfl, o1, hf1⟩
    have O1 := Lib.hid (O0.out.trans o1 (fun i hi => .inl hi))
    have HF1 := Lib.hid hf1
    clear o1 hf1
    go_wp2_with fail
    go_step3
    exact ⟨rfl, 3, ⟨_, _, _, _, _, _, _, _, _, _, _, _, _, _, _, _, _, _, _, _, _, _, _, _, _, _, _, _, _, _, _, _, _, _, _, _, _, _, _, _, _, _, rfl⟩, O1.out, .inl ⟨rfl, HF1.out⟩⟩
  · clear HT O0 c0 c1 c2 c3 c4 c5 k1 q1
    rintro k a1 w1 ⟨⟨u1, u2, u3, u4, u5, u6, u7, u8, u9, u10, u11, u12, u13, u14, u15, u16, u17, u18, u19, u20, u21, u22, u23, u24, u25, u26, u27, u28, u29, u30, u31, u32, u33, u34, u35, u36, u37, u38, u39, u40, u41, u42, rfl⟩, ho, hk⟩
    have HO := Lib.hid ho
    clear ho
    rcases hk with ⟨rfl, hf⟩ | ⟨rfl, hf⟩ | ⟨rfl, hf⟩ | ⟨rfl, hf⟩
    · obtain ⟨c0, c1, c2, c3, c4, c5⟩ := hf.fs
      have k1 := hf.s.cell0 (i := 0) rfl
      have q1 := hf.b.free 5
      have HF := Lib.hid (hf.setN 1)
      clear hf
      go_wp2_with fail
      go_step3
      exact ⟨rfl, 2, by decide, ⟨_, _, _, _, _, _, _, _, _, _, _, _, _, _, _, _, _, _, _, _, _, _, _, _, _, _, _, _, _, _, _, _, _, _, _, _, _, _, _, _, _, _, rfl⟩, HO.out.set (p := ⟨fl, 5, none⟩) (.inl (by simp)) _, .inr (.inl ⟨rfl, HF.out⟩)⟩
    · obtain ⟨c0, c1, c2, c3, c4, c5⟩ := hf.fs
      have k1 := hf.s.cell0 (i := 1) rfl
      have q1 := hf.s.free 1
      have HT := Lib.hid (thr_ret _ fl fb cb hb wb (hf.setV 1 (.bool false)))
      have HF := Lib.hid (hf.setV 1 (.bool false))
      have O0 := Lib.hid (HO.out.set (p := ⟨wb, 1, none⟩) (.inl (by simp)) (.bool false))
      clear hf
      go_wp2_with fail
      (with_reducible refine (HT.out).mono ?_)
      rintro e w2 ⟨rfl, o1⟩
      have O1 := Lib.hid (O0.out.trans o1 (by simp))
      have HF1 := Lib.hid (HF.out.same o1)
      clear o1
      go_wp2_with fail
      go_step3
      exact ⟨rfl, 1, by decide, ⟨_, _, _, _, _, _, _, _, _, _, _, _, _, _, _, _, _, _, _, _, _, _, _, _, _, _, _, _, _, _, _, _, _, _, _, _, _, _, _, _, _, _, rfl⟩, O1.out, .inr (.inr (.inl ⟨rfl, HF1.out⟩))⟩
    · obtain ⟨c0, c1, c2, c3, c4, c5⟩ := hf.fs
      have k1 := hf.s.cell0 (i := 1) rfl
      have q1 := hf.b.free 5
      have HF := Lib.hid (hf.setN 2)
      clear hf
      go_wp2_with fail
      go_step3
      exact ⟨rfl, 0, by decide, ⟨_, _, _, _, _, _, _, _, _, _, _, _, _, _, _, _, _, _, _, _, _, _, _, _, _, _, _, _, _, _, _, _, _, _, _, _, _, _, _, _, _, _, rfl⟩, HO.out.set (p := ⟨fl, 5, none⟩) (.inl (by simp)) _, .inr (.inr (.inr ⟨rfl, HF.out⟩))⟩
    · obtain ⟨c0, c1, c2, c3, c4, c5⟩ := hf.fs
      have HF := Lib.hid hf
      clear hf
      go_wp2_with fail
      try simp only [Exit.jump]
      exact bodyPost_ret (v := .tuple #[.int .i64 0, .int .i64 0]) (by simp [results, Tryd.results24, go_sem]) rfl ⟨rfl, HO.out, HF.out.h, HF.out.b⟩
end Go.Proofs.YtgpgcjdneikokaaDoor
