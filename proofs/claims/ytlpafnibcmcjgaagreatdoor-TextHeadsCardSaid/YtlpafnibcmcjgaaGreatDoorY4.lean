/- text: reader.put. -/
import Derived.Test.YtlpafnibcmcjgaaGreatDoorY3
namespace Go.Proofs.YtlpafnibcmcjgaaGreatDoor
open Go.RowKit

theorem ret_tuple {e : Ending} (h : e = .returned (.tuple #[])) : e = .returned (.tuple #[]) := h
theorem Bk.setTo {w : World} {g : Nat} {t : TypeId} {cs : Array Value} (h : Bk w g t cs) (i : Nat) (u : Value) (cs' : Array Value) (e : cs.setIfInBounds i u = cs') : Bk (w.setCell ⟨g, i, none⟩ u) g t cs' := e ▸ h.set i u
theorem put_end0 {w w2 : World} {rb : Nat} {st k n a b : Int} {x y : Nat} {S : ByteArray} {bv sl u0 u1 u2 u3 u4 u5 u6 : Value} {o : Obj} (hb : Bk w rb 43 (rcs st bv u0 u1 u2 u3 u4 u5 u6))
    (hw : w2 = ((((((((w.setCell ⟨rb, 2, none⟩ (.int .i64 k)).setCell ⟨rb, 3, none⟩ (.int .i64 n)).setCell ⟨rb, 4, none⟩ (.complex .f64 x y)).setCell ⟨rb, 5, none⟩ (.string S)).setCell ⟨rb, 6, none⟩ (.int .i64 a)).setCell ⟨rb, 7, none⟩ (.int .i64 b)).setCell ⟨rb, 8, none⟩ sl).setCell ⟨rb, 0, none⟩ (.int .i64 3)).alloc o) :
    Only [rb] w w2 ∧ Bk w2 rb 43 (rcs 3 bv (.int .i64 k) (.int .i64 n) (.complex .f64 x y) (.string S) (.int .i64 a) (.int .i64 b) sl) := by
  have hm : rb ∈ [rb] ∨ w.heap.size ≤ rb := .inl (by simp)
  subst hw
  have b1 := hb.setTo 2 (.int .i64 k) (rcs st bv (.int .i64 k) u1 u2 u3 u4 u5 u6) rfl
  have b2 := b1.setTo 3 (.int .i64 n) (rcs st bv (.int .i64 k) (.int .i64 n) u2 u3 u4 u5 u6) rfl
  have b3 := b2.setTo 4 (.complex .f64 x y) (rcs st bv (.int .i64 k) (.int .i64 n) (.complex .f64 x y) u3 u4 u5 u6) rfl
  have b4 := b3.setTo 5 (.string S) (rcs st bv (.int .i64 k) (.int .i64 n) (.complex .f64 x y) (.string S) u4 u5 u6) rfl
  have b5 := b4.setTo 6 (.int .i64 a) (rcs st bv (.int .i64 k) (.int .i64 n) (.complex .f64 x y) (.string S) (.int .i64 a) u5 u6) rfl
  have b6 := b5.setTo 7 (.int .i64 b) (rcs st bv (.int .i64 k) (.int .i64 n) (.complex .f64 x y) (.string S) (.int .i64 a) (.int .i64 b) u6) rfl
  have b7 := b6.setTo 8 sl (rcs st bv (.int .i64 k) (.int .i64 n) (.complex .f64 x y) (.string S) (.int .i64 a) (.int .i64 b) sl) rfl
  have b8 := b7.setTo 0 (.int .i64 3) (rcs 3 bv (.int .i64 k) (.int .i64 n) (.complex .f64 x y) (.string S) (.int .i64 a) (.int .i64 b) sl) rfl
  have o1 := (Only.refl [rb] w).set (p := ⟨rb, 2, none⟩) hm (.int .i64 k)
  have o2 := o1.set (p := ⟨rb, 3, none⟩) hm (.int .i64 n)
  have o3 := o2.set (p := ⟨rb, 4, none⟩) hm (.complex .f64 x y)
  have o4 := o3.set (p := ⟨rb, 5, none⟩) hm (.string S)
  have o5 := o4.set (p := ⟨rb, 6, none⟩) hm (.int .i64 a)
  have o6 := o5.set (p := ⟨rb, 7, none⟩) hm (.int .i64 b)
  have o7 := o6.set (p := ⟨rb, 8, none⟩) hm sl
  have o8 := o7.set (p := ⟨rb, 0, none⟩) hm (.int .i64 3)
  exact ⟨o8.alloc o, b8.alloc o⟩
set_option maxHeartbeats 2000000 in
/-- Nothing is begun: the term is what was read. -/
theorem put_whole (w : World) (rb : Nat) (st : Int) (A B : Option Addr) (cap m c : Nat) (u0 u1 u2 u3 u4 u5 u6 : Value) (k n : Int) (x y : Nat) (S : ByteArray) (a b : Int)
    (hb : Bk w rb 43 (rcs st (.slice A 0 cap) u0 u1 u2 u3 u4 u5 u6)) :
    Calls Tryz.prog 41 #[.pointer (some ⟨rb, 0, none⟩), .agg (tcs k n x y S a b (.slice B m c))] w fun e w' => e = .returned (.tuple #[]) ∧ Only [rb] w w' ∧
      Bk w' rb 43 (rcs 3 (.slice A 0 cap) (.int .i64 k) (.int .i64 n) (.complex .f64 x y) (.string S) (.int .i64 a) (.int .i64 b) (.slice B m c)) := by
  have HB := Lib.hid hb
  have rs := store_com
  obtain ⟨c0, c1, c2, c3, c4, c5, c6, c7, c8⟩ := hb.nine
  have cf := hb.free
  have hlt := hb.lt
  have hne : rb ≠ w.heap.size := by omega
  clear hb
  go_enter Tryz.func41, Tryz.ntmps41
  go_wp2_with fail
  exact bodyPost_ret (v := .tuple #[]) (by simp [results, Tryz.results41, go_sem]) rfl ⟨rfl, put_end0 HB.out (by with_reducible rfl)⟩

theorem put_facts {w w1 : World} {base rb bg cap n m g cap' : Nat} {sl : Value} {xs ys cs' : List Value} {cs : Array Value} (hb : Bk w rb 43 cs) (hrow : w.ownsRow base 27 7 (.slice (some ⟨bg, 0, none⟩) (n + 1) cap) (n + 1) (ys ++ cs'))
    (hsl : w.ownsRow base 27 7 sl m xs) (hap : sl.ownBlock ≠ some bg) (hrb : rb < base)
    (hown : w1.ownsRow base 27 7 (.slice (some ⟨g, 0, none⟩) (m + 1) cap') (m + 1) (xs ++ Z7'.toList)) (hgrow : w.grownBy w1 sl.ownBlock) (hat : sl.ownBlock = some g ∨ g = w.heap.size) :
    Bk w1 rb 43 cs ∧ rb ≠ g ∧ bg ≠ g ∧ (∀ j, w1.frozen? ⟨g, j, none⟩ = false) ∧ Only sl.ownBlock.toList w w1 ∧ (∀ j, j < 7 → ∃ u, w1.cell? ⟨g, m * 7 + j, none⟩ = some u) ∧
      (∀ j, w1.frozen? ⟨bg, j, none⟩ = false) ∧ (∃ u, w1.cell? ⟨bg, n * 7 + 6, none⟩ = some u) ∧ w1.ownsRow base 27 7 (.slice (some ⟨bg, 0, none⟩) (n + 1) cap) (n + 1) (ys ++ cs') := by
  obtain ⟨h1, h2, h3, h4, h5⟩ := grown_facts hb hsl hrb hown hgrow
  have hr1 := Row.only hrow h4 (fun b hb hm => by
    injection hb with hb
    subst hb
    exact hap (by simpa using hm))
  refine ⟨h1, h2, ?_, h3, h4, h5, Row.free hr1, ?_, hr1⟩
  · rintro rfl
    rcases hat with h | h
    · exact hap h
    · have := (Row.block hrow (g := bg) rfl).2
      omega
  · have hl : n * 7 + 6 < (ys ++ cs').length := by rw [hrow.1]; omega
    exact ⟨_, Row.cell hr1 _ _ (List.getElem?_eq_getElem hl)⟩
theorem set_last (ys : List Value) (k n : Int) (x y : Nat) (S : ByteArray) (a b : Int) (sl sl' : Value) {i : Nat} (hi : i = ys.length + 6) : (ys ++ (tcs k n x y S a b sl).toList).set i sl' = ys ++ (tcs k n x y S a b sl').toList := by
  subst hi
  rw [List.set_append_right _ _ (by omega), show ys.length + 6 - ys.length = 6 by omega]
  rfl
/-- What the last stores of put leave, in either order. -/
theorem put_a {w1 w2 : World} {base rb bg cap g cap' m n : Nat} {st k' : Int} {sl sl' u0 u1 u2 u3 u4 u5 u6 v0 v1 v2 v3 v4 v5 v6 : Value} {xs ys : List Value} (k0 : Bk w1 rb 43 (rcs st (.slice (some ⟨bg, 0, none⟩) (n + 1) cap) u0 u1 u2 u3 u4 u5 u6)) (hne : rb ≠ g) (hne2 : bg ≠ g) (hne3 : rb ≠ bg)
    (hown : w1.ownsRow base 27 7 (.slice (some ⟨g, 0, none⟩) (m + 1) cap') (m + 1) (xs ++ Z7'.toList)) (hrow : w1.ownsRow base 27 7 (.slice (some ⟨bg, 0, none⟩) (n + 1) cap) (n + 1) (ys ++ (tcs k' 0 0 0 ⟨#[]⟩ 0 0 sl).toList)) (hlx : xs.length = m * 7) (hly : ys.length = n * 7) (hbv : sl' = .slice (some ⟨g, 0, none⟩) (m + 1) cap')
    (hw : w2 = ((((((((w1.setCell ⟨bg, n * 7 + 6, none⟩ sl').setCell ⟨g, m * 7, none⟩ v0).setCell ⟨g, m * 7 + 1, none⟩ v1).setCell ⟨g, m * 7 + 2, none⟩ v2).setCell ⟨g, m * 7 + 3, none⟩ v3).setCell ⟨g, m * 7 + 4, none⟩ v4).setCell ⟨g, m * 7 + 5, none⟩ v5).setCell ⟨g, m * 7 + 6, none⟩ v6).setCell ⟨rb, 0, none⟩ (.int .i64 2)) :
    Only [rb, bg, g] w1 w2 ∧ Bk w2 rb 43 (rcs 2 (.slice (some ⟨bg, 0, none⟩) (n + 1) cap) u0 u1 u2 u3 u4 u5 u6) ∧ w2.ownsRow base 27 7 sl' (m + 1) (xs ++ [v0, v1, v2, v3, v4, v5, v6]) ∧ w2.ownsRow base 27 7 (.slice (some ⟨bg, 0, none⟩) (n + 1) cap) (n + 1) (ys ++ (tcs k' 0 0 0 ⟨#[]⟩ 0 0 sl').toList) := by
  subst hbv
  rw [set7_eq] at hw
  subst hw
  refine ⟨?_, ?_, ?_, ?_⟩
  · exact (Only.sets (.inl (by simp)) _ _ ((Only.refl _ _).set (.inl (by simp)) _)).set (.inl (by simp)) _
  · exact Bk.set (Bk.only (Bk.only k0 ((Only.refl [bg] _).set (.inl (by simp)) _) (by simpa using hne3)) (Only.sets (S := [g]) (.inl (by simp)) _ _ (Only.refl _ _)) (by simpa using hne)) 0 _
  · refine Row.only (Row.last (Row.only hown ((Only.refl [bg] _).set (.inl (by simp)) _) ?_) rfl (by omega)) ((Only.refl [rb] _).set (.inl (by simp)) _) ?_
    all_goals
      intro b hb
      injection hb with hb
      simp at hb ⊢
      omega
  · rw [← set_last ys k' 0 0 0 ⟨#[]⟩ 0 0 sl _ (i := n * 7 + 6) (by omega)]
    refine Row.only (Row.only (Row.set hrow (n * 7 + 6) _) (Only.sets (S := [g]) (.inl (by simp)) _ _ (Only.refl _ _)) ?_) ((Only.refl [rb] _).set (.inl (by simp)) _) ?_
    all_goals
      intro b hb
      injection hb with hb
      simp at hb ⊢
      omega
theorem put_b {w1 w2 : World} {base rb bg cap g cap' m n : Nat} {st k' : Int} {sl sl' u0 u1 u2 u3 u4 u5 u6 v0 v1 v2 v3 v4 v5 v6 : Value} {xs ys : List Value} (k0 : Bk w1 rb 43 (rcs st (.slice (some ⟨bg, 0, none⟩) (n + 1) cap) u0 u1 u2 u3 u4 u5 u6)) (hne : rb ≠ g) (hne2 : bg ≠ g) (hne3 : rb ≠ bg)
    (hown : w1.ownsRow base 27 7 (.slice (some ⟨g, 0, none⟩) (m + 1) cap') (m + 1) (xs ++ Z7'.toList)) (hrow : w1.ownsRow base 27 7 (.slice (some ⟨bg, 0, none⟩) (n + 1) cap) (n + 1) (ys ++ (tcs k' 0 0 0 ⟨#[]⟩ 0 0 sl).toList)) (hlx : xs.length = m * 7) (hly : ys.length = n * 7) (hbv : sl' = .slice (some ⟨g, 0, none⟩) (m + 1) cap')
    (hw : w2 = ((((((((w1.setCell ⟨g, m * 7, none⟩ v0).setCell ⟨g, m * 7 + 1, none⟩ v1).setCell ⟨g, m * 7 + 2, none⟩ v2).setCell ⟨g, m * 7 + 3, none⟩ v3).setCell ⟨g, m * 7 + 4, none⟩ v4).setCell ⟨g, m * 7 + 5, none⟩ v5).setCell ⟨g, m * 7 + 6, none⟩ v6).setCell ⟨bg, n * 7 + 6, none⟩ sl').setCell ⟨rb, 0, none⟩ (.int .i64 2)) :
    Only [rb, bg, g] w1 w2 ∧ Bk w2 rb 43 (rcs 2 (.slice (some ⟨bg, 0, none⟩) (n + 1) cap) u0 u1 u2 u3 u4 u5 u6) ∧ w2.ownsRow base 27 7 sl' (m + 1) (xs ++ [v0, v1, v2, v3, v4, v5, v6]) ∧ w2.ownsRow base 27 7 (.slice (some ⟨bg, 0, none⟩) (n + 1) cap) (n + 1) (ys ++ (tcs k' 0 0 0 ⟨#[]⟩ 0 0 sl').toList) := by
  subst hbv
  rw [set7_eq] at hw
  subst hw
  refine ⟨?_, ?_, ?_, ?_⟩
  · exact ((Only.sets (.inl (by simp)) _ _ (Only.refl _ _)).set (.inl (by simp)) _).set (.inl (by simp)) _
  · exact Bk.set (Bk.only (Bk.only k0 (Only.sets (S := [g]) (.inl (by simp)) _ _ (Only.refl _ _)) (by simpa using hne)) ((Only.refl [bg] _).set (.inl (by simp)) _) (by simpa using hne3)) 0 _
  · refine Row.only (Row.only (Row.last hown rfl (by omega)) ((Only.refl [bg] _).set (.inl (by simp)) _) ?_) ((Only.refl [rb] _).set (.inl (by simp)) _) ?_
    all_goals
      intro b hb
      injection hb with hb
      simp at hb ⊢
      omega
  · rw [← set_last ys k' 0 0 0 ⟨#[]⟩ 0 0 sl _ (i := n * 7 + 6) (by omega)]
    refine Row.only (Row.set (Row.only hrow (Only.sets (S := [g]) (.inl (by simp)) _ _ (Only.refl _ _)) ?_) (n * 7 + 6) _) ((Only.refl [rb] _).set (.inl (by simp)) _) ?_
    all_goals
      intro b hb
      injection hb with hb
      simp at hb ⊢
      omega
end Go.Proofs.YtlpafnibcmcjgaaGreatDoor
