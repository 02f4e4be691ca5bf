/- text: reader.put. text: reader.put, into the innermost one. -/
import Derived.Test.YtlilfmpikampgaaGreatDoorPMj
namespace Go.Proofs.YtlilfmpikampgaaGreatDoor
open Go.RowKit

theorem ret_tuple {e : Ending} (h : e = .returned (.tuple #[])) : e = .returned (.tuple #[]) := h
theorem Bk.setTo {w : World} {g : Nat} {t : TypeId} {cs : Array Value} (h : Bk w g t cs) (i : Nat) (u : Value) (cs' : Array Value) (e : cs.setIfInBounds i u = cs') : Bk (w.setCell ⟨g, i, none⟩ u) g t cs' := e ▸ h.set i u
theorem put_end0 {w w2 : World} {rb : Nat} {st k n a b : Int} {x y : Nat} {S : ByteArray} {bv sl u0 u1 u2 u3 u4 u5 u6 : Value} {o : Obj} (hb : Bk w rb 123 (rcs st bv u0 u1 u2 u3 u4 u5 u6))
    (hw : w2 = ((((((((w.setCell ⟨rb, 2, none⟩ (.int .i64 k)).setCell ⟨rb, 3, none⟩ (.int .i64 n)).setCell ⟨rb, 4, none⟩ (.complex .f64 x y)).setCell ⟨rb, 5, none⟩ (.string S)).setCell ⟨rb, 6, none⟩ (.int .i64 a)).setCell ⟨rb, 7, none⟩ (.int .i64 b)).setCell ⟨rb, 8, none⟩ sl).setCell ⟨rb, 0, none⟩ (.int .i64 3)).alloc o) :
    Only [rb] w w2 ∧ Bk w2 rb 123 (rcs 3 bv (.int .i64 k) (.int .i64 n) (.complex .f64 x y) (.string S) (.int .i64 a) (.int .i64 b) sl) := by
  have hm : rb ∈ [rb] ∨ w.heap.size ≤ rb := .inl (by simp)
  subst hw
  have b1 := hb.setTo 2 (.int .i64 k) (rcs st bv (.int .i64 k) u1 u2 u3 u4 u5 u6) rfl
  have b2 := b1.setTo 3 (.int .i64 n) (rcs st bv (.int .i64 k) (.int .i64 n) u2 u3 u4 u5 u6) rfl
  have b3 := b2.setTo 4 (.complex .f64 x y) (rcs st bv (.int .i64 k) (.int .i64 n) (.complex .f64 x y) u3 u4 u5 u6) rfl
  have b4 := b3.setTo 5 (.string S) (rcs st bv (.int .i64 k) (.int .i64 n) (.complex .f64 x y) (.string S) u4 u5 u6) rfl
  have b5 := b4.setTo 6 (.int .i64 a) (rcs st bv (.int .i64 k) (.int .i64 n) (.complex .f64 x y) (.string S) (.int .i64 a) u5 u6) rfl
  have b6 := b5.setTo 7 (.int .i64 b) (rcs st bv (.int .i64 k) (.int .i64 n) (.complex .f64 x y) (.string S) (.int .i64 a) (.int .i64 b) u6) rfl
  have b7 := b6.setTo 8 sl (rcs st bv (.int .i64 k) (.int .i64 n) (.complex .f64 x y) (.string S) (.int .i64 a) (.int .i64 b) sl) rfl
  have b8 := b7.setTo 0 (.int .i64 3) (rcs 3 bv (.int .i64 k) (.int .i64 n) (.complex .f64 x y) (.string S) (.int .i64 a) (.int .i64 b) sl) rfl
  have o1 := (Only.refl [rb] w).set (p := ⟨rb, 2, none⟩) hm (.int .i64 k)
  have o2 := o1.set (p := ⟨rb, 3, none⟩) hm (.int .i64 n)
  have o3 := o2.set (p := ⟨rb, 4, none⟩) hm (.complex .f64 x y)
  have o4 := o3.set (p := ⟨rb, 5, none⟩) hm (.string S)
  have o5 := o4.set (p := ⟨rb, 6, none⟩) hm (.int .i64 a)
  have o6 := o5.set (p := ⟨rb, 7, none⟩) hm (.int .i64 b)
  have o7 := o6.set (p := ⟨rb, 8, none⟩) hm sl
  have o8 := o7.set (p := ⟨rb, 0, none⟩) hm (.int .i64 3)
  exact ⟨o8.alloc o, b8.alloc o⟩
set_option maxHeartbeats 2000000 in
/-- Nothing is begun: the term is what was read. -/
theorem put_whole (w : World) (rb : Nat) (st : Int) (A B : Option Addr) (cap m c : Nat) (u0 u1 u2 u3 u4 u5 u6 : Value) (k n : Int) (x y : Nat) (S : ByteArray) (a b : Int)
    (hb : Bk w rb 123 (rcs st (.slice A 0 cap) u0 u1 u2 u3 u4 u5 u6)) :
    Calls Tryz.prog 102 #[.pointer (some ⟨rb, 0, none⟩), .agg (tcs k n x y S a b (.slice B m c))] w fun e w' => e = .returned (.tuple #[]) ∧ Only [rb] w w' ∧
      Bk w' rb 123 (rcs 3 (.slice A 0 cap) (.int .i64 k) (.int .i64 n) (.complex .f64 x y) (.string S) (.int .i64 a) (.int .i64 b) (.slice B m c)) := by
  have HB := Lib.hid hb
  have rs := store_com
  obtain ⟨c0, c1, c2, c3, c4, c5, c6, c7, c8⟩ := hb.nine
  have cf := hb.free
  have hlt := hb.lt
  have hne : rb ≠ w.heap.size := by omega
  clear hb
  go_enter Tryz.func102, Tryz.ntmps102
  go_wp2_with fail
  exact bodyPost_ret (v := .tuple #[]) (by simp [results, Tryz.results102, go_sem]) rfl ⟨rfl, put_end0 HB.out (by with_reducible rfl)⟩

theorem put_facts {w w1 : World} {base rb bg cap n m g cap' : Nat} {sl : Value} {xs ys cs' : List Value} {cs : Array Value} (hb : Bk w rb 123 cs) (hrow : w.ownsRow base 27 7 (.slice (some ⟨bg, 0, none⟩) (n + 1) cap) (n + 1) (ys ++ cs'))
    (hsl : w.ownsRow base 27 7 sl m xs) (hap : sl.ownBlock ≠ some bg) (hrb : rb < base)
    (hown : w1.ownsRow base 27 7 (.slice (some ⟨g, 0, none⟩) (m + 1) cap') (m + 1) (xs ++ Z7'.toList)) (hgrow : w.grownBy w1 sl.ownBlock) (hat : sl.ownBlock = some g ∨ g = w.heap.size) :
    Bk w1 rb 123 cs ∧ rb ≠ g ∧ bg ≠ g ∧ (∀ j, w1.frozen? ⟨g, j, none⟩ = false) ∧ Only sl.ownBlock.toList w w1 ∧ (∀ j, j < 7 → ∃ u, w1.cell? ⟨g, m * 7 + j, none⟩ = some u) ∧
      (∀ j, w1.frozen? ⟨bg, j, none⟩ = false) ∧ (∃ u, w1.cell? ⟨bg, n * 7 + 6, none⟩ = some u) ∧ w1.ownsRow base 27 7 (.slice (some ⟨bg, 0, none⟩) (n + 1) cap) (n + 1) (ys ++ cs') := by
  obtain ⟨h1, h2, h3, h4, h5⟩ := grown_facts hb hsl hrb hown hgrow
  have hr1 := Row.only hrow h4 (fun b hb hm => by
    injection hb with hb
    subst hb
    exact hap (by simpa using hm))
  refine ⟨h1, h2, ?_, h3, h4, h5, Row.free hr1, ?_, hr1⟩
  · rintro rfl
    rcases hat with h | h
    · exact hap h
    · have := (Row.block hrow (g := bg) rfl).2
      omega
  · have hl : n * 7 + 6 < (ys ++ cs').length := by rw [hrow.1]; omega
    exact ⟨_, Row.cell hr1 _ _ (List.getElem?_eq_getElem hl)⟩
theorem set_last (ys : List Value) (k n : Int) (x y : Nat) (S : ByteArray) (a b : Int) (sl sl' : Value) {i : Nat} (hi : i = ys.length + 6) : (ys ++ (tcs k n x y S a b sl).toList).set i sl' = ys ++ (tcs k n x y S a b sl').toList := by
  subst hi
  rw [List.set_append_right _ _ (by omega), show ys.length + 6 - ys.length = 6 by omega]
  rfl
/-- What the last stores of put leave, in either order. -/
theorem put_a {w1 w2 : World} {base rb bg cap g cap' m n : Nat} {st k' : Int} {sl sl' u0 u1 u2 u3 u4 u5 u6 v0 v1 v2 v3 v4 v5 v6 : Value} {xs ys : List Value} (k0 : Bk w1 rb 123 (rcs st (.slice (some ⟨bg, 0, none⟩) (n + 1) cap) u0 u1 u2 u3 u4 u5 u6)) (hne : rb ≠ g) (hne2 : bg ≠ g) (hne3 : rb ≠ bg)
    (hown : w1.ownsRow base 27 7 (.slice (some ⟨g, 0, none⟩) (m + 1) cap') (m + 1) (xs ++ Z7'.toList)) (hrow : w1.ownsRow base 27 7 (.slice (some ⟨bg, 0, none⟩) (n + 1) cap) (n + 1) (ys ++ (tcs k' 0 0 0 ⟨#[]⟩ 0 0 sl).toList)) (hlx : xs.length = m * 7) (hly : ys.length = n * 7) (hbv : sl' = .slice (some ⟨g, 0, none⟩) (m + 1) cap')
    (hw : w2 = ((((((((w1.setCell ⟨bg, n * 7 + 6, none⟩ sl').setCell ⟨g, m * 7, none⟩ v0).setCell ⟨g, m * 7 + 1, none⟩ v1).setCell ⟨g, m * 7 + 2, none⟩ v2).setCell ⟨g, m * 7 + 3, none⟩ v3).setCell ⟨g, m * 7 + 4, none⟩ v4).setCell ⟨g, m * 7 + 5, none⟩ v5).setCell ⟨g, m * 7 + 6, none⟩ v6).setCell ⟨rb, 0, none⟩ (.int .i64 2)) :
    Only [rb, bg, g] w1 w2 ∧ Bk w2 rb 123 (rcs 2 (.slice (some ⟨bg, 0, none⟩) (n + 1) cap) u0 u1 u2 u3 u4 u5 u6) ∧ w2.ownsRow base 27 7 sl' (m + 1) (xs ++ [v0, v1, v2, v3, v4, v5, v6]) ∧ w2.ownsRow base 27 7 (.slice (some ⟨bg, 0, none⟩) (n + 1) cap) (n + 1) (ys ++ (tcs k' 0 0 0 ⟨#[]⟩ 0 0 sl').toList) := by
  subst hbv
  rw [set7_eq] at hw
  subst hw
  refine ⟨?_, ?_, ?_, ?_⟩
  · exact (Only.sets (.inl (by simp)) _ _ ((Only.refl _ _).set (.inl (by simp)) _)).set (.inl (by simp)) _
  · exact Bk.set (Bk.only (Bk.only k0 ((Only.refl [bg] _).set (.inl (by simp)) _) (by simpa using hne3)) (Only.sets (S := [g]) (.inl (by simp)) _ _ (Only.refl _ _)) (by simpa using hne)) 0 _
  · refine Row.only (Row.last (Row.only hown ((Only.refl [bg] _).set (.inl (by simp)) _) ?_) rfl (by omega)) ((Only.refl [rb] _).set (.inl (by simp)) _) ?_
    all_goals
      intro b hb
      injection hb with hb
      simp at hb ⊢
      omega
  · rw [← set_last ys k' 0 0 0 ⟨#[]⟩ 0 0 sl _ (i := n * 7 + 6) (by omega)]
    refine Row.only (Row.only (Row.set hrow (n * 7 + 6) _) (Only.sets (S := [g]) (.inl (by simp)) _ _ (Only.refl _ _)) ?_) ((Only.refl [rb] _).set (.inl (by simp)) _) ?_
    all_goals
      intro b hb
      injection hb with hb
      simp at hb ⊢
      omega
theorem put_b {w1 w2 : World} {base rb bg cap g cap' m n : Nat} {st k' : Int} {sl sl' u0 u1 u2 u3 u4 u5 u6 v0 v1 v2 v3 v4 v5 v6 : Value} {xs ys : List Value} (k0 : Bk w1 rb 123 (rcs st (.slice (some ⟨bg, 0, none⟩) (n + 1) cap) u0 u1 u2 u3 u4 u5 u6)) (hne : rb ≠ g) (hne2 : bg ≠ g) (hne3 : rb ≠ bg)
    (hown : w1.ownsRow base 27 7 (.slice (some ⟨g, 0, none⟩) (m + 1) cap') (m + 1) (xs ++ Z7'.toList)) (hrow : w1.ownsRow base 27 7 (.slice (some ⟨bg, 0, none⟩) (n + 1) cap) (n + 1) (ys ++ (tcs k' 0 0 0 ⟨#[]⟩ 0 0 sl).toList)) (hlx : xs.length = m * 7) (hly : ys.length = n * 7) (hbv : sl' = .slice (some ⟨g, 0, none⟩) (m + 1) cap')
    (hw : w2 = ((((((((w1.setCell ⟨g, m * 7, none⟩ v0).setCell ⟨g, m * 7 + 1, none⟩ v1).setCell ⟨g, m * 7 + 2, none⟩ v2).setCell ⟨g, m * 7 + 3, none⟩ v3).setCell ⟨g, m * 7 + 4, none⟩ v4).setCell ⟨g, m * 7 + 5, none⟩ v5).setCell ⟨g, m * 7 + 6, none⟩ v6).setCell ⟨bg, n * 7 + 6, none⟩ sl').setCell ⟨rb, 0, none⟩ (.int .i64 2)) :
    Only [rb, bg, g] w1 w2 ∧ Bk w2 rb 123 (rcs 2 (.slice (some ⟨bg, 0, none⟩) (n + 1) cap) u0 u1 u2 u3 u4 u5 u6) ∧ w2.ownsRow base 27 7 sl' (m + 1) (xs ++ [v0, v1, v2, v3, v4, v5, v6]) ∧ w2.ownsRow base 27 7 (.slice (some ⟨bg, 0, none⟩) (n + 1) cap) (n + 1) (ys ++ (tcs k' 0 0 0 ⟨#[]⟩ 0 0 sl').toList) := by
  subst hbv
  rw [set7_eq] at hw
  subst hw
  refine ⟨?_, ?_, ?_, ?_⟩
  · exact ((Only.sets (.inl (by simp)) _ _ (Only.refl _ _)).set (.inl (by simp)) _).set (.inl (by simp)) _
  · exact Bk.set (Bk.only (Bk.only k0 (Only.sets (S := [g]) (.inl (by simp)) _ _ (Only.refl _ _)) (by simpa using hne)) ((Only.refl [bg] _).set (.inl (by simp)) _) (by simpa using hne3)) 0 _
  · refine Row.only (Row.only (Row.last hown rfl (by omega)) ((Only.refl [bg] _).set (.inl (by simp)) _) ?_) ((Only.refl [rb] _).set (.inl (by simp)) _) ?_
    all_goals
      intro b hb
      injection hb with hb
      simp at hb ⊢
      omega
  · rw [← set_last ys k' 0 0 0 ⟨#[]⟩ 0 0 sl _ (i := n * 7 + 6) (by omega)]
    refine Row.only (Row.set (Row.only hrow (Only.sets (S := [g]) (.inl (by simp)) _ _ (Only.refl _ _)) ?_) (n * 7 + 6) _) ((Only.refl [rb] _).set (.inl (by simp)) _) ?_
    all_goals
      intro b hb
      injection hb with hb
      simp at hb ⊢
      omega
end Go.Proofs.YtlilfmpikampgaaGreatDoor

namespace Go.Proofs.YtlilfmpikampgaaGreatDoor
open Go.RowKit

theorem put_end1 {w wA w1 w2 : World} {base rb bg g cap cap' : Nat} {F : Nat → Prop} {o : Opn} {sl slt u0 u1 u2 u3 u4 u5 u6 : Value} {t : T} {ps : List (Opn × Value)} {xs : List Value} {cs : Array Value} (hbw : Bk w rb 123 cs) (hr : Rdr w base F (.slice (some ⟨bg, 0, none⟩) (ps.length + 1) cap) ((o, sl) :: ps)) (hit : Its w F o.items xs)
    (ht : TV w F t slt) (h0 : Only [] w wA) (k3 : Only sl.ownBlock.toList wA w1) (hat : sl.ownBlock = some g ∨ g = wA.heap.size) (hrb : rb < base)
    (hb : Only [rb, bg, g] w1 w2 ∧ Bk w2 rb 123 (rcs 2 (.slice (some ⟨bg, 0, none⟩) (ps.length + 1) cap) u0 u1 u2 u3 u4 u5 u6) ∧ w2.ownsRow base 27 7 (.slice (some ⟨g, 0, none⟩) (o.items.length + 1) cap') (o.items.length + 1) (xs ++ (t.cs slt).toList) ∧
      w2.ownsRow base 27 7 (.slice (some ⟨bg, 0, none⟩) (ps.length + 1) cap) (ps.length + 1) (ocs ps ++ (tcs o.k 0 0 0 ⟨#[]⟩ 0 0 (.slice (some ⟨g, 0, none⟩) (o.items.length + 1) cap')).toList)) :
    Low base rb w w2 ∧ Bk w2 rb 123 (rcs 2 (.slice (some ⟨bg, 0, none⟩) (ps.length + 1) cap) u0 u1 u2 u3 u4 u5 u6) ∧ ∃ sl', Rdr w2 base F (.slice (some ⟨bg, 0, none⟩) (ps.length + 1) cap) ((⟨o.k, o.items ++ [t]⟩, sl') :: ps) := by
  obtain ⟨o2, b2, r2, r3⟩ := hb
  have hx := hr.each (o, sl) (by simp)
  obtain ⟨ys, hx, _⟩ := hx
  have h1 : Only (rb :: bg :: g :: sl.ownBlock.toList) w w2 := ((h0.more (by simp)).trans k3 (fun i hi => .inl (by simp at hi ⊢; exact .inr (.inr (.inr hi))))).trans o2 (fun i hi => .inl (by simp at hi ⊢; omega))
  have hg : sl.ownBlock = some g ∨ w.heap.size ≤ g := by
    rcases hat with h | h
    · exact .inl h
    · exact .inr (by rw [h]; exact h0.size)
  refine ⟨⟨_, h1, fun b hb => ?_, fun b hb hlt => ?_⟩, b2, _, Rdr.lay (S := rb :: bg :: sl.ownBlock.toList) (g := g) hr ht hit (h1.more fun i hi => ?_) (fun b hb => ?_) hg rfl r2 r3⟩
  · rcases List.mem_cons.1 hb with rfl | hb
    · exact .inl rfl
    rcases List.mem_cons.1 hb with rfl | hb
    · exact .inr (Row.block r3 (g := b) rfl).1
    rcases List.mem_cons.1 hb with rfl | hb
    · exact .inr (Row.block r2 (g := b) rfl).1
    · exact .inr (Row.block hx (g := b) (by simpa using hb)).1
  · rcases List.mem_cons.1 hb with rfl | hb
    · exact ⟨_, _, hbw⟩
    rcases List.mem_cons.1 hb with rfl | hb
    · exact Row.cells hr.row rfl
    rcases List.mem_cons.1 hb with rfl | hb
    · rcases hg with hg | hg
      · exact Row.cells hx hg
      · omega
    · exact Row.cells hx (g := b) (by simpa using hb)
  · rcases List.mem_cons.1 hi with rfl | hi
    · exact .inl (by simp)
    rcases List.mem_cons.1 hi with rfl | hi
    · exact .inl (by simp)
    rcases List.mem_cons.1 hi with rfl | hi
    · rcases hg with hg | hg
      · exact .inl (by simp [hg])
      · exact .inr hg
    · exact .inl (by simp at hi ⊢; exact .inr (.inr hi))
  · rcases List.mem_cons.1 hb with rfl | hb
    · exact .inl hrb
    rcases List.mem_cons.1 hb with rfl | hb
    · exact .inr (.inr rfl)
    · exact .inr (.inl (by simpa using hb))
set_option maxHeartbeats 4000000 in
theorem put_top (w : World) (base rb : Nat) (F : Nat → Prop) (st : Int) (bg cap : Nat) (o : Opn) (sl B : _) (m' c' : Nat) (ps : List (Opn × Value)) (u0 u1 u2 u3 u4 u5 u6 : Value) (t : T)
    (hb : Bk w rb 123 (rcs st (.slice (some ⟨bg, 0, none⟩) (ps.length + 1) cap) u0 u1 u2 u3 u4 u5 u6)) (hr : Rdr w base F (.slice (some ⟨bg, 0, none⟩) (ps.length + 1) cap) ((o, sl) :: ps)) (ht : TV w F t (.slice B m' c'))
    (hl : o.items.length ≤ 262144) (hl2 : ps.length ≤ 262144) (hrb : rb < base) :
    Calls Tryz.prog 102 #[.pointer (some ⟨rb, 0, none⟩), .agg (tcs t.k t.n t.x t.y t.S t.a t.b (.slice B m' c'))] w fun e w' => e = .returned (.tuple #[]) ∧ Low base rb w w' ∧
      Bk w' rb 123 (rcs 2 (.slice (some ⟨bg, 0, none⟩) (ps.length + 1) cap) u0 u1 u2 u3 u4 u5 u6) ∧ ∃ sl', Rdr w' base F (.slice (some ⟨bg, 0, none⟩) (ps.length + 1) cap) ((⟨o.k, o.items ++ [t]⟩, sl') :: ps) := by
  obtain ⟨xs, hx, hit⟩ := hr.each (o, sl) (by simp)
  simp only at hx hit
  obtain ⟨A, c, rfl⟩ : ∃ A c, sl = .slice A o.items.length c := by
    rcases hx.2 with ⟨h, h0⟩ | ⟨g, cap, cur, h, _⟩
    · exact ⟨none, 0, by rw [h, h0]⟩
    · exact ⟨_, _, h⟩
  have rs := store_com
  have HB := Lib.hid hb
  have HR := Lib.hid hr
  have HI := Lib.hid hit
  have HT := Lib.hid ht
  have HX := Lib.hid hx
  have hap : (Value.slice A o.items.length c).ownBlock ≠ some bg := fun e => (List.pairwise_cons.1 hr.apart).1 _ (by simp) bg rfl e
  have hrow : w.ownsRow base 27 7 (.slice (some ⟨bg, 0, none⟩) (ps.length + 1) cap) (ps.length + 1) (ocs ps ++ (tcs o.k 0 0 0 ⟨#[]⟩ 0 0 (.slice A o.items.length c)).toList) := hr.row
  have HRW := Lib.hid hrow
  have c1a : ∀ o1, (w.alloc o1).cell? ⟨rb, 1, none⟩ = some (.slice (some ⟨bg, 0, none⟩) (ps.length + 1) cap) := fun o1 => (hb.alloc o1).cell0 rfl
  have hbgL : (ocs ps ++ (tcs o.k 0 0 0 ⟨#[]⟩ 0 0 (.slice A o.items.length c)).toList)[ps.length * 7 + 6]? = some (.slice A o.items.length c) := by
    rw [List.getElem?_append_right (by rw [ocs_len]; omega), ocs_len, show ps.length * 7 + 6 - ps.length * 7 = 6 by omega]
    rfl
  have L1 : ∀ o1, (w.alloc o1).cell? ⟨bg, ps.length * 7 + 6, none⟩ = some (.slice A o.items.length c) := fun o1 => Row.cell (Row.alloc hrow o1) _ _ hbgL
  have L2 : ∀ o1 o2, ((w.alloc o1).alloc o2).cell? ⟨bg, ps.length * 7 + 6, none⟩ = some (.slice A o.items.length c) := fun o1 o2 => Row.cell (Row.alloc (Row.alloc hrow o1) o2) _ _ hbgL
  have R1 : ∀ o1 o2, ((w.alloc o1).alloc o2).ownsRow base 27 7 (.slice A o.items.length c) o.items.length xs := fun o1 o2 => Row.alloc (Row.alloc hx o1) o2
  have R2 : ∀ o1 o2, ((w.alloc o1).alloc o2).ownsRow base 27 7 (.slice (some ⟨bg, 0, none⟩) (ps.length + 1) cap) (ps.length + 1) (ocs ps ++ (tcs o.k 0 0 0 ⟨#[]⟩ 0 0 (.slice A o.items.length c)).toList) := fun o1 o2 => Row.alloc (Row.alloc hrow o1) o2
  have hbz : ∀ o1 o2, base ≤ ((w.alloc o1).alloc o2).heap.size := fun o1 o2 => by have := hr.le; simp; omega
  have TB := Lib.hid ((Bk.made w 27 (tcs t.k t.n t.x t.y t.S t.a t.b (.slice B m' c'))))
  obtain ⟨t0, t1, t2, t3, t4, t5, t6⟩ := sevenA TB.out
  obtain ⟨i, hi, hz, hz1, hz2⟩ := info_parts info_term
  have h63 : o.items.length + 1 ≤ maxLen := by unfold maxLen; omega
  have q1 : ((o.items.length : Int) < (o.items.length : Int) + 1) := by omega
  have q2 : ((ps.length : Int) < (ps.length : Int) + 1) := by omega
  have q3 : wrap64 (ps.length : Int) = (ps.length : Int) := wrap64_in (by omega) (by omega)
  have q4 : ((ps.length : Int) + 1 == 0) = false := by simp; omega
  have hne : rb ≠ bg := by have := (Row.block hrow (g := bg) rfl).1; omega
  clear hb hr hit ht hx hrow hbgL
  go_enter Tryz.func102, Tryz.ntmps102
  go_wp2_with fail
  go_region
  have HXS := Lib.hid HX.out.1
  have HZ0 := Lib.hid (((Only.refl [] w).alloc (.cells (tcs t.k t.n t.x t.y t.S t.a t.b (.slice B m' c')) 27)).alloc (.cells Z7' 27)).drew.drew
  go_wp2_with fail
  go_region_law ((refine step_append_lies _ (by rfl) _ _ _ (by rfl) base 27 i _ 7 88 Tryz.underlying25 hi hz hz1 hz2 rfl (by omega) _ o.items.length xs (by rfl) (Row.drew (Row.drew (R1 _ _))) _ 1 1 Z7'.toList (by rfl) rfl (World.news_of_block (Bk.madeAt (w := w.alloc (.cells (tcs t.k t.n t.x t.y t.S t.a t.b (.slice B m' c')) 27)) (b := w.heap.size + 1) (by simp))) (by decide) (by omega) h63 (by omega) (hbz _ _) _ rfl ?_; intro g cap' w1 hown hgrow hat hlt; obtain ⟨k0, k1, k1b, k2, k3, k4, k5, ⟨zL, xL⟩, k6⟩ := put_facts ((HB.out.alloc _).alloc _).drew.drew (Row.drew (Row.drew (R2 _ _))) (Row.drew (Row.drew (R1 _ _))) hap hrb hown hgrow hat; obtain ⟨z0, x0⟩ := k4 0 (by omega); obtain ⟨z1, x1⟩ := k4 1 (by omega); obtain ⟨z2, x2⟩ := k4 2 (by omega); obtain ⟨z3, x3⟩ := k4 3 (by omega); obtain ⟨z4, x4⟩ := k4 4 (by omega); obtain ⟨z5, x5⟩ := k4 5 (by omega); obtain ⟨z6, x6⟩ := k4 6 (by omega); simp only [Nat.add_zero] at x0; obtain ⟨d0, d1, d2, d3, d4, d5, d6, d7, d8⟩ := k0.nine; have df := k0.free; have K0 := Lib.hid k0; have K3 := Lib.hid k3; have HO := Lib.hid hown; have K6 := Lib.hid k6; clear k0 k4 k6))
  all_goals
    go_wp2_with fail
    refine bodyPost_end (v := .tuple #[]) (by simp [results, Tryz.results102, go_sem]) rfl ⟨rfl, put_end1 (cap' := cap') HB.out HR.out HI.out HT.out HZ0.out K3.out hat hrb ?_⟩
    first
      | exact put_a K0.out k1 k1b hne HO.out K6.out HXS.out (ocs_len ps) rfl (by with_reducible rfl)
      | exact put_b K0.out k1 k1b hne HO.out K6.out HXS.out (ocs_len ps) rfl (by with_reducible rfl)
end Go.Proofs.YtlilfmpikampgaaGreatDoor
