/- text: reader.put, into the innermost one. -/
import Derived.Test.YtlpafnibcmcjgaaGreatDoorY4
namespace Go.Proofs.YtlpafnibcmcjgaaGreatDoor
open Go.RowKit

theorem put_end1 {w wA w1 w2 : World} {base rb bg g cap cap' : Nat} {F : Nat → Prop} {o : Opn} {sl slt u0 u1 u2 u3 u4 u5 u6 : Value} {t : T} {ps : List (Opn × Value)} {xs : List Value} {cs : Array Value} (hbw : Bk w rb 43 cs) (hr : Rdr w base F (.slice (some ⟨bg, 0, none⟩) (ps.length + 1) cap) ((o, sl) :: ps)) (hit : Its w F o.items xs)
    (ht : TV w F t slt) (h0 : Only [] w wA) (k3 : Only sl.ownBlock.toList wA w1) (hat : sl.ownBlock = some g ∨ g = wA.heap.size) (hrb : rb < base)
    (hb : Only [rb, bg, g] w1 w2 ∧ Bk w2 rb 43 (rcs 2 (.slice (some ⟨bg, 0, none⟩) (ps.length + 1) cap) u0 u1 u2 u3 u4 u5 u6) ∧ w2.ownsRow base 27 7 (.slice (some ⟨g, 0, none⟩) (o.items.length + 1) cap') (o.items.length + 1) (xs ++ (t.cs slt).toList) ∧
      w2.ownsRow base 27 7 (.slice (some ⟨bg, 0, none⟩) (ps.length + 1) cap) (ps.length + 1) (ocs ps ++ (tcs o.k 0 0 0 ⟨#[]⟩ 0 0 (.slice (some ⟨g, 0, none⟩) (o.items.length + 1) cap')).toList)) :
    Low base rb w w2 ∧ Bk w2 rb 43 (rcs 2 (.slice (some ⟨bg, 0, none⟩) (ps.length + 1) cap) u0 u1 u2 u3 u4 u5 u6) ∧ ∃ sl', Rdr w2 base F (.slice (some ⟨bg, 0, none⟩) (ps.length + 1) cap) ((⟨o.k, o.items ++ [t]⟩, sl') :: ps) := by
  obtain ⟨o2, b2, r2, r3⟩ := hb
  have hx := hr.each (o, sl) (by simp)
  obtain ⟨ys, hx, _⟩ := hx
  have h1 : Only (rb :: bg :: g :: sl.ownBlock.toList) w w2 := ((h0.more (by simp)).trans k3 (fun i hi => .inl (by simp at hi ⊢; exact .inr (.inr (.inr hi))))).trans o2 (fun i hi => .inl (by simp at hi ⊢; omega))
  have hg : sl.ownBlock = some g ∨ w.heap.size ≤ g := by
    rcases hat with h | h
    · exact .inl h
    · exact .inr (by rw [h]; exact h0.size)
  refine ⟨⟨_, h1, fun b hb => ?_, fun b hb hlt => ?_⟩, b2, _, Rdr.lay (S := rb :: bg :: sl.ownBlock.toList) (g := g) hr ht hit (h1.more fun i hi => ?_) (fun b hb => ?_) hg rfl r2 r3⟩
  · rcases List.mem_cons.1 hb with rfl | hb
    · exact .inl rfl
    rcases List.mem_cons.1 hb with rfl | hb
    · exact .inr (Row.block r3 (g := b) rfl).1
    rcases List.mem_cons.1 hb with rfl | hb
    · exact .inr (Row.block r2 (g := b) rfl).1
    · exact .inr (Row.block hx (g := b) (by simpa using hb)).1
  · rcases List.mem_cons.1 hb with rfl | hb
    · exact ⟨_, _, hbw⟩
    rcases List.mem_cons.1 hb with rfl | hb
    · exact Row.cells hr.row rfl
    rcases List.mem_cons.1 hb with rfl | hb
    · rcases hg with hg | hg
      · exact Row.cells hx hg
      · omega
    · exact Row.cells hx (g := b) (by simpa using hb)
  · rcases List.mem_cons.1 hi with rfl | hi
    · exact .inl (by simp)
    rcases List.mem_cons.1 hi with rfl | hi
    · exact .inl (by simp)
    rcases List.mem_cons.1 hi with rfl | hi
    · rcases hg with hg | hg
      · exact .inl (by simp [hg])
      · exact .inr hg
    · exact .inl (by simp at hi ⊢; exact .inr (.inr hi))
  · rcases List.mem_cons.1 hb with rfl | hb
    · exact .inl hrb
    rcases List.mem_cons.1 hb with rfl | hb
    · exact .inr (.inr rfl)
    · exact .inr (.inl (by simpa using hb))
set_option maxHeartbeats 4000000 in
theorem put_top (w : World) (base rb : Nat) (F : Nat → Prop) (st : Int) (bg cap : Nat) (o : Opn) (sl B : _) (m' c' : Nat) (ps : List (Opn × Value)) (u0 u1 u2 u3 u4 u5 u6 : Value) (t : T)
    (hb : Bk w rb 43 (rcs st (.slice (some ⟨bg, 0, none⟩) (ps.length + 1) cap) u0 u1 u2 u3 u4 u5 u6)) (hr : Rdr w base F (.slice (some ⟨bg, 0, none⟩) (ps.length + 1) cap) ((o, sl) :: ps)) (ht : TV w F t (.slice B m' c'))
    (hl : o.items.length ≤ 262144) (hl2 : ps.length ≤ 262144) (hrb : rb < base) :
    Calls Tryz.prog 41 #[.pointer (some ⟨rb, 0, none⟩), .agg (tcs t.k t.n t.x t.y t.S t.a t.b (.slice B m' c'))] w fun e w' => e = .returned (.tuple #[]) ∧ Low base rb w w' ∧
      Bk w' rb 43 (rcs 2 (.slice (some ⟨bg, 0, none⟩) (ps.length + 1) cap) u0 u1 u2 u3 u4 u5 u6) ∧ ∃ sl', Rdr w' base F (.slice (some ⟨bg, 0, none⟩) (ps.length + 1) cap) ((⟨o.k, o.items ++ [t]⟩, sl') :: ps) := by
  obtain ⟨xs, hx, hit⟩ := hr.each (o, sl) (by simp)
  simp only at hx hit
  obtain ⟨A, c, rfl⟩ : ∃ A c, sl = .slice A o.items.length c := by
    rcases hx.2 with ⟨h, h0⟩ | ⟨g, cap, cur, h, _⟩
    · exact ⟨none, 0, by rw [h, h0]⟩
    · exact ⟨_, _, h⟩
  have rs := store_com
  have HB := Lib.hid hb
  have HR := Lib.hid hr
  have HI := Lib.hid hit
  have HT := Lib.hid ht
  have HX := Lib.hid hx
  have hap : (Value.slice A o.items.length c).ownBlock ≠ some bg := fun e => (List.pairwise_cons.1 hr.apart).1 _ (by simp) bg rfl e
  have hrow : w.ownsRow base 27 7 (.slice (some ⟨bg, 0, none⟩) (ps.length + 1) cap) (ps.length + 1) (ocs ps ++ (tcs o.k 0 0 0 ⟨#[]⟩ 0 0 (.slice A o.items.length c)).toList) := hr.row
  have HRW := Lib.hid hrow
  have c1a : ∀ o1, (w.alloc o1).cell? ⟨rb, 1, none⟩ = some (.slice (some ⟨bg, 0, none⟩) (ps.length + 1) cap) := fun o1 => (hb.alloc o1).cell0 rfl
  have hbgL : (ocs ps ++ (tcs o.k 0 0 0 ⟨#[]⟩ 0 0 (.slice A o.items.length c)).toList)[ps.length * 7 + 6]? = some (.slice A o.items.length c) := by
    rw [List.getElem?_append_right (by rw [ocs_len]; omega), ocs_len, show ps.length * 7 + 6 - ps.length * 7 = 6 by omega]
    rfl
  have L1 : ∀ o1, (w.alloc o1).cell? ⟨bg, ps.length * 7 + 6, none⟩ = some (.slice A o.items.length c) := fun o1 => Row.cell (Row.alloc hrow o1) _ _ hbgL
  have L2 : ∀ o1 o2, ((w.alloc o1).alloc o2).cell? ⟨bg, ps.length * 7 + 6, none⟩ = some (.slice A o.items.length c) := fun o1 o2 => Row.cell (Row.alloc (Row.alloc hrow o1) o2) _ _ hbgL
  have R1 : ∀ o1 o2, ((w.alloc o1).alloc o2).ownsRow base 27 7 (.slice A o.items.length c) o.items.length xs := fun o1 o2 => Row.alloc (Row.alloc hx o1) o2
  have R2 : ∀ o1 o2, ((w.alloc o1).alloc o2).ownsRow base 27 7 (.slice (some ⟨bg, 0, none⟩) (ps.length + 1) cap) (ps.length + 1) (ocs ps ++ (tcs o.k 0 0 0 ⟨#[]⟩ 0 0 (.slice A o.items.length c)).toList) := fun o1 o2 => Row.alloc (Row.alloc hrow o1) o2
  have hbz : ∀ o1 o2, base ≤ ((w.alloc o1).alloc o2).heap.size := fun o1 o2 => by have := hr.le; simp; omega
  have TB := Lib.hid ((Bk.made w 27 (tcs t.k t.n t.x t.y t.S t.a t.b (.slice B m' c'))))
  obtain ⟨t0, t1, t2, t3, t4, t5, t6⟩ := sevenA TB.out
  obtain ⟨i, hi, hz, hz1, hz2⟩ := info_parts info_term
  have h63 : o.items.length + 1 ≤ maxLen := by unfold maxLen; omega
  have q1 : ((o.items.length : Int) < (o.items.length : Int) + 1) := by omega
  have q2 : ((ps.length : Int) < (ps.length : Int) + 1) := by omega
  have q3 : wrap64 (ps.length : Int) = (ps.length : Int) := wrap64_in (by omega) (by omega)
  have q4 : ((ps.length : Int) + 1 == 0) = false := by simp; omega
  have hne : rb ≠ bg := by have := (Row.block hrow (g := bg) rfl).1; omega
  clear hb hr hit ht hx hrow hbgL
  go_enter Tryz.func41, Tryz.ntmps41
  go_wp2_with fail
  go_region
  have HXS := Lib.hid HX.out.1
  have HZ0 := Lib.hid (((Only.refl [] w).alloc (.cells (tcs t.k t.n t.x t.y t.S t.a t.b (.slice B m' c')) 27)).alloc (.cells Z7' 27)).drew.drew
  go_wp2_with fail
  go_region_law ((refine step_append_lies _ (by rfl) _ _ _ (by rfl) base 27 i _ 7 88 Tryz.underlying25 hi hz hz1 hz2 rfl (by omega) _ o.items.length xs (by rfl) (Row.drew (Row.drew (R1 _ _))) _ 1 1 Z7'.toList (by rfl) rfl (World.news_of_block (Bk.madeAt (w := w.alloc (.cells (tcs t.k t.n t.x t.y t.S t.a t.b (.slice B m' c')) 27)) (b := w.heap.size + 1) (by simp))) (by decide) (by omega) h63 (by omega) (hbz _ _) _ rfl ?_; intro g cap' w1 hown hgrow hat hlt; obtain ⟨k0, k1, k1b, k2, k3, k4, k5, ⟨zL, xL⟩, k6⟩ := put_facts ((HB.out.alloc _).alloc _).drew.drew (Row.drew (Row.drew (R2 _ _))) (Row.drew (Row.drew (R1 _ _))) hap hrb hown hgrow hat; obtain ⟨z0, x0⟩ := k4 0 (by omega); obtain ⟨z1, x1⟩ := k4 1 (by omega); obtain ⟨z2, x2⟩ := k4 2 (by omega); obtain ⟨z3, x3⟩ := k4 3 (by omega); obtain ⟨z4, x4⟩ := k4 4 (by omega); obtain ⟨z5, x5⟩ := k4 5 (by omega); obtain ⟨z6, x6⟩ := k4 6 (by omega); simp only [Nat.add_zero] at x0; obtain ⟨d0, d1, d2, d3, d4, d5, d6, d7, d8⟩ := k0.nine; have df := k0.free; have K0 := Lib.hid k0; have K3 := Lib.hid k3; have HO := Lib.hid hown; have K6 := Lib.hid k6; clear k0 k4 k6))
  all_goals
    go_wp2_with fail
    refine bodyPost_end (v := .tuple #[]) (by simp [results, Tryz.results41, go_sem]) rfl ⟨rfl, put_end1 (cap' := cap') HB.out HR.out HI.out HT.out HZ0.out K3.out hat hrb ?_⟩
    first
      | exact put_a K0.out k1 k1b hne HO.out K6.out HXS.out (ocs_len ps) rfl (by with_reducible rfl)
      | exact put_b K0.out k1 k1b hne HO.out K6.out HXS.out (ocs_len ps) rfl (by with_reducible rfl)
end Go.Proofs.YtlpafnibcmcjgaaGreatDoor
