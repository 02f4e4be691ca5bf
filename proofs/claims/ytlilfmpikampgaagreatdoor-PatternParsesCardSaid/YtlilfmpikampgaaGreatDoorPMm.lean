/- text: reader.answer. The reader's state lies on where blocks turn that are none of cells: the iterator's, the loop's. -/
import Derived.Test.YtlilfmpikampgaaGreatDoorPMk
namespace Go.Proofs.YtlilfmpikampgaaGreatDoor
open Go.RowKit

set_option maxHeartbeats 2000000 in
theorem answer_any (w : World) (base rb : Nat) (t : T) (hh : Holds w base rb (.whole t)) (hg : t.Good) :
    Calls Tryz.prog 86 #[.pointer (some ⟨rb, 0, none⟩)] w fun e w' => ∃ sl F, (∀ b, F b → base ≤ b ∧ b < w'.heap.size) ∧ TV w' F t sl ∧ e = .returned (.tuple #[.agg (if chk t = 0 then tcs t.k t.n t.x t.y t.S t.a t.b sl else Z7), .int .i64 (chk t)]) ∧ Only [] w w' := by
  obtain ⟨F, A, n, cap, sl, hb, ht, hF⟩ := hh
  have rs := store_com
  have hFb : ∀ b, F b → b < w.heap.size := fun b h => (hF b h).2
  have C := Lib.hid (show ∀ o1, Calls Tryz.prog 27 #[.agg #[.int .i64 t.k, .int .i64 t.n, .complex .f64 t.x t.y, .string t.S, .int .i64 t.a, .int .i64 t.b, sl]] (w.alloc o1) fun e w' => e = .returned (.int .i64 (chk t)) ∧ Only [] (w.alloc o1) w' from fun o1 =>
    check_any t hg sl F _ (ht.same ((Only.refl [] w).alloc o1)) (fun b h => Nat.lt_of_lt_of_le (hFb b h) (by simp)))
  obtain ⟨B, m, c, rfl⟩ := ht.slice
  have c0 := fun o => ((hb.alloc o).nine).1
  have c1 := fun o => ((hb.alloc o).nine).2.2.1
  have c2 := fun o => ((hb.alloc o).nine).2.2.2.1
  have c3 := fun o => ((hb.alloc o).nine).2.2.2.2.1
  have c4 := fun o => ((hb.alloc o).nine).2.2.2.2.2.1
  have c5 := fun o => ((hb.alloc o).nine).2.2.2.2.2.2.1
  have c6 := fun o => ((hb.alloc o).nine).2.2.2.2.2.2.2.1
  have c7 := fun o => ((hb.alloc o).nine).2.2.2.2.2.2.2.2
  have B0 := Lib.hid (Bk.made w 27 Z7)
  have HB := Lib.hid (hb.alloc (.cells Z7 27))
  have HT := Lib.hid ht
  have HF := Lib.hid hF
  clear hb ht hF hFb
  obtain ⟨r, hr⟩ : ∃ r, chk t = r := ⟨_, rfl⟩
  rw [hr] at C ⊢
  by_cases h0 : r = 0
  · subst h0
    simp only [eq_self, if_true]
    clear hr
    go_enter Tryz.func86, Tryz.ntmps86
    go_wp2_with fail
    (with_reducible refine (C.out _).mono ?_)
    rintro e w1 ⟨rfl, o1⟩
    obtain ⟨d0, d1, d2, d3, d4, d5, d6, d7, d8⟩ := (HB.out.only o1 (by simp)).nine
    obtain ⟨z0, z1, z2, z3, z4, z5, z6⟩ := (B0.out.only o1 (by simp)).seven
    have zf := (B0.out.only o1 (by simp)).free
    have O1 := Lib.hid (((Only.refl [] w).alloc (.cells Z7 27)).trans o1 (by simp))
    clear o1
    go_wp2_with fail
    refine bodyPost_ret (v := .tuple #[.agg (tcs t.k t.n t.x t.y t.S t.a t.b (.slice B m c)), .int .i64 0]) (by simp [results, Tryz.results86, go_sem, z0, z1, z2, z3, z4, z5, z6]) rfl ?_
    have O7 := Only.set7 (v0 := .int .i64 t.k) (v1 := .int .i64 t.n) (v2 := .complex .f64 t.x t.y) (v3 := .string t.S) (v4 := .int .i64 t.a) (v5 := .int .i64 t.b) (v6 := .slice B m c) O1.out (Nat.le_refl _)
    exact ⟨_, F, fun b h => ⟨(HF.out b h).1, Nat.lt_of_lt_of_le (HF.out b h).2 O7.size⟩, HT.out.same O7, rfl, O7⟩
  · have e0 : (r == 0) = false := by simpa using h0
    simp only [if_neg h0]
    clear hr
    go_enter Tryz.func86, Tryz.ntmps86
    go_wp2_with fail
    (with_reducible refine (C.out _).mono ?_)
    rintro e w1 ⟨rfl, o1⟩
    obtain ⟨z0, z1, z2, z3, z4, z5, z6⟩ := (B0.out.only o1 (by simp)).seven
    have zf := (B0.out.only o1 (by simp)).free
    have O1 := Lib.hid (((Only.refl [] w).alloc (.cells Z7 27)).trans o1 (by simp))
    clear o1
    go_wp2_with fail
    refine bodyPost_ret (v := .tuple #[.agg Z7, .int .i64 r]) (by simp [results, Tryz.results86, go_sem, z0, z1, z2, z3, z4, z5, z6]) rfl ?_
    have O7 := Only.set7 (v0 := .int .i64 0) (v1 := .int .i64 0) (v2 := .complex .f64 0 0) (v3 := .string ⟨#[]⟩) (v4 := .int .i64 0) (v5 := .int .i64 0) (v6 := .slice none 0 0) O1.out (Nat.le_refl _)
    exact ⟨_, F, fun b h => ⟨(HF.out b h).1, Nat.lt_of_lt_of_le (HF.out b h).2 O7.size⟩, HT.out.same O7, rfl, O7⟩
end Go.Proofs.YtlilfmpikampgaaGreatDoor

namespace Go.Proofs.YtlilfmpikampgaaGreatDoor
open Go.RowKit

/-- No block of cells. -/
def NoCells (w : World) (r : Nat) : Prop := ∀ cs t fz, w.heap[r]? ≠ some (.cells cs t fz)
theorem NoCells.none {w : World} {r : Nat} (h : NoCells w r) (i : Nat) : w.cell? ⟨r, i, none⟩ = none := by
  unfold World.cell?
  cases hb : w.heap[r]? with
  | none => simp
  | some o =>
    cases o with
    | cells cs t fz => exact absurd hb (h cs t fz)
    | _ => simp
theorem TV.other {r : Nat} {w w' : World} {F : Nat → Prop} (o : Only [r] w w') (hn : NoCells w r) (t : T) : ∀ sl, TV w F t sl → TV w' F t sl := by
  refine T.ind (P := fun t => ∀ sl, TV w F t sl → TV w' F t sl) (fun t ht sl h => (TV.leaf ht).2 ((TV.leaf ht).1 h)) (fun k l ih sl h => ?_) t
  simp only [TV] at h ⊢
  obtain ⟨A, cap, h1, h2, h3, h4⟩ := h
  refine ⟨A, cap, h1, h2, h3, ?_⟩
  rcases h4 with h4 | ⟨bl, off, h5, h6, h7, h8⟩
  · exact .inl h4
  · cases l with
    | nil => exact .inl rfl
    | cons t0 l =>
      refine .inr ⟨bl, off, h5, Nat.lt_of_lt_of_le h6 o.size, h7, ?_⟩
      rw [TVs.iff] at h8 ⊢
      have hne : bl ≠ r := by
        rintro rfl
        obtain ⟨sl', h9, h10⟩ := h8 0 t0 rfl
        have := h10 0 _ rfl
        rw [hn.none] at this
        cases this
      intro i u hu
      obtain ⟨sl', h9, h10⟩ := h8 i u hu
      exact ⟨sl', ih u (List.mem_of_getElem? hu) sl' h9, fun j v hv => (o.cell (p := ⟨bl, off + 7 * i + j, none⟩) h6 (by simpa using hne)).trans (h10 j v hv)⟩
theorem Row.other {r : Nat} {w w' : World} {base : Nat} {e : TypeId} {size : Nat} {v : Value} {n : Nat} {xs : List Value} (h : w.ownsRow base e size v n xs) (o : Only [r] w w') (hn : NoCells w r) : w'.ownsRow base e size v n xs := by
  refine Row.only h o fun g hg hm => ?_
  have : g = r := by simpa using hm
  subst this
  rcases h.2 with ⟨hv, _⟩ | ⟨g', cap, cur, hv, hb, hg', _⟩
  · rw [hv] at hg; cases hg
  · rw [hv] at hg
    injection hg with hg
    subst hg
    exact hn _ _ _ hg'
theorem Rdr.other {r : Nat} {w w' : World} {base : Nat} {F : Nat → Prop} {bv : Value} {ps : List (Opn × Value)} (h : Rdr w base F bv ps) (o : Only [r] w w') (hn : NoCells w r) : Rdr w' base F bv ps := by
  refine ⟨Nat.le_trans h.le o.size, fun b hb => ⟨(h.fr b hb).1, Nat.lt_of_lt_of_le (h.fr b hb).2 o.size⟩, Row.other h.row o hn, fun p hp => ?_, h.apart, h.free⟩
  obtain ⟨xs, h1, h2⟩ := h.each p hp
  exact ⟨xs, Row.other h1 o hn, Its.move (fun t sl => TV.other o hn t sl) h2⟩
theorem Holds.other {r : Nat} {w w' : World} {base rb : Nat} {σ : MS} (h : Holds w base rb σ) (o : Only [r] w w') (hn : NoCells w r) : Holds w' base rb σ := by
  cases σ with
  | whole t =>
    obtain ⟨F, A, n, cap, sl, hb, ht, hF⟩ := h
    have hne : rb ≠ r := by rintro rfl; exact hn _ _ _ hb
    exact ⟨F, A, n, cap, sl, hb.only o (by simpa using hne), TV.other o hn t _ ht, fun b hb => ⟨(hF b hb).1, Nat.lt_of_lt_of_le (hF b hb).2 o.size⟩⟩
  | go stk md =>
    obtain ⟨hm, F, bv, ps, u0, u1, u2, u3, u4, u5, u6, e, hb, hr⟩ := h
    have hne : rb ≠ r := by rintro rfl; exact hn _ _ _ hb
    exact ⟨hm, F, bv, ps, u0, u1, u2, u3, u4, u5, u6, e, hb.only o (by simpa using hne), hr.other o hn⟩
theorem Holds.same {w w' : World} {base rb : Nat} {σ : MS} (h : Holds w base rb σ) (o : Only [] w w') : Holds w' base rb σ := by
  refine Holds.other (r := w.heap.size) h (o.more (by simp)) fun cs t fz e => ?_
  rw [Array.getElem?_eq_none (Nat.le_refl _)] at e
  cases e
end Go.Proofs.YtlilfmpikampgaaGreatDoor
