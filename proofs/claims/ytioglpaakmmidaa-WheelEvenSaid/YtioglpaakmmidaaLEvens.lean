/- The law WheelEvens, walked. -/
import Derived.Test.YtioglpaakmmidaaWMark
import Derived.Test.YtioglpaakmmidaaWAwake
namespace Go.Proofs.Ytioglpaakmmidaa
open Go.RowKit

instance (W : Cred) : Decidable (OkW W) := decidable_of_iff (1 ≤ W 0 ∧ 1 ≤ W 1 ∧ 1 ≤ W 2 ∧ W 0 + W 1 + W 2 ≤ 64) ⟨fun ⟨a, b, c, d⟩ => ⟨a, b, c, d⟩, fun ⟨a, b, c, d⟩ => ⟨a, b, c, d⟩⟩
def evL (W : Cred) : List Int := if OkW W then evs W (allW W) (allW W) else []
def evE (W : Cred) : Int := if OkW W then 0 else 1
theorem evL_len (W : Cred) : (evL W).length ≤ 64 := by
  unfold evL
  split
  · rename_i ok
    rw [evs_len]
    exact ok.all.2.2
  · simp
/-- Even, whatever the weights: a full slice of the call's own, or nil. -/
theorem even_fu (W : Cred) (w : World) : Calls Try.prog 21 #[.agg (c3 W)] w fun e w' =>
    ∃ A, e = .returned (.tuple #[.slice A (evL W).length (evL W).length, .int .i64 (evE W)]) ∧ Fu w' A (evL W) ∧ (∀ g, A = some ⟨g, 0, none⟩ → w.heap.size ≤ g) ∧ Only [] w w' := by
  by_cases ok : OkW W
  · have e1 : evL W = evs W (allW W) (allW W) := if_pos ok
    have e2 : evE W = 0 := if_pos ok
    refine (even_yes W w ok).mono fun e w' => ?_
    rintro ⟨g, he, hb, hg, ho⟩
    refine ⟨some ⟨g, 0, none⟩, ?_, .inr ⟨g, rfl, by rw [e1]; exact hb⟩, fun g' e => ?_, ho⟩
    · rw [e1, e2, evs_len]; exact he
    · injection e with e
      injection e with e
      omega
  · have e1 : evL W = [] := if_neg ok
    have e2 : evE W = 1 := if_neg ok
    refine (even_no W w ok).mono fun e w' => ?_
    rintro ⟨he, ho⟩
    exact ⟨none, by rw [e1, e2]; exact he, .inl ⟨rfl, e1⟩, (fun g e => by cases e), ho⟩
theorem reven_rd (W : Cred) (w : World) : Calls Try.prog 22 #[.agg (c3 W)] w fun e w' =>
    ∃ A cap, e = .returned (.tuple #[.slice A (evL W).length cap, .int .i64 (evE W)]) ∧ Rd w' A (evL W) ∧ (∀ bl off, A = some ⟨bl, off, none⟩ → w.heap.size ≤ bl) ∧ Only [] w w' := by
  by_cases ok : OkW W
  · have e1 : evL W = evs W (allW W) (allW W) := if_pos ok
    have e2 : evE W = 0 := if_pos ok
    refine (reven_yes W w ok).mono fun e w' => ?_
    rintro ⟨A, cap, he, hb, hg, ho⟩
    exact ⟨A, cap, by rw [e1, e2, evs_len]; exact he, by rw [e1]; exact hb, hg, ho⟩
  · have e1 : evL W = [] := if_neg ok
    have e2 : evE W = 1 := if_neg ok
    refine (reven_no W w ok).mono fun e w' => ?_
    rintro ⟨he, ho⟩
    exact ⟨none, 0, by rw [e1, e2]; exact he, by rw [e1]; exact Rd.nil _ _, (fun bl off e => by cases e), ho⟩

/-- What the law holds: five lists, apart in memory. -/
structure Five (w wr : World) (Aa Ab Aw Au Av : Option Addr) (sb su sv : Nat) (La L Lu : List Int) : Prop where
  a : Fu wr Aa La
  b : Fu wr Ab L
  t : Rd wr Aw L
  u : Fu wr Au Lu
  v : Fu wr Av usual7
  o : Only [] w wr
  a0 : ∀ g, Aa = some ⟨g, 0, none⟩ → w.heap.size ≤ g ∧ g < sb
  b0 : ∀ g, Ab = some ⟨g, 0, none⟩ → sb ≤ g ∧ g < su
  t0 : ∀ bl off, Aw = some ⟨bl, off, none⟩ → sb ≤ bl
  t1 : ∀ bl off, L ≠ [] → Aw = some ⟨bl, off, none⟩ → bl < su
  u0 : ∀ g, Au = some ⟨g, 0, none⟩ → su ≤ g ∧ g < sv
  v0 : ∀ g, Av = some ⟨g, 0, none⟩ → sv ≤ g
  s0 : w.heap.size ≤ sb
  s1 : sb ≤ su
  s2 : su ≤ sv
section
variable {w wr w' : World} {Aa Ab Aw Au Av : Option Addr} {sb su sv : Nat} {La L Lu M : List Int}
theorem Five.quiet (f : Five w wr Aa Ab Aw Au Av sb su sv La L Lu) (o : Only [] wr w') : Five w w' Aa Ab Aw Au Av sb su sv La L Lu :=
  ⟨f.a.only o (by simp), f.b.only o (by simp), f.t.only o (by simp), f.u.only o (by simp), f.v.only o (by simp), f.o.trans o (by simp), f.a0, f.b0, f.t0, f.t1, f.u0, f.v0, f.s0, f.s1, f.s2⟩
theorem Five.markA (f : Five w wr Aa Ab Aw Au Av sb su sv La L Lu) (h : Fu w' Aa M) (o : Only (blk Aa) wr w') : Five w w' Aa Ab Aw Au Av sb su sv M L Lu := by
  have key : ∀ g, g ∈ blk Aa → w.heap.size ≤ g ∧ g < sb := by
    intro g hg
    rcases f.a with ⟨e, _⟩ | ⟨g', e, _⟩
    · rw [e] at hg; simp [blk] at hg
    · rw [e] at hg
      have : g = g' := by simpa [blk] using hg
      subst this
      exact f.a0 g e
  have h1 := f.s1
  have h2 := f.s2
  refine ⟨h, f.b.only o (fun g hg hm => ?_), f.t.only o (fun _ bl off hg hm => ?_), f.u.only o (fun g hg hm => ?_), f.v.only o (fun g hg hm => ?_), f.o.trans o (fun g hg => .inr (key g hg).1), f.a0, f.b0, f.t0, f.t1, f.u0, f.v0, f.s0, f.s1, f.s2⟩
  · have := key g hm; have := f.b0 g hg; omega
  · have := key bl hm; have := f.t0 bl off hg; omega
  · have := key g hm; have := f.u0 g hg; omega
  · have := key g hm; have := f.v0 g hg; omega
theorem Five.markU (f : Five w wr Aa Ab Aw Au Av sb su sv La L Lu) (h : Fu w' Au M) (o : Only (blk Au) wr w') : Five w w' Aa Ab Aw Au Av sb su sv La L M := by
  have key : ∀ g, g ∈ blk Au → su ≤ g ∧ g < sv := by
    intro g hg
    rcases f.u with ⟨e, _⟩ | ⟨g', e, _⟩
    · rw [e] at hg; simp [blk] at hg
    · rw [e] at hg
      have : g = g' := by simpa [blk] using hg
      subst this
      exact f.u0 g e
  have h0 := f.s0
  have h1 := f.s1
  have h2 := f.s2
  refine ⟨f.a.only o (fun g hg hm => ?_), f.b.only o (fun g hg hm => ?_), f.t.only o (fun hne bl off hg hm => ?_), h, f.v.only o (fun g hg hm => ?_), f.o.trans o (fun g hg => .inr (by have := key g hg; omega)), f.a0, f.b0, f.t0, f.t1, f.u0, f.v0, f.s0, f.s1, f.s2⟩
  · have := key g hm; have := f.a0 g hg; omega
  · have := key g hm; have := f.b0 g hg; omega
  · have := key bl hm; have := f.t1 bl off hne hg; omega
  · have := key g hm; have := f.v0 g hg; omega
end

theorem alike_yes {w : World} (A B : Option Addr) (xs : List Int) (ca cb : Nat) (ha : Rd w A xs) (hb : Rd w B xs) (h1 : xs.length ≤ 1000) :
    Calls Try.prog 24 #[.slice A xs.length ca, .slice B xs.length cb] w fun e w' => e = .returned (.bool true) ∧ Only [] w w' := by
  have h := alike_any A B xs xs ca cb ha hb (by omega) (by omega)
  rw [decide_eq_true rfl] at h
  exact h
theorem alike_usual {w : World} (A : Option Addr) (h : Rd w A usual7) : Calls Try.prog 24 #[.slice A 7 7, .slice (some ⟨w.heap.size, 0, none⟩) 7 7] (w.alloc (.cells (ics usual7) 3)) fun e w' => e = .returned (.bool true) ∧ Only [] w w' :=
  (alike_yes (w := w.alloc (.cells (ics usual7) 3)) A (some ⟨w.heap.size, 0, none⟩) usual7 7 7 (h.only ((Only.refl [] _).alloc _) (by simp)) (Rd.of_bk (Bk.made _ _ _)) (by decide)).mono fun _ _ ⟨h1, h2⟩ => ⟨h1, ((Only.refl [] _).alloc _).trans h2 (by simp)⟩

set_option maxHeartbeats 4000000 in
theorem evens_any (W : Cred) (w : World) :
    Calls Try.prog 5 #[.agg (c3 W)] w fun e w' => e = .returned (.bool true) ∧ Only [] w w' := by
  have K1 := fun wx => even_fu W wx
  have K3 := fun wx => reven_rd W wx
  obtain ⟨L, hL⟩ : ∃ L, L = evL W := ⟨_, rfl⟩
  obtain ⟨x, hx⟩ : ∃ x, x = evE W := ⟨_, rfl⟩
  have hlen := evL_len W
  rw [← hL] at hlen
  rw [← hL, ← hx] at K1 K3
  obtain ⟨n, hn⟩ : ∃ n, n = L.length := ⟨_, rfl⟩
  rw [← hn] at K1 K3 hlen
  have HN := Lib.hid hn
  have HB := Lib.hid (Bk.made w 35 (c3 W))
  have HO := Lib.hid ((Only.refl [] w).alloc (.cells (c3 W) 35))
  have t1 : (x != x) = false := bne_self_eq_false _
  simp only [c3] at K1 K3
  have HK1 := Lib.hid K1
  have HK3 := Lib.hid K3
  clear K1 K3 hL hx hn
  unfold c3
  go_enter Try.func5, Try.ntmps5
  go_wp2_with fail
  (with_reducible refine (HK1.out _).mono ?_)
  rintro e w1 ⟨Aa, rfl, fa, ga, o1⟩
  have O1 := Lib.hid (HO.out.trans o1 (by simp))
  have BB1 := Lib.hid (HB.out.only o1 (by simp))
  have FA := Lib.hid fa
  have GA := Lib.hid ga
  obtain ⟨c0, c1, c2⟩ := c3_cells BB1.out
  clear fa ga o1
  go_wp2_with fail
  (with_reducible refine (HK1.out _).mono ?_)
  rintro e w2 ⟨Ab, rfl, fb, gb, o2⟩
  have O2 := Lib.hid (O1.out.trans o2 (by simp))
  have BB2 := Lib.hid (BB1.out.only o2 (by simp))
  have FA2 := Lib.hid (FA.out.only o2 (by simp))
  have FB := Lib.hid fb
  have GA2 := Lib.hid (show ∀ g, Aa = some ⟨g, 0, none⟩ → w.heap.size ≤ g ∧ g < w1.heap.size from fun g hg => ⟨by have := GA.out g hg; simp at this; omega, FA.out.lt hg⟩)
  have GB := Lib.hid gb
  have hs12 := o2.size
  clear fb gb o2 c0 c1 c2
  obtain ⟨c0, c1, c2⟩ := c3_cells BB2.out
  go_wp2_with fail
  (with_reducible refine (HK3.out _).mono ?_)
  rintro e w3 ⟨At, capt, rfl, ft, gt, o3⟩
  have O3 := Lib.hid (O2.out.trans o3 (by simp))
  have FA3 := Lib.hid (FA2.out.only o3 (by simp))
  have FB3 := Lib.hid (FB.out.only o3 (by simp))
  have FT := Lib.hid ft
  have GT := Lib.hid gt
  have hs23 := o3.size
  clear ft gt o3 c0 c1 c2
  go_wp2_with fail
  (with_reducible refine (usual_any _).mono ?_)
  rintro e w4 ⟨gu, rfl, fu, hgu, o4⟩
  have O4 := Lib.hid (O3.out.trans o4 (by simp))
  have FA4 := Lib.hid (FA3.out.only o4 (by simp))
  have FB4 := Lib.hid (FB3.out.only o4 (by simp))
  have FT4 := Lib.hid (FT.out.only o4 (by simp))
  have FU4 := Lib.hid (show Fu w4 (some ⟨gu, 0, none⟩) usual7 from .inr ⟨gu, rfl, fu⟩)
  have hgu2 := fu.lt
  clear fu o4
  go_wp2_with fail
  (with_reducible refine (usual_any _).mono ?_)
  rintro e w5 ⟨gv, rfl, fv, hgv, o5⟩
  have F0 := Lib.hid (show Five w w5 Aa Ab At (some ⟨gu, 0, none⟩) (some ⟨gv, 0, none⟩) w1.heap.size w3.heap.size w4.heap.size L L usual7 from
    ⟨FA4.out.only o5 (by simp), FB4.out.only o5 (by simp), FT4.out.only o5 (by simp), FU4.out.only o5 (by simp), .inr ⟨gv, rfl, fv⟩, O4.out.trans o5 (by simp), GA2.out,
      fun g hg => ⟨GB.out g hg, FB3.out.lt hg⟩, fun bl off hg => by have := GT.out bl off hg; omega, fun bl off hne hg => by
        rcases FT.out with h | ⟨bl', off', e, hlt, _⟩
        · exact absurd h hne
        · rw [e] at hg
          injection hg with hg
          injection hg with hg
          omega, fun g hg => by
        injection hg with hg
        injection hg with hg
        omega, fun g hg => by
        injection hg with hg
        injection hg with hg
        omega, by have := O1.out.size; omega, by omega, by omega⟩)
  generalize w1.heap.size = sb at *
  generalize w3.heap.size = su at *
  generalize w4.heap.size = sv at *
  clear fv o5 O1 O2 O3 O4 FA2 FA3 FA4 FB FB3 FB4 FT FT4 FU4 GA2 GB GT BB1 BB2 FA GA HO HB HK1 HK3
  have K6 := alike_yes Aa At L n capt F0.out.a.rd F0.out.t (by have := HN.out; omega)
  rw [← HN.out] at K6
  have HK6 := Lib.hid K6
  clear K6 hgu hgu2 hgv hs12 hs23
  go_wp2_with fail
  (with_reducible refine HK6.out.mono ?_)
  rintro e w6 ⟨rfl, o6⟩
  have F6 := Lib.hid (F0.out.quiet o6)
  clear o6 F0 HK6
  go_wp2_with fail
  (with_reducible refine (rusual_any _).mono ?_)
  rintro e w7 ⟨rfl, hw7⟩
  have K8 := alike_usual (some ⟨gu, 0, none⟩) F6.out.u.rd
  rw [← hw7] at K8
  have HK8 := Lib.hid K8
  clear K8 hw7
  go_wp2_with fail
  (with_reducible refine HK8.out.mono ?_)
  rintro e w8 ⟨rfl, o8⟩
  have F8 := Lib.hid (F6.out.quiet o8)
  clear o8 F6 HK8
  have K9 := marked_any F8.out.a (by have := HN.out; omega) 1 (by decide)
  rw [← HN.out] at K9
  have HK9 := Lib.hid K9
  clear K9
  go_wp2_with fail
  (with_reducible refine HK9.out.mono ?_)
  rintro e w9 ⟨rfl, m9, o9⟩
  have F9 := Lib.hid (F8.out.markA m9 o9)
  clear o9 m9 F8 HK9
  have K10 := marked_any F9.out.u (by decide) 2 (by decide)
  have HK10 := Lib.hid (show Calls Try.prog 26 #[.slice (some ⟨gu, 0, none⟩) 7 7, .int .i64 2] w9 _ from K10)
  clear K10
  go_wp2_with fail
  (with_reducible refine HK10.out.mono ?_)
  rintro e w10 ⟨rfl, m10, o10⟩
  have F10 := Lib.hid (F9.out.markU m10 o10)
  clear o10 m10 F9 HK10
  have K11 := grown_any F10.out.a (by rw [List.length_replicate]; omega) 1 (by decide)
  rw [List.length_replicate] at K11
  have HK11 := Lib.hid K11
  clear K11
  go_wp2_with fail
  (with_reducible refine HK11.out.mono ?_)
  rintro e w11 ⟨rfl, o11⟩
  have F11 := Lib.hid (F10.out.quiet o11)
  clear o11 F10 HK11
  have K12 := grown_any F11.out.u (by decide) 2 (by decide)
  have HK12 := Lib.hid (show Calls Try.prog 27 #[.slice (some ⟨gu, 0, none⟩) 7 7, .int .i64 2] w11 _ from K12)
  clear K12
  go_wp2_with fail
  (with_reducible refine HK12.out.mono ?_)
  rintro e w12 ⟨rfl, o12⟩
  have F12 := Lib.hid (F11.out.quiet o12)
  clear o12 F11 HK12
  have HK13 := Lib.hid (bears_any Aa n n 1 F12.out.a.rd (by omega) (by decide))
  have HK14 := Lib.hid (bears_any (some ⟨gu, 0, none⟩) 7 7 2 F12.out.u.rd (by decide) (by decide))
  go_wp2_with fail
  (with_reducible refine HK13.out.mono ?_)
  rintro e w13 ⟨rfl, rfl⟩
  go_wp2_with fail
  (with_reducible refine HK14.out.mono ?_)
  rintro e w14 ⟨rfl, rfl⟩
  have K15 := alike_yes Ab At L n capt F12.out.b.rd F12.out.t (by have := HN.out; omega)
  rw [← HN.out] at K15
  have HK15 := Lib.hid K15
  clear K15 HK13 HK14
  go_wp2_with fail
  (with_reducible refine HK15.out.mono ?_)
  rintro e w15 ⟨rfl, o15⟩
  have F15 := Lib.hid (F12.out.quiet o15)
  clear o15 F12 HK15
  go_wp2_with fail
  (with_reducible refine (rusual_any _).mono ?_)
  rintro e w16 ⟨rfl, hw16⟩
  have K17 := alike_usual (some ⟨gv, 0, none⟩) F15.out.v.rd
  rw [← hw16] at K17
  have HK17 := Lib.hid K17
  clear K17 hw16
  go_wp2_with fail
  (with_reducible refine HK17.out.mono ?_)
  rintro e w17 ⟨rfl, o17⟩
  have O17 := Lib.hid (F15.out.o.trans o17 (by simp))
  clear o17 F15 HK17
  go_wp2_with fail
  (with_reducible refine (usual_any _).mono ?_)
  rintro e w18 ⟨g18, rfl, f18, _, o18⟩
  have O18 := Lib.hid (O17.out.trans o18 (by simp))
  have F18 := Lib.hid f18
  clear f18 o18 O17
  go_wp2_with fail
  (with_reducible refine (rusual_any _).mono ?_)
  rintro e w19 ⟨rfl, hw19⟩
  have K20 := alike_usual (some ⟨g18, 0, none⟩) (Rd.of_bk F18.out)
  rw [← hw19] at K20
  have HK20 := Lib.hid K20
  clear K20 hw19
  go_wp2_with fail
  (with_reducible refine HK20.out.mono ?_)
  rintro e w20 ⟨rfl, o20⟩
  have O20 := Lib.hid (O18.out.trans o20 (by simp))
  clear o20 F18 HK20 O18
  go_wp2_with fail
  (with_reducible refine (awake_any _).mono ?_)
  rintro e w21 ⟨rfl, o21⟩
  have O21 := Lib.hid (O20.out.trans o21 (by simp))
  clear o21
  go_wp2_with fail
  go_ret
  exact ⟨rfl, O21.out⟩
end Go.Proofs.Ytioglpaakmmidaa
