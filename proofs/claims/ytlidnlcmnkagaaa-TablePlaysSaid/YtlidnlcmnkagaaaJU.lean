/- The law's told: all that a table tells is the document's. -/
import Derived.Test.YtlidnlcmnkagaaaJT
import Derived.Test.YtlidnlcmnkagaaaJ8
import Derived.Test.YtlidnlcmnkagaaaJM
import Derived.Test.YtlidnlcmnkagaaaMf
import Derived.Test.YtlidnlcmnkagaaaSp
import Derived.Test.YtlidnlcmnkagaaaCm
namespace Go.Proofs.Ytlidnlcmnkagaaa
open Go.RowKit
set_option maxRecDepth 20000

set_option maxHeartbeats 4000000 in
theorem told_no {W w : World} {pb i : Nat} {C : Cl} {D : Nat → Gh} {L : List Pd} (P : PR W pb C D L w) (hi : i < 3) (hh : C.h i = false) :
    Calls Try.prog 8 #[ptA pb, .int .i64 (i : Int)] w fun e w' => e = .returned (.bool true) ∧ Only [] w w' := by
  obtain ⟨t0, -, -, -, -, t1⟩ := play_at P.blk hi
  have K1 := Lib.hid (live_nil w)
  have K2 := Lib.hid (gens_nil w)
  have K3 := Lib.hid (copy_nil w)
  rcases P.sd i hi with ⟨-, e, -⟩ | ⟨h1, -⟩
  case inr => rw [hh] at h1; cases h1
  rw [e] at t0
  rw [hh] at t1
  have pi : (i : Int) < 3 := by omega
  have pi0 : (0 : Int) ≤ (i : Int) := by omega
  clear P e
  go_enter Try.func8, Try.ntmps8
  go_wp2_with fail
  (with_reducible refine K1.out.mono ?_)
  rintro e w1 ⟨rfl, rfl⟩
  go_wp2_with fail
  (with_reducible refine K2.out.mono ?_)
  rintro e w1 ⟨rfl, rfl⟩
  go_wp2_with fail
  (with_reducible refine K3.out.mono ?_)
  rintro e w1 ⟨rfl, rfl⟩
  go_wp2_with fail
  go_ret
  exact ⟨rfl, Only.refl _ _⟩

theorem OwnS.rd' {α : Type} {K : Sk α} {W : World} {base : Nat} {B : Option Addr} {n c : Nat} {l : List α} (ho : OwnS K W base (.slice B n c) l) : RdS K W B l := by
  obtain ⟨D, e', e, -, -, hr, -⟩ := ho.form
  injection e with e
  subst e
  exact hr
/-- A block behind a row of the call's own that has no room left. -/
theorem OwnS.full {α : Type} {K : Sk α} {w : World} {base g n : Nat} {xs : List α} (h : OwnS K w base (.slice (some ⟨g, 0, none⟩) n n) xs) : ∃ cur, Bk w g K.e cur ∧ cur.toList = xs.flatMap K.enc := by
  obtain ⟨A, cap', e, -, -, -, -⟩ := h.form
  injection e with e1 e2 e3
  obtain ⟨cur, h1, h2, h3⟩ := h.cur
  refine ⟨cur, h1, ?_⟩
  rw [← h3, List.take_of_length_le]
  rw [Array.length_toList, h2, e2]
  exact Nat.le_refl _
theorem ics_flat (xs : List Int) : (ics xs).toList = xs.flatMap KI.enc := by
  induction xs with
  | nil => rfl
  | cons x r ih => simp only [ics, List.map_cons, List.flatMap_cons] at ih ⊢; rw [← ih]; rfl
theorem gens_bk {w : World} {base g n : Nat} {xs : List Int} (h : OwnS KI w base (.slice (some ⟨g, 0, none⟩) n n) xs) : Bk w g 3 (ics xs) := by
  obtain ⟨cur, h1, h2⟩ := h.full
  have : cur = ics xs := Array.toList_inj.1 (h2.trans (ics_flat xs).symm)
  rw [← this]
  exact h1
/-- Where told's loop stands: what was handed out is written over, one pid behind the other. -/
structure TdS (w : World) (pb : Nat) (C : Cl) (b g m k : Nat) (T : List Pl) (v1 v2 v3 : Value) (gg : Nat) (vl : Value) (xs : List Pd) (wr : World) : Prop where
  blk : Bk wr pb tyP (playC C)
  t : TRep wr b g m k T
  r : RT wr v1 v2 v3 T
  gs : Bk wr gg 3 (ics (hads T))
  gl : w.heap.size ≤ gg
  l : OwnS KP wr w.heap.size vl xs
  o : Only [] w wr
section
variable {w wr wr' : World} {pb : Nat} {C : Cl} {b g m k : Nat} {T : List Pl} {v1 v2 v3 : Value} {gg : Nat} {vl : Value} {xs : List Pd}
theorem TdS.only (u : TdS w pb C b g m k T v1 v2 v3 gg vl xs wr) (o : Only [] wr wr') : TdS w pb C b g m k T v1 v2 v3 gg vl xs wr' :=
  ⟨u.blk.only o (by simp), u.t.only o (by simp) (by simp) (by simp), u.r.only o rfl, u.gs.only o (by simp), u.gl, u.l.only o (by simp), u.o.trans o (by simp)⟩
theorem kpint : KP.e ≠ 3 := by decide +kernel
theorem TdS.set {d n c : Nat} (u : TdS w pb C b g m k T v1 v2 v3 gg (.slice (some ⟨d, 0, none⟩) n c) xs wr) {j : Nat} {x : Pd} (hx : xs[j]? = some x) (y : Pd) :
    TdS w pb C b g m k T v1 v2 v3 gg (.slice (some ⟨d, 0, none⟩) n c) (xs.set j y) ((wr.setCell ⟨d, j * 2, none⟩ (.int .i64 y.n)).setCell ⟨d, j * 2 + 1, none⟩ (.int .i64 y.g)) := by
  have o : Only [d] wr ((wr.setCell ⟨d, j * 2, none⟩ (.int .i64 y.n)).setCell ⟨d, j * 2 + 1, none⟩ (.int .i64 y.g)) := ((Only.refl [d] wr).set (.inl (by simp)) _).set (.inl (by simp)) _
  obtain ⟨cur, hc⟩ := u.l.obj
  obtain ⟨n1, n2, n3⟩ := u.t.beside u.l kp1' kp2'
  have n4 := u.l.apartB u.blk kpp
  have n5 := u.l.apartB u.gs kpint
  have l1 := u.l.put (j := 0) (⟨y.n, x.g⟩ : Pd) hx (.int .i64 y.n) (by show 0 < 2; omega) rfl (q := j * 2) (by show _ = j * 2 + 0; omega)
  have hx1 : (xs.set j (⟨y.n, x.g⟩ : Pd))[j]? = some ⟨y.n, x.g⟩ := List.getElem?_set_self (List.getElem?_eq_some_iff.1 hx).1
  have l2 := l1.put (j := 1) (⟨y.n, y.g⟩ : Pd) hx1 (.int .i64 y.g) (by show 1 < 2; omega) rfl (q := j * 2 + 1) (by show _ = j * 2 + 1; omega)
  rw [List.set_set] at l2
  exact ⟨u.blk.only o n4, u.t.only o n1 n2 n3, u.r.onlyK hc (by decide +kernel) (by decide +kernel) (by decide +kernel) o, u.gs.only o n5, u.gl, l2, u.o.trans o fun i hi => .inr (by have := (u.l.block (g := d) rfl).1; simp at hi; omega)⟩
end

set_option maxHeartbeats 8000000 in
theorem told_yes {W w : World} {pb i : Nat} {C : Cl} {D : Nat → Gh} {L : List Pd} (P : PR W pb C D L w) (hi : i < 3) (hh : C.h i = true) :
    Calls Try.prog 8 #[ptA pb, .int .i64 (i : Int)] w fun e w' => e = .returned (.bool true) ∧ Only [] w w' := by
  rcases P.sd i hi with ⟨h1, -⟩ | ⟨-, et, en, tr, rt⟩
  case inl => rw [hh] at h1; cases h1
  obtain ⟨t0, y0, y1, y2, y3, t1⟩ := play_at P.blk hi
  generalize D i = d at et en tr rt
  obtain ⟨T, b, g, m, k⟩ := d
  dsimp only at et en tr rt
  rw [et] at t0
  rw [en] at y0
  rw [hh] at t1
  have BP := Lib.hid P.blk
  obtain ⟨v1, e1⟩ : ∃ v, v = C.a i := ⟨_, rfl⟩
  obtain ⟨v2, e2⟩ : ∃ v, v = C.b i := ⟨_, rfl⟩
  obtain ⟨v3, e3⟩ : ∃ v, v = C.c i := ⟨_, rfl⟩
  rw [← e1, ← e2, ← e3] at rt
  rw [← e1] at y1
  rw [← e2] at y2
  rw [← e3] at y3
  obtain ⟨A1, c1, A2, c2, A3, c3, rfl, rfl, rfl⟩ := rt.forms0
  have HC := Lib.hid (show ∀ W' : World, Only [] w W' → W'.cell? ⟨pb, i, none⟩ = some (ptA b) ∧ W'.cell? ⟨pb, 3 + i * 4, none⟩ = some (.int .i64 (T.length : Int)) ∧ W'.cell? ⟨pb, 3 + i * 4 + 1, none⟩ = some (.slice A1 T.length c1) ∧ W'.cell? ⟨pb, 3 + i * 4 + 2, none⟩ = some (.slice A2 T.length c2) ∧ W'.cell? ⟨pb, 3 + i * 4 + 3, none⟩ = some (.slice A3 T.length c3) ∧ W'.cell? ⟨pb, 15 + i, none⟩ = some (.bool true) from
    fun W' o => ⟨Cm.cell t0 ⟨W', o⟩, Cm.cell y0 ⟨W', o⟩, Cm.cell y1 ⟨W', o⟩, Cm.cell y2 ⟨W', o⟩, Cm.cell y3 ⟨W', o⟩, Cm.cell t1 ⟨W', o⟩⟩)
  have HT := Lib.hid tr
  have HR := Lib.hid rt
  have K1 := Lib.hid (live_any tr)
  have hlen := tr.ok.len
  have pi : (i : Int) < 3 := by omega
  have pi0 : (0 : Int) ≤ (i : Int) := by omega
  clear P et en tr rt e1 e2 e3
  go_enter Try.func8, Try.ntmps8
  go_wp2_with fail
  (with_reducible refine K1.out.mono ?_)
  rintro e w1 ⟨v6, rfl, h6, o1⟩
  obtain ⟨A6, c6, rfl, -, -, -, ha6⟩ := h6.form
  have H6 := Lib.hid h6
  have O1 := Lib.hid o1
  have K2 := Lib.hid (gens_any (HT.out.only o1 (by simp) (by simp) (by simp)))
  clear h6 o1 K1 ha6
  go_wp2_with fail
  (with_reducible refine K2.out.mono ?_)
  rintro e w2 ⟨rfl, h7, o2⟩
  have hw1 : w1.heap.size < w2.heap.size := (h7.block rfl).2
  have G2 := Lib.hid (gens_bk h7)
  have O2 := Lib.hid (O1.out.trans o2 (by simp))
  have L2 := Lib.hid (H6.out.only o2 (by simp))
  have K3 := Lib.hid (rpids_any (HR.out.only O2.out rfl) hlen.2)
  obtain ⟨t0, y0, y1, y2, y3, t1⟩ := HC.out w2 O2.out
  clear h7 o2 K2 H6
  go_wp2_with fail
  (with_reducible refine K3.out.mono ?_)
  rintro e w3 ⟨v8, rfl, h8, o3⟩
  obtain ⟨A8, c8, rfl, -, -, r8, -⟩ := h8.form
  have O3 := Lib.hid (O2.out.trans o3 (by simp))
  have hpl : (pidsF T).length ≤ 256 := Nat.le_trans (pidsG_len T 0) hlen.2
  have L3 := Lib.hid (L2.out.only o3 (by simp))
  have G3 := Lib.hid (G2.out.only o3 (by simp))
  have K4 := rsame_any A6 A8 (pidsF T) (pidsF T) c6 c8 w3 L3.out.rd' r8 (by omega) (by omega)
  rw [decide_eq_true rfl] at K4
  have K4 := Lib.hid K4
  clear h8 o3 r8 K3 G2 L2
  go_wp2_with fail
  (with_reducible refine K4.out.mono ?_)
  rintro e w4 ⟨rfl, q4, rfl⟩
  have o4 : Only [] w3 (w3.drewN q4) := (Only.refl [] w3).drewN q4
  have O4 := Lib.hid (O3.out.trans o4 (by simp))
  have L4 := Lib.hid (L3.out.only o4 (by simp))
  have G4 := Lib.hid (G3.out.only o4 (by simp))
  have K5 := alike_any (some ⟨w1.heap.size, 0, none⟩) A1 (hads T) (hads T) T.length c1 (Rd.of_bk G4.out) (HR.out.only O4.out rfl).h.rd'.ints (by simp; omega) (by simp; omega)
  rw [decide_eq_true rfl, List.length_map] at K5
  have K5 := Lib.hid K5
  obtain ⟨t0, y0, y1, y2, y3, t1⟩ := HC.out _ O4.out
  clear o4 K4 L3 G3
  go_wp2_with fail
  (with_reducible refine K5.out.mono ?_)
  rintro e w5 ⟨rfl, o5⟩
  have o50 := O4.out.trans o5 (by simp)
  have U5 := Lib.hid (show TdS w pb C b g m k T (.slice A1 T.length c1) (.slice A2 T.length c2) (.slice A3 T.length c3) w1.heap.size (.slice A6 (pidsF T).length c6) (pidsF T) w5 from
    ⟨BP.out.only o50 (by simp), HT.out.only o50 (by simp) (by simp) (by simp), HR.out.only o50 rfl, G4.out.only o5 (by simp), O1.out.size, L4.out.only o5 (by simp), o50⟩)
  clear o5 o50 K5 L4 G4 O4 O3 O2
  go_wp2_with fail
  go_loopw [8] (fun kv wr => ∃ (j : Nat) (xs : List Pd), kv = .int .i64 j ∧ j ≤ (pidsF T).length ∧ xs.length = (pidsF T).length ∧ TdS w pb C b g m k T (.slice A1 T.length c1) (.slice A2 T.length c2) (.slice A3 T.length c3) w1.heap.size (.slice A6 (pidsF T).length c6) xs wr) (fun kv _ => (pidsF T).length - (intOf kv).toNat)
  case atStart => exact ⟨0, _, rfl, Nat.zero_le _, rfl, U5.out⟩
  case round =>
    clear U5
    obtain ⟨j, xs, rfl, hj, hx, u⟩ := hrel
    have U := Lib.hid u
    by_cases hlt : j < (pidsF T).length
    · obtain ⟨d6, e6, f6⟩ := u.l.some_ (by omega)
      injection f6 with f6 f6' f6''
      subst f6
      obtain ⟨p, hp⟩ := some_at (show j < xs.length by omega)
      have HP := Lib.hid hp
      have HX := Lib.hid hx
      obtain ⟨pn, pg⟩ := p
      have k0 : ∀ x : Cm wr, x.1.cell? ⟨d6, j * 2, none⟩ = some (.int .i64 pn) := Cm.cell (u.l.at_ hp (j := 0) rfl (q := j * 2) (by show _ = j * 2 + 0; omega))
      have k1 : ∀ x : Cm wr, x.1.cell? ⟨d6, j * 2 + 1, none⟩ = some (.int .i64 pg) := Cm.cell (u.l.at_ hp (j := 1) rfl (q := j * 2 + 1) rfl)
      obtain ⟨t0, y0, y1, y2, y3, t1⟩ := HC.out wr u.o
      have k2 : ∀ x : Cm wr, x.1.cell? ⟨pb, 3 + i * 4, none⟩ = some (.int .i64 (T.length : Int)) := Cm.cell y0
      have k3 : ∀ x : Cm wr, x.1.cell? ⟨pb, 3 + i * 4 + 1, none⟩ = some (.slice A1 T.length c1) := Cm.cell y1
      have k4 : ∀ x : Cm wr, x.1.cell? ⟨pb, 3 + i * 4 + 2, none⟩ = some (.slice A2 T.length c2) := Cm.cell y2
      have k5 : ∀ x : Cm wr, x.1.cell? ⟨pb, 3 + i * 4 + 3, none⟩ = some (.slice A3 T.length c3) := Cm.cell y3
      obtain ⟨nm, hnm⟩ : ∃ nm, nm = nameOfF T ⟨pn, pg⟩ := ⟨_, rfl⟩
      have KA : Hid (∀ x : Cm wr, Calls Try.prog 23 #[ptA b, .agg (⟨pn, pg⟩ : Pd).cs] x.1 fun e w' => e = .returned (.string nm) ∧ Only [] x.1 w') := Lib.hid (by rw [hnm]; exact fun x => nameOf_any (U.out.only x.o).t ⟨pn, pg⟩)
      have KB : Hid (∀ x : Cm wr, Calls Try.prog 32 #[.agg (rtC T.length (.slice A1 T.length c1) (.slice A2 T.length c2) (.slice A3 T.length c3)), .agg (⟨pn, pg⟩ : Pd).cs] x.1 fun e w' => e = .returned (.string nm) ∧ Only [] x.1 w') := Lib.hid (by rw [hnm]; exact fun x => rnameOf_any (U.out.only x.o).r ⟨pn, pg⟩)
      have hs1 : (nm.toList == nm.toList) = true := beq_self_eq_true _
      have pj : (j : Int) < ((pidsF T).length : Int) := by omega
      have HJ := Lib.hid (show j + 1 ≤ (pidsF T).length from hlt)
      clear hp hx u hnm t0 y0 y1 y2 y3 t1 hj hlt f6' f6''
      go_wp2_with fail
      refine wp_region_calm (by kernel_rfl) (by kernel_rfl) ?_
      repeat (go_big_quiet_step ((first | (go_at_call 23; exact calmS (KA.out _)) | (go_at_call 32; exact calmS (KB.out _)))))
      refine wpQuiet_nil ?_
      rintro w6 ⟨⟨w6', o6⟩, e6⟩
      obtain rfl : w6 = w6' := e6
      have U6 := Lib.hid (U.out.only o6)
      have z0 := U6.out.l.at_ HP.out (j := 0) rfl (q := j * 2) (by show _ = j * 2 + 0; omega)
      have z1 := U6.out.l.at_ HP.out (j := 1) rfl (q := j * 2 + 1) rfl
      have zf := U6.out.l.free_
      have U7 := Lib.hid (U6.out.set HP.out ⟨-1, -7⟩)
      clear k0 k1 k2 k3 k4 k5 KA KB o6 U
      go_wp2_with fail
      go_roundw
      case rel => exact ⟨j + 1, _, by go_num, HJ.out, by rw [List.length_set]; exact HX.out, U7.out⟩
      case measure => have := HJ.out; simp [intOf]; omega
    · have e : j = (pidsF T).length := by omega
      subst e
      have H7 : Fu wr (some ⟨w1.heap.size, 0, none⟩) (hads T) := .inr ⟨_, rfl, u.gs⟩
      have K6 := marked_any H7 (by simp; omega) 1 (by omega)
      rw [List.length_map] at K6
      have K6 := Lib.hid K6
      clear u H7
      go_wp2_with fail
      (with_reducible refine K6.out.mono ?_)
      rintro e w6 ⟨rfl, h6, o6⟩
      have K7 := grown_any h6 (by simp; omega) 1 (by omega)
      rw [List.length_replicate] at K7
      have K7 := Lib.hid K7
      have O6 := Lib.hid (U.out.o.trans o6 (fun x hx => .inr (by have := O1.out.size; simp [blk] at hx; omega)))
      clear h6 o6 K6
      go_wp2_with fail
      (with_reducible refine K7.out.mono ?_)
      rintro e w7 ⟨rfl, o7⟩
      have O7 := Lib.hid (O6.out.trans o7 (by simp))
      clear o7 K7
      go_wp2_with fail
      go_ret
      exact ⟨rfl, O7.out⟩
theorem told_any {W w : World} {pb i : Nat} {C : Cl} {D : Nat → Gh} {L : List Pd} (P : PR W pb C D L w) (hi : i < 3) :
    Calls Try.prog 8 #[ptA pb, .int .i64 (i : Int)] w fun e w' => e = .returned (.bool true) ∧ PR W pb C D L w' := by
  have : Calls Try.prog 8 #[ptA pb, .int .i64 (i : Int)] w fun e w' => e = .returned (.bool true) ∧ Only [] w w' := by
    cases hh : C.h i with
    | false => exact told_no P hi hh
    | true => exact told_yes P hi hh
  exact this.mono fun e w' ⟨he, o⟩ => ⟨he, P.only o⟩
end Go.Proofs.Ytlidnlcmnkagaaa
