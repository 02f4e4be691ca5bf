/- What is asked of the program's ties; the law's 'do ties stand as the document's'. The document's ties: what keeps a list one that may be: one more in its place, some fewer. The document's ties: a list that may be, with one more in its place, with some fewer, may be. -/
import Derived.Test.YtkodblhompphjaaVe
namespace Go.Proofs.Ytkodblhompphjaa
open Go.RowKit

abbrev ptB (b : Nat) : Value := .pointer (some ⟨b, 0, none⟩)
/-- The program's ties: block b, with its memory F, holds the list l. -/
structure TiesRep where
  rep : World → Nat → List Nat → List Te → Prop
  lt : ∀ {w b F l}, rep w b F l → ∀ g ∈ F, g < w.heap.size
  only : ∀ {w w' b F l S}, rep w b F l → Only S w w' → (∀ g ∈ F, g ∉ S) → rep w' b F l
  all : ∀ {w b F l}, rep w b F l → Calls Try.prog 24 #[ptB b] w fun e w' => ∃ v, e = .returned v ∧ OwnS KT w' w.heap.size v l ∧ Only [] w w'
  links : ∀ {w b F l} (p : Pd), rep w b F l → Calls Try.prog 18 #[ptB b, .agg p.cs] w fun e w' => ∃ v, e = .returned v ∧ OwnS KP w' w.heap.size v (linksT l p) ∧ Only [] w w'
  watchers : ∀ {w b F l} (p : Pd), rep w b F l → Calls Try.prog 23 #[ptB b, .agg p.cs] w fun e w' => ∃ v, e = .returned v ∧ OwnS KT w' w.heap.size v (waT l p) ∧ Only [] w w'

set_option maxHeartbeats 8000000 in
theorem is_any (R : TiesRep) {w : World} {b : Nat} {F : List Nat} {xs : List Te} (hr : R.rep w b F xs) (f : Bool) (A : Option Addr) (cap : Nat) (p : Pd) (h : RdS KT w A xs) (hl : xs.length * 40 + 4096 ≤ 140737488355328) :
    Calls Try.prog 10 #[ptB b, .agg (tiC f (.slice A xs.length cap)), .agg p.cs] w fun e w' => e = .returned (.bool true) ∧ Only [] w w' := by
  have o0 := ((Only.refl [] w).alloc (.cells (tiC f (.slice A xs.length cap)) 27)).alloc (.cells p.cs 32)
  have BT := Lib.hid ((Bk.made w 27 (tiC f (.slice A xs.length cap))).alloc (.cells p.cs 32))
  have BP := Lib.hid (Bk.newAt (w := w.alloc (.cells (tiC f (.slice A xs.length cap)) 27)) (t := 32) (cs := p.cs) (b := w.heap.size + 1) (by simp))
  have RP := Lib.hid (R.only hr o0 (by simp))
  have H := Lib.hid (h.only o0 (by simp))
  have O := Lib.hid o0
  have hsz : w.heap.size + 2 ≤ ((w.alloc (.cells (tiC f (.slice A xs.length cap)) 27)).alloc (.cells p.cs 32)).heap.size := by simp
  clear o0 hr h
  go_enter Try.func10, Try.ntmps10
  go_upto_region 1 with fail
  generalize ((w.alloc (.cells (tiC f (.slice A xs.length cap)) 27)).alloc (.cells p.cs 32)) = w0 at *
  have HSZ := Lib.hid hsz
  have p0 : w0.drew.cell? ⟨w.heap.size + 1, 0, none⟩ = some (.int .i64 p.n) ∧ w0.drew.cell? ⟨w.heap.size + 1, 1, none⟩ = some (.int .i64 p.g) := BP.out.pid
  have K1 := Lib.hid (R.all (R.only RP.out ((Only.refl [] w0).drew) (by simp)))
  clear hsz
  go_region_held3 (fun w' => w'.cell? ⟨w.heap.size + 1, 0, none⟩ = some (.int .i64 p.n) ∧ w'.cell? ⟨w.heap.size + 1, 1, none⟩ = some (.int .i64 p.g)) (first | assumption | go_keep)
    (first
      | (go_at_call 24; (with_reducible refine K1.out.mono ?_); rintro e w1 ⟨v1, rfl, hv1, o1⟩; have HV1 := Lib.hid hv1; have O1 := Lib.hid ((O.out.drew).trans o1 (by simp)); have R1 := Lib.hid (R.only (R.only RP.out ((Only.refl [] w0).drew) (by simp)) o1 (by simp)); have B1 := Lib.hid (BP.out.drew.only o1 (by simp)); have T1 := Lib.hid (BT.out.drew.only o1 (by simp)); have H1 := Lib.hid ((H.out.only ((Only.refl [] w0).drew) (by simp)).only o1 (by simp)); have Z1 := Lib.hid (show w0.heap.size ≤ w1.heap.size from o1.size); have q1 := Bk.pid (x := p) B1.out; have K2 := Lib.hid (R.links p R1.out); clear hv1 o1)
      | (go_at_call 18; (with_reducible refine K2.out.mono ?_); rintro e w2 ⟨v2, rfl, hv2, o2⟩; have HV2 := Lib.hid hv2; have O2 := Lib.hid (O1.out.trans o2 (by simp)); have R2 := Lib.hid (R.only R1.out o2 (by simp)); have K3 := Lib.hid (R.watchers p R2.out); have B2 := Lib.hid (B1.out.only o2 (by simp)); have T2 := Lib.hid (T1.out.only o2 (by simp)); have H2 := Lib.hid (H1.out.only o2 (by simp)); have Z2 := Lib.hid (show w1.heap.size ≤ w2.heap.size from o2.size); have V12 := Lib.hid (HV1.out.only o2 (by simp)); have q2 := Bk.pid (x := p) B2.out; clear hv2 o2)
      | (go_at_call 23; (with_reducible refine K3.out.mono ?_); rintro e w3 ⟨v3, rfl, hv3, o3⟩; have HV3 := Lib.hid hv3; have O3 := Lib.hid (O2.out.trans o3 (by simp)); have R3 := Lib.hid (R.only R2.out o3 (by simp)); have B3 := Lib.hid (B2.out.only o3 (by simp)); have T3 := Lib.hid (T2.out.only o3 (by simp)); have H3 := Lib.hid (H2.out.only o3 (by simp)); have Z3 := Lib.hid (show w2.heap.size ≤ w3.heap.size from o3.size); have V13 := Lib.hid (V12.out.only o3 (by simp)); have V23 := Lib.hid (HV2.out.only o3 (by simp)); have q3 := Bk.pid (x := p) B3.out; clear hv3 o3))
  obtain ⟨A1, c1, e1, -, -, -, -⟩ := V13.out.form
  subst e1
  obtain ⟨A2, c2, e2, -, -, -, -⟩ := V23.out.form
  subst e2
  obtain ⟨A3, c3, e3, -, -, -, -⟩ := HV3.out.form
  subst e3
  have hl1 : xs.length ≤ 17592186044416 := by omega
  have hl2 : (linksT xs p).length ≤ 17592186044416 := by have h1 := l1T_len xs p; have h2 := l2T_len xs p; unfold linksT; rw [List.length_append]; omega
  have hl3 : (waT xs p).length ≤ 17592186044416 := by have h1 := waT_len xs p; omega
  have rdw : ∀ {α : Type} {K : Sk α} {W : World} {base : Nat} {B : Option Addr} {n c : Nat} {l : List α}, OwnS K W base (.slice B n c) l → RdS K W B l := fun {α K W base B n c l} ho => by
    obtain ⟨B', c', e, -, -, r, -⟩ := ho.form
    injection e with e
    subst e
    exact r
  have tl := T3.out.cell0 (i := 1) rfl
  have tf := T3.out.cell0 (i := 0) rfl
  have S1 := rsame_any A1 A xs xs c1 cap w3 (rdw V13.out) H3.out hl1 hl1
  rw [decide_eq_true rfl] at S1
  have S1 := Lib.hid S1
  clear K1 K2 K3 q1 q2 p0
  go_wp2_with fail
  (with_reducible refine S1.out.mono ?_)
  rintro e w4 ⟨rfl, k4, rfl⟩
  have K5 := Lib.hid (rlinks_any f A xs cap p (w3.drewN k4) H3.out hl)
  go_wp2_with fail
  (with_reducible refine K5.out.mono ?_)
  rintro e w5 ⟨v5, rfl, hv5, o5⟩
  obtain ⟨A5, c5, e5, -, -, rd5, -⟩ := hv5.form
  subst e5
  have O5 := Lib.hid ((O3.out.drewN k4).trans o5 (by simp))
  have OW5 := Lib.hid (((Only.refl [] w3).drewN k4).trans o5 (by simp))
  have V25 := Lib.hid (V23.out.only OW5.out (by simp))
  have S5 := rpids_any A2 A5 (linksT xs p) (linksT xs p) c2 c5 w5 (rdw V25.out) rd5 hl2 hl2
  rw [decide_eq_true rfl] at S5
  have S5 := Lib.hid S5
  clear K5 S1 hv5 o5 rd5 tl tf q3
  go_wp2_with fail
  (with_reducible refine S5.out.mono ?_)
  rintro e w6 ⟨rfl, k6, rfl⟩
  have OW6 := Lib.hid (OW5.out.drewN k6)
  have T6 := T3.out.only OW6.out (by simp)
  have tl := T6.cell0 (i := 1) rfl
  have tf := T6.cell0 (i := 0) rfl
  have q6 := Bk.pid (x := p) (B3.out.only OW6.out (by simp))
  have K7 := Lib.hid (rwatch_any f A xs cap p (w5.drewN k6) (H3.out.only OW6.out (by simp)) hl)
  clear S5 T6
  go_wp2_with fail
  (with_reducible refine K7.out.mono ?_)
  rintro e w7 ⟨v7, rfl, hv7, o7⟩
  obtain ⟨A7, c7, e7, -, -, rd7, -⟩ := hv7.form
  subst e7
  have OW7 := Lib.hid (OW6.out.trans o7 (by simp))
  have V37 := Lib.hid (HV3.out.only OW7.out (by simp))
  have S7 := rsame_any A3 A7 (waT xs p) (waT xs p) c3 c7 w7 (rdw V37.out) rd7 hl3 hl3
  rw [decide_eq_true rfl] at S7
  have S7 := Lib.hid S7
  clear K7 hv7 o7 rd7 tl tf q6
  go_wp2_with fail
  (with_reducible refine S7.out.mono ?_)
  rintro e w8 ⟨rfl, k8, rfl⟩
  have OW8 := Lib.hid (OW7.out.drewN k8)
  clear S7
  have RX := Lib.hid (R.only R3.out OW8.out (by simp))
  have HX := Lib.hid (H3.out.only OW8.out (by simp))
  have TX := Lib.hid (T3.out.only OW8.out (by simp))
  have OX := Lib.hid (O3.out.trans OW8.out (by simp))
  have Y1X := Lib.hid (V13.out.only OW8.out (by simp)).rw_
  have Y2X := Lib.hid (V23.out.only OW8.out (by simp)).rw_
  have Y3X := Lib.hid (HV3.out.only OW8.out (by simp)).rw_
  have HF := Lib.hid (R.lt RP.out)
  have HAB := Lib.hid (show xs ≠ [] → ∀ bl off, A = some ⟨bl, off, none⟩ → bl < w0.heap.size from fun h0 bl off e => by
    rcases H.out with h1 | ⟨bl', off', e', hb, _⟩
    · exact absurd h1 h0
    · rw [e] at e'
      injection e' with e'
      injection e' with e'
      subst e'
      exact hb)
  have zd : w0.drew.heap.size = w0.heap.size := rfl
  have D1 := Lib.hid HV1.out.own_ge
  have D2 := Lib.hid HV2.out.own_ge
  have D3 := Lib.hid HV3.out.own_ge
  rw [zd] at D1
  generalize w7.drewN k8 = w8 at *
  go_wp2_with fail
  go_loopw [11] (fun iv wr => ∃ i : Nat, iv = .int .i64 i ∧ i ≤ xs.length ∧ RwS wr w0.drew.heap.size 45 5 (.slice A1 xs.length c1) xs.length ∧ Only (Value.ownBlock (.slice A1 xs.length c1)).toList w8 wr) (fun iv _ => xs.length - (intOf iv).toNat)
  case atStart => exact ⟨0, rfl, Nat.zero_le _, Y1X.out, Only.refl _ _⟩
  case round =>
    obtain ⟨i, rfl, hi, hr, ho⟩ := hrel
    by_cases hlt : i < xs.length
    · obtain ⟨g, cap', eg, hg1, hg2⟩ := hr.form (by omega)
      injection eg with eA _ eC
      subst eA eC
      have hm : i * 5 + 5 ≤ xs.length * 5 := by have := Nat.mul_le_mul_right 5 (show i + 1 ≤ xs.length from hlt); rw [Nat.succ_mul] at this; exact this
      obtain ⟨u0, hu0⟩ := hr.cell (i * 5) (by omega)
      obtain ⟨u1, hu1⟩ := hr.cell (i * 5 + 1) (by omega)
      obtain ⟨u2, hu2⟩ := hr.cell (i * 5 + 2) (by omega)
      obtain ⟨u3, hu3⟩ := hr.cell (i * 5 + 3) (by omega)
      obtain ⟨u4, hu4⟩ := hr.cell (i * 5 + 4) (by omega)
      have fr := hr.free
      have HR := Lib.hid hr
      have HO := Lib.hid ho
      clear hr ho hm
      go_wp2_with fail
      go_roundw
      case rel => exact ⟨i + 1, by go_num, by omega, (((((HR.out).set (i * 5) _).set (i * 5 + 1) _).set (i * 5 + 2) _).set (i * 5 + 3) _).set (i * 5 + 4) _, (((((HO.out).set (.inl (by simp [Value.ownBlock])) _).set (.inl (by simp [Value.ownBlock])) _).set (.inl (by simp [Value.ownBlock])) _).set (.inl (by simp [Value.ownBlock])) _).set (.inl (by simp [Value.ownBlock])) _⟩
      case measure => simp [intOf]; omega
    · have HR := Lib.hid hr
      have HO := Lib.hid ho
      clear hr ho
      have Y2M := Lib.hid (Y2X.out.only HO.out (fun g hg hm => by have h1 := D1.out g hm; have h2 := Y2X.out.own_ge g (by rw [hg]; simp); have := Z1.out; have := Z2.out; have := Z3.out; omega))
      have Y3M := Lib.hid (Y3X.out.only HO.out (fun g hg hm => by have h1 := D1.out g hm; have h2 := Y3X.out.own_ge g (by rw [hg]; simp); have := Z1.out; have := Z2.out; have := Z3.out; omega))
      have OM := Lib.hid (OX.out.trans HO.out (fun i hi => .inr (by have h1 := D1.out i hi; have := HSZ.out; have := Z1.out; have := Z2.out; omega)))
      have RM := Lib.hid (R.only RX.out HO.out (fun g hg hm => by have h1 := D1.out g hm; have h2 := HF.out g hg; have := Z1.out; have := Z2.out; omega))
      have HM := Lib.hid (HX.out.only HO.out (fun h0 bl off e hm => by have h1 := D1.out bl hm; have h2 := HAB.out h0 bl off e; have := Z1.out; have := Z2.out; omega))
      have TM := Lib.hid (TX.out.only HO.out (fun hm => by have h1 := D1.out _ hm; have := HSZ.out; have := Z1.out; have := Z2.out; omega))
      clear HO HR
      generalize hgw : wr = w9 at *
      clear hgw
      go_wp2_with fail
      go_loopw [12] (fun iv wr => ∃ i : Nat, iv = .int .i64 i ∧ i ≤ (linksT xs p).length ∧ RwS wr w1.heap.size 32 2 (.slice A2 (linksT xs p).length c2) (linksT xs p).length ∧ Only (Value.ownBlock (.slice A2 (linksT xs p).length c2)).toList w9 wr) (fun iv _ => (linksT xs p).length - (intOf iv).toNat)
      case atStart => exact ⟨0, rfl, Nat.zero_le _, Y2M.out, Only.refl _ _⟩
      case round =>
        obtain ⟨i, rfl, hi, hr, ho⟩ := hrel
        by_cases hlt : i < (linksT xs p).length
        · obtain ⟨g, cap', eg, hg1, hg2⟩ := hr.form (by omega)
          injection eg with eA _ eC
          subst eA eC
          have hm : i * 2 + 2 ≤ (linksT xs p).length * 2 := by have := Nat.mul_le_mul_right 2 (show i + 1 ≤ (linksT xs p).length from hlt); rw [Nat.succ_mul] at this; exact this
          obtain ⟨u0, hu0⟩ := hr.cell (i * 2) (by omega)
          obtain ⟨u1, hu1⟩ := hr.cell (i * 2 + 1) (by omega)
          have fr := hr.free
          have HR := Lib.hid hr
          have HO := Lib.hid ho
          clear hr ho hm
          go_wp2_with fail
          go_roundw
          case rel => exact ⟨i + 1, by go_num, by omega, ((HR.out).set (i * 2) _).set (i * 2 + 1) _, ((HO.out).set (.inl (by simp [Value.ownBlock])) _).set (.inl (by simp [Value.ownBlock])) _⟩
          case measure => simp [intOf]; omega
        · have HR := Lib.hid hr
          have HO := Lib.hid ho
          clear hr ho
          have Y3L := Lib.hid (Y3M.out.only HO.out (fun g hg hm => by have h1 := D2.out g hm; have h2 := Y3M.out.own_ge g (by rw [hg]; simp); have := Z1.out; have := Z2.out; have := Z3.out; omega))
          have OL := Lib.hid (OM.out.trans HO.out (fun i hi => .inr (by have h1 := D2.out i hi; have := HSZ.out; have := Z1.out; have := Z2.out; omega)))
          have RL := Lib.hid (R.only RM.out HO.out (fun g hg hm => by have h1 := D2.out g hm; have h2 := HF.out g hg; have := Z1.out; have := Z2.out; omega))
          have HL := Lib.hid (HM.out.only HO.out (fun h0 bl off e hm => by have h1 := D2.out bl hm; have h2 := HAB.out h0 bl off e; have := Z1.out; have := Z2.out; omega))
          have TL := Lib.hid (TM.out.only HO.out (fun hm => by have h1 := D2.out _ hm; have := HSZ.out; have := Z1.out; have := Z2.out; omega))
          clear HO HR
          generalize hgw : wr = w12 at *
          clear hgw
          go_wp2_with fail
          go_loopw [13] (fun iv wr => ∃ i : Nat, iv = .int .i64 i ∧ i ≤ (waT xs p).length ∧ RwS wr w2.heap.size 45 5 (.slice A3 (waT xs p).length c3) (waT xs p).length ∧ Only (Value.ownBlock (.slice A3 (waT xs p).length c3)).toList w12 wr) (fun iv _ => (waT xs p).length - (intOf iv).toNat)
          case atStart => exact ⟨0, rfl, Nat.zero_le _, Y3L.out, Only.refl _ _⟩
          case round =>
            obtain ⟨i, rfl, hi, hr, ho⟩ := hrel
            by_cases hlt : i < (waT xs p).length
            · obtain ⟨g, cap', eg, hg1, hg2⟩ := hr.form (by omega)
              injection eg with eA _ eC
              subst eA eC
              have hm : i * 5 + 5 ≤ (waT xs p).length * 5 := by have := Nat.mul_le_mul_right 5 (show i + 1 ≤ (waT xs p).length from hlt); rw [Nat.succ_mul] at this; exact this
              obtain ⟨u0, hu0⟩ := hr.cell (i * 5) (by omega)
              obtain ⟨u1, hu1⟩ := hr.cell (i * 5 + 1) (by omega)
              obtain ⟨u2, hu2⟩ := hr.cell (i * 5 + 2) (by omega)
              obtain ⟨u3, hu3⟩ := hr.cell (i * 5 + 3) (by omega)
              obtain ⟨u4, hu4⟩ := hr.cell (i * 5 + 4) (by omega)
              have fr := hr.free
              have HR := Lib.hid hr
              have HO := Lib.hid ho
              clear hr ho hm
              go_wp2_with fail
              go_roundw
              case rel => exact ⟨i + 1, by go_num, by omega, (((((HR.out).set (i * 5) _).set (i * 5 + 1) _).set (i * 5 + 2) _).set (i * 5 + 3) _).set (i * 5 + 4) _, (((((HO.out).set (.inl (by simp [Value.ownBlock])) _).set (.inl (by simp [Value.ownBlock])) _).set (.inl (by simp [Value.ownBlock])) _).set (.inl (by simp [Value.ownBlock])) _).set (.inl (by simp [Value.ownBlock])) _⟩
              case measure => simp [intOf]; omega
            · have HR := Lib.hid hr
              have HO := Lib.hid ho
              clear hr ho
              have ON := Lib.hid (OL.out.trans HO.out (fun i hi => .inr (by have h1 := D3.out i hi; have := HSZ.out; have := Z1.out; have := Z2.out; omega)))
              have RN := Lib.hid (R.only RL.out HO.out (fun g hg hm => by have h1 := D3.out g hm; have h2 := HF.out g hg; have := Z1.out; have := Z2.out; omega))
              have HN := Lib.hid (HL.out.only HO.out (fun h0 bl off e hm => by have h1 := D3.out bl hm; have h2 := HAB.out h0 bl off e; have := Z1.out; have := Z2.out; omega))
              have TN := Lib.hid (TL.out.only HO.out (fun hm => by have h1 := D3.out _ hm; have := HSZ.out; have := Z1.out; have := Z2.out; omega))
              clear HO HR
              have tz := TN.out.cell0 (i := 1) rfl
              have K9 := Lib.hid (R.all (R.only RN.out ((Only.refl [] wr).drew) (by simp)))
              go_wp2_with fail
              go_region_held3 (fun w' => w'.cell? ⟨w.heap.size, 1, none⟩ = some (.slice A xs.length cap)) (first | assumption | go_keep)
                (first
                  | (go_at_call 24; (with_reducible refine K9.out.mono ?_); rintro e w10 ⟨v9, rfl, hv9, o9⟩; have t9 : w10.cell? ⟨w.heap.size, 1, none⟩ = some (.slice A xs.length cap) := (TN.out.drew.only o9 (by simp)).cell0 rfl; obtain ⟨A9, c9, e9, -, -, rd9, -⟩ := hv9.form; subst e9; have O9 := Lib.hid ((ON.out.drew).trans o9 (by simp)); have s9 := rsame_any A9 A xs xs c9 cap w10 rd9 ((HN.out.only ((Only.refl [] wr).drew) (by simp)).only o9 (by simp)) hl1 hl1; rw [decide_eq_true rfl] at s9; have S9 := Lib.hid s9; clear hv9 o9 rd9 s9)
                  | (go_at_call 15; (with_reducible refine S9.out.mono ?_); rintro e w11 ⟨rfl, k9, rfl⟩))
              go_wp2
              go_ret
              exact ⟨rfl, O9.out.drewN k9⟩
end Go.Proofs.Ytkodblhompphjaa

namespace Go.Proofs.Ytkodblhompphjaa
open Go.RowKit

theorem befP_iff {a b : Pd} : befP a b = true ↔ a.n < b.n ∨ (a.n = b.n ∧ a.g < b.g) := by simp [befP]
theorem befP_trans {a b c : Pd} (h : befP a b = true) (k : befP b c = true) : befP a c = true := by
  rw [befP_iff] at h k ⊢
  omega
theorem befP_irr {a : Pd} : befP a a = false := by
  cases h : befP a a with
  | false => rfl
  | true => rw [befP_iff] at h; omega
theorem befP_tri {a b : Pd} (h : befP a b = false) (k : befP b a = false) : a = b := by
  have h' : ¬ befP a b = true := by rw [h]; simp
  have k' : ¬ befP b a = true := by rw [k]; simp
  rw [befP_iff] at h' k'
  obtain ⟨an, ag⟩ := a
  obtain ⟨bn, bg⟩ := b
  simp only at h' k'
  have : an = bn := by omega
  have : ag = bg := by omega
  subst an ag
  rfl
/-- The order of ties, in words: links ahead by their pids, then monitors by their refs. -/
theorem aheadT_iff {x y : Te} (hx : 0 ≤ x.r) (hy : 0 ≤ y.r) : aheadT x y = true ↔ (x.r = 0 ∧ 0 < y.r) ∨ (0 < x.r ∧ 0 < y.r ∧ x.r < y.r) ∨ (x.r = 0 ∧ y.r = 0 ∧ (befP x.a y.a = true ∨ (x.a = y.a ∧ befP x.b y.b = true))) := by
  cases h1 : x.r == 0 with
  | true =>
    have e1 : x.r = 0 := by simpa using h1
    cases h2 : y.r == 0 with
    | true =>
      have e2 : y.r = 0 := by simpa using h2
      rw [aheadT_link h1 h2]
      simp only [Bool.or_eq_true, Bool.and_eq_true]
      rw [eqP_iff]
      constructor
      · intro h
        exact .inr (.inr ⟨e1, e2, h⟩)
      · rintro (h | h | h)
        · omega
        · omega
        · exact h.2.2
    | false =>
      have e2 : y.r ≠ 0 := by simpa using h2
      rw [aheadT_diff h1 (by rw [h2]; rfl)]
      simp only [true_iff]
      exact .inl ⟨e1, by omega⟩
  | false =>
    have e1 : x.r ≠ 0 := by simpa using h1
    cases h2 : y.r == 0 with
    | true =>
      have e2 : y.r = 0 := by simpa using h2
      rw [aheadT_diff h1 (by rw [h2]; rfl)]
      constructor
      · intro h
        cases h
      · rintro (h | h | h) <;> omega
    | false =>
      have e2 : y.r ≠ 0 := by simpa using h2
      rw [aheadT_ref h1 h2, decide_eq_true_eq]
      constructor
      · intro h
        exact .inr (.inl ⟨by omega, by omega, h⟩)
      · rintro (h | h | h)
        · omega
        · exact h.2.2
        · omega
theorem okTie_r {x : Te} (h : okTie x = true) : 0 ≤ x.r := by
  simp only [okTie, Bool.and_eq_true, decide_eq_true_eq] at h
  exact h.2.2.1
theorem aheadT_trans {x y z : Te} (hx : 0 ≤ x.r) (hy : 0 ≤ y.r) (hz : 0 ≤ z.r) (h : aheadT x y = true) (k : aheadT y z = true) : aheadT x z = true := by
  rw [aheadT_iff hx hy] at h
  rw [aheadT_iff hy hz] at k
  rw [aheadT_iff hx hz]
  rcases h with h | h | h
  · rcases k with k | k | k <;> first | omega | exact .inl ⟨h.1, by omega⟩
  · rcases k with k | k | k <;> first | omega | exact .inr (.inl ⟨by omega, by omega, by omega⟩)
  · rcases k with k | k | k
    · exact .inl ⟨h.1, k.2⟩
    · omega
    · refine .inr (.inr ⟨h.1, k.2.1, ?_⟩)
      rcases h.2.2 with h1 | ⟨h1, h2⟩
      · rcases k.2.2 with k1 | ⟨k1, k2⟩
        · exact .inl (befP_trans h1 k1)
        · rw [← k1]; exact .inl h1
      · rcases k.2.2 with k1 | ⟨k1, k2⟩
        · rw [h1]; exact .inl k1
        · exact .inr ⟨h1.trans k1, befP_trans h2 k2⟩
/-- One of two stands ahead, or they have one key. -/
theorem aheadT_tri {x y : Te} (hx : 0 ≤ x.r) (hy : 0 ≤ y.r) (h : aheadT x y = false) (k : aheadT y x = false) : x.r = y.r ∧ (x.r = 0 → x = y) := by
  have h' : ¬ aheadT x y = true := by rw [h]; simp
  have k' : ¬ aheadT y x = true := by rw [k]; simp
  rw [aheadT_iff hx hy] at h'
  rw [aheadT_iff hy hx] at k'
  have hr : x.r = y.r := by
    by_cases h0 : x.r = 0 <;> by_cases h1 : y.r = 0
    · omega
    · exact absurd (.inl ⟨h0, by omega⟩) h'
    · exact absurd (.inl ⟨h1, by omega⟩) k'
    · by_cases h2 : x.r < y.r
      · exact absurd (.inr (.inl ⟨by omega, by omega, h2⟩)) h'
      · by_cases h3 : y.r < x.r
        · exact absurd (.inr (.inl ⟨by omega, by omega, h3⟩)) k'
        · omega
  refine ⟨hr, fun h0 => ?_⟩
  have ea : x.a = y.a := by
    apply befP_tri
    · cases hb : befP x.a y.a with
      | false => rfl
      | true => exact absurd (.inr (.inr ⟨h0, by omega, .inl hb⟩)) h'
    · cases hb : befP y.a x.a with
      | false => rfl
      | true => exact absurd (.inr (.inr ⟨by omega, h0, .inl hb⟩)) k'
  have eb : x.b = y.b := by
    apply befP_tri
    · cases hb : befP x.b y.b with
      | false => rfl
      | true => exact absurd (.inr (.inr ⟨h0, by omega, .inr ⟨ea, hb⟩⟩)) h'
    · cases hb : befP y.b x.b with
      | false => rfl
      | true => exact absurd (.inr (.inr ⟨by omega, h0, .inr ⟨ea.symm, hb⟩⟩)) k'
  obtain ⟨xr, xa, xb⟩ := x
  obtain ⟨yr, ya, yb⟩ := y
  simp only at hr ea eb
  subst hr ea eb
  rfl
end Go.Proofs.Ytkodblhompphjaa

namespace Go.Proofs.Ytkodblhompphjaa
open Go.RowKit

abbrev SrtT (l : List Te) : Prop := l.Pairwise (fun x y => aheadT x y = true)
theorem mayT_of {l : List Te} (h1 : ∀ x ∈ l, okTie x = true) (h2 : SrtT l) : MayT l := fun j x hj hx => by
  refine ⟨h1 x (List.mem_of_getElem? hx), fun y h0 hy => ?_⟩
  have := List.pairwise_iff_getElem.1 h2 (j - 1) j (by omega) hj (by omega)
  rw [List.getElem?_eq_getElem hj] at hx
  rw [List.getElem?_eq_getElem (by omega)] at hy
  injection hx with hx
  injection hy with hy
  rw [hx, hy] at this
  exact this
theorem mayT_ok {l : List Te} (h : MayT l) : ∀ x ∈ l, okTie x = true := fun x hx => by
  obtain ⟨j, hj⟩ := List.mem_iff_getElem?.1 hx
  exact (h j x (List.getElem?_eq_some_iff.1 hj).1 hj).1
theorem mayT_srt : ∀ {l : List Te}, MayT l → SrtT l
  | [], _ => List.Pairwise.nil
  | x :: l, h => by
    have ht : MayT l := fun j z hj hz => by
      have h1 := h (j + 1) z (by simpa using hj) (by simpa using hz)
      refine ⟨h1.1, fun y h0 hy => h1.2 y (by omega) ?_⟩
      obtain ⟨k, rfl⟩ : ∃ k, j = k + 1 := ⟨j - 1, by omega⟩
      simpa using hy
    have hs := mayT_srt ht
    refine List.pairwise_cons.2 ⟨fun y hy => ?_, hs⟩
    cases l with
    | nil => cases hy
    | cons z r =>
      have hxz : aheadT x z = true := (h 1 z (by simp) (by simp)).2 x (by omega) (by simp)
      rcases List.mem_cons.1 hy with rfl | hy
      · exact hxz
      · have hok := mayT_ok h
        exact aheadT_trans (okTie_r (hok x (by simp))) (okTie_r (hok z (by simp))) (okTie_r (hok y (by simp [hy]))) hxz ((List.pairwise_cons.1 hs).1 y hy)
/-- Fewer of a list that may be. -/
theorem mayT_filter {l : List Te} (h : MayT l) (p : Te → Bool) : MayT (l.filter p) :=
  mayT_of (fun x hx => mayT_ok h x (List.mem_filter.1 hx).1) ((mayT_srt h).filter p)
theorem mayT_less {l : List Te} (h : MayT l) (y : Te) : MayT (lessT l y) := mayT_filter h _
/-- One more in its place. -/
def putR : List Te → Te → List Te
  | [], y => [y]
  | x :: r, y => if aheadT y x = true then y :: x :: r else x :: putR r y
theorem put_done (y : Te) : ∀ (l acc : List Te), l.foldl (putStep y) (acc, true) = (acc ++ l, true)
  | [], acc => by simp
  | x :: r, acc => by
    have : putStep y (acc, true) x = (acc ++ [x], true) := by simp [putStep]
    rw [List.foldl_cons, this, put_done y r]
    simp
theorem put_fold (y : Te) : ∀ (l acc : List Te), (if (l.foldl (putStep y) (acc, false)).2 = true then (l.foldl (putStep y) (acc, false)).1 else (l.foldl (putStep y) (acc, false)).1 ++ [y]) = acc ++ putR l y
  | [], acc => by simp [putR]
  | x :: r, acc => by
    rw [List.foldl_cons]
    cases ha : aheadT y x with
    | true =>
      have : putStep y (acc, false) x = ((acc ++ [y]) ++ [x], true) := by simp [putStep, ha]
      rw [this, put_done]
      simp [putR, ha]
    | false =>
      have : putStep y (acc, false) x = (acc ++ [x], false) := by simp [putStep, ha]
      rw [this, put_fold y r]
      simp [putR, ha]
theorem putT_eq (l : List Te) (y : Te) : putT l y = putR l y := by
  have h := put_fold y l []
  rw [List.nil_append] at h
  unfold putT stT
  exact h
theorem putR_mem {l : List Te} {y z : Te} : z ∈ putR l y ↔ z = y ∨ z ∈ l := by
  induction l with
  | nil => simp [putR]
  | cons x r ih =>
    unfold putR
    split
    · simp
    · rw [List.mem_cons, ih, List.mem_cons]
      constructor
      · rintro (h | h | h)
        · exact .inr (.inl h)
        · exact .inl h
        · exact .inr (.inr h)
      · rintro (h | h | h)
        · exact .inr (.inl h)
        · exact .inl h
        · exact .inr (.inr h)
theorem putR_srt {y : Te} (hy : 0 ≤ y.r) : ∀ {l : List Te}, (∀ x ∈ l, 0 ≤ x.r) → (∀ x ∈ l, ¬ (x.r = y.r ∧ (x.r = 0 → x = y))) → SrtT l → SrtT (putR l y)
  | [], _, _, _ => List.pairwise_singleton _ _
  | x :: r, h0, hk, hs => by
    obtain ⟨h1, h2⟩ := List.pairwise_cons.1 hs
    unfold putR
    split
    · rename_i ha
      refine List.pairwise_cons.2 ⟨fun z hz => ?_, hs⟩
      rcases List.mem_cons.1 hz with rfl | hz
      · exact ha
      · exact aheadT_trans hy (h0 x (by simp)) (h0 z (by simp [hz])) ha (h1 z hz)
    · rename_i ha
      refine List.pairwise_cons.2 ⟨fun z hz => ?_, putR_srt hy (fun z hz => h0 z (by simp [hz])) (fun z hz => hk z (by simp [hz])) h2⟩
      rcases putR_mem.1 hz with rfl | hz
      · cases hb : aheadT x z with
        | true => rfl
        | false => exact absurd (aheadT_tri (h0 x (by simp)) hy hb (by simpa using ha)) (hk x (by simp))
      · exact h1 z hz
/-- A tie that may be, whose key is not there, put into a list that may be. -/
theorem mayT_put {l : List Te} {y : Te} (h : MayT l) (hy : okTie y = true) (hk : ∀ x ∈ l, ¬ (x.r = y.r ∧ (x.r = 0 → x = y))) : MayT (putT l y) := by
  rw [putT_eq]
  have hok := mayT_ok h
  refine mayT_of (fun x hx => ?_) (putR_srt (okTie_r hy) (fun x hx => okTie_r (hok x hx)) hk (mayT_srt h))
  rcases putR_mem.1 hx with rfl | hx
  · exact hy
  · exact hok x hx
theorem putT_mem {l : List Te} {y z : Te} : z ∈ putT l y ↔ z = y ∨ z ∈ l := by rw [putT_eq]; exact putR_mem
theorem lessT_mem {l : List Te} {y z : Te} : z ∈ lessT l y ↔ z ∈ l ∧ z ≠ y := by
  unfold lessT
  rw [List.mem_filter]
  constructor
  · rintro ⟨h1, h2⟩
    exact ⟨h1, fun e => by rw [eqT_iff.2 e] at h2; cases h2⟩
  · rintro ⟨h1, h2⟩
    refine ⟨h1, ?_⟩
    cases he : eqT z y with
    | false => rfl
    | true => exact absurd (eqT_iff.1 he) h2
theorem linksT_mem {l : List Te} {a p : Pd} : p ∈ linksT l a ↔ ∃ x ∈ l, x.r = 0 ∧ ((x.b = a ∧ x.a = p) ∨ (x.a = a ∧ x.b = p)) := by
  unfold linksT l1T l2T
  simp only [List.mem_append, List.mem_flatMap]
  constructor
  · rintro (⟨x, hx, h⟩ | ⟨x, hx, h⟩)
    · split at h
      · rename_i hc
        simp only [Bool.and_eq_true, beq_iff_eq] at hc
        exact ⟨x, hx, hc.1, .inl ⟨eqP_iff.1 hc.2, (List.mem_singleton.1 h).symm⟩⟩
      · cases h
    · split at h
      · rename_i hc
        simp only [Bool.and_eq_true, beq_iff_eq] at hc
        exact ⟨x, hx, hc.1, .inr ⟨eqP_iff.1 hc.2, (List.mem_singleton.1 h).symm⟩⟩
      · cases h
  · rintro ⟨x, hx, h0, (⟨h1, h2⟩ | ⟨h1, h2⟩)⟩
    · refine .inl ⟨x, hx, ?_⟩
      rw [if_pos (by simp only [Bool.and_eq_true, beq_iff_eq]; exact ⟨h0, eqP_iff.2 h1⟩), h2]
      simp
    · refine .inr ⟨x, hx, ?_⟩
      rw [if_pos (by simp only [Bool.and_eq_true, beq_iff_eq]; exact ⟨h0, eqP_iff.2 h1⟩), h2]
      simp
/-- Two are linked just if their tie is there (in a list that may be). -/
theorem linked_iff {l : List Te} (h : MayT l) {a b : Pd} : b ∈ linksT l a ↔ linkT a b ∈ l ∧ a ≠ b := by
  rw [linksT_mem]
  have hok := mayT_ok h
  have hbef : ∀ x ∈ l, x.r = 0 → befP x.a x.b = true := fun x hx h0 => by
    have := hok x hx
    simp only [okTie, Bool.and_eq_true, decide_eq_true_eq] at this
    have h5 := this.2.2.2.2
    rw [h0] at h5
    simpa using h5
  constructor
  · rintro ⟨x, hx, h0, (⟨h1, h2⟩ | ⟨h1, h2⟩)⟩
    · have hb := hbef x hx h0
      obtain ⟨xr, xa, xb⟩ := x
      simp only at h0 h1 h2 hb
      subst h0 h1 h2
      refine ⟨?_, fun e => by rw [e, befP_irr] at hb; cases hb⟩
      have : linkT xb xa = ⟨0, xa, xb⟩ := by
        unfold linkT
        rw [if_neg]
        intro hc
        have := befP_trans hb hc
        rw [befP_irr] at this
        cases this
      rw [this]
      exact hx
    · have hb := hbef x hx h0
      obtain ⟨xr, xa, xb⟩ := x
      simp only at h0 h1 h2 hb
      subst h0 h1 h2
      refine ⟨?_, fun e => by rw [e, befP_irr] at hb; cases hb⟩
      have : linkT xa xb = ⟨0, xa, xb⟩ := by unfold linkT; rw [if_pos hb]
      rw [this]
      exact hx
  · rintro ⟨h1, h2⟩
    refine ⟨linkT a b, h1, ?_⟩
    unfold linkT
    split
    · exact ⟨rfl, .inr ⟨rfl, rfl⟩⟩
    · exact ⟨rfl, .inl ⟨rfl, rfl⟩⟩
theorem linkT_comm {a b : Pd} (h : a ≠ b) : linkT a b = linkT b a := by
  unfold linkT
  cases h1 : befP a b with
  | true =>
    cases h2 : befP b a with
    | true =>
      have := befP_trans h1 h2
      rw [befP_irr] at this
      cases this
    | false => simp
  | false =>
    cases h2 : befP b a with
    | true => simp
    | false => exact absurd (befP_tri h1 h2) h
theorem linkT_ok {a b : Pd} (ha : okP a = true) (hb : okP b = true) (h : a ≠ b) : okTie (linkT a b) = true := by
  unfold linkT
  cases h1 : befP a b with
  | true => simp [okTie, ha, hb, h1]
  | false =>
    cases h2 : befP b a with
    | true => simp [okTie, ha, hb, h2]
    | false => exact absurd (befP_tri h1 h2) h
/-- A link that is not there may be put in. -/
theorem mayT_link {l : List Te} (h : MayT l) {a b : Pd} (ha : okP a = true) (hb : okP b = true) (hn : a ≠ b) (hl : linkT a b ∉ l) : MayT (putT l (linkT a b)) := by
  have h0 : (linkT a b).r = 0 := by unfold linkT; split <;> rfl
  refine mayT_put h (linkT_ok ha hb hn) fun x hx hc => hl ?_
  have := hc.2 (hc.1.trans h0)
  rw [← this]
  exact hx
/-- A monitor whose ref is not there may be put in. -/
theorem mayT_monitor {l : List Te} (h : MayT l) {r : Int} {a b : Pd} (ha : okP a = true) (hb : okP b = true) (hr : 1 ≤ r ∧ r ≤ 4611686018427387903) (hl : findT l r = none) : MayT (putT l ⟨r, a, b⟩) := by
  refine mayT_put h ?_ fun x hx hc => ?_
  · have : (r == 0) = false := by simp; omega
    simp [okTie, ha, hb, this]
    omega
  · unfold findT at hl
    rw [if_pos (by omega), List.find?_eq_none] at hl
    have := hl x hx
    simp at this
    exact this hc.1
end Go.Proofs.Ytkodblhompphjaa
