/- The document's walk, through any pattern but a local.. The document's walk of a local.. -/
import Derived.Test.YtcdefnbehlcgeaaGreatDoorWw
import Derived.Deep.RegionHeld3
import Derived.Deep.CutRange
set_option maxHeartbeats 8000000
set_option maxRecDepth 100000
namespace Go.Proofs.YtcdefnbehlcgeaaGreatDoor
open Go.RowKit
def RLR (Lc : Int) (w w3 : World) (L : List QT) (met : Nat) (bs : List Int) (deep t6 t8 : Nat) (v : Value) (wr : World) : Prop :=
 ∃ (j m : Nat) (bs' : List Int) (A' : Option Addr) (cap' : Nat), v = .int .i64 j ∧ j ≤ L.length ∧ m ≤ 1024 ∧ bs'.length ≤ m ∧ qthrs Lc (L.drop j) m bs' (deep + 1) = qthrs Lc L (met + 1) bs (deep + 1) ∧ Bk wr t6 163 #[.int .i64 m, .slice A' bs'.length cap'] ∧
  Bk wr t8 163 #[.int .i64 0, .slice none 0 0] ∧ Lies wr A' bs' ∧ Only [t6] w3 wr ∧ Only [] w wr
theorem el_keep {u : QT} {st sl sr : Value} {w' : World} {bl o t6 m : Nat} {S : Value} (hE : ∀ q v, ((qcs u.k u.n u.tm st sl sr).toList)[q]? = some v → w'.cell? ⟨bl, o + q, none⟩ = some v) (hS : Bk w' t6 163 #[.int .i64 m, S]) :
 w'.cell? ⟨bl, o, none⟩ = some (.int .i64 u.k) ∧ w'.cell? ⟨bl, o + 1, none⟩ = some (.int .i64 u.n) ∧ w'.cell? ⟨bl, o + 2, none⟩ = some (.int .i64 u.tm.k) ∧ w'.cell? ⟨bl, o + 3, none⟩ = some (.int .i64 u.tm.n) ∧ w'.cell? ⟨bl, o + 4, none⟩ = some (.complex .f64 u.tm.x u.tm.y) ∧ w'.cell? ⟨bl, o + 5, none⟩ = some (.string u.tm.S) ∧ w'.cell? ⟨bl, o + 6, none⟩ = some (.int .i64 u.tm.a) ∧ w'.cell? ⟨bl, o + 7, none⟩ = some (.int .i64 u.tm.b) ∧ w'.cell? ⟨bl, o + 8, none⟩ = some st ∧ w'.cell? ⟨bl, o + 9, none⟩ = some sl ∧ w'.cell? ⟨bl, o + 10, none⟩ = some sr ∧ w'.cell? ⟨t6, 0, none⟩ = some (.int .i64 m) ∧ w'.cell? ⟨t6, 1, none⟩ = some S := by
 obtain ⟨h0, h1, h2, h3, h4, h5, h6, h7, h8, h9, h10⟩ := qcs_eleven hE
 exact ⟨h0, h1, h2, h3, h4, h5, h6, h7, h8, h9, h10, hS.cell0 rfl, hS.cell0 rfl⟩
theorem rw_go (Lc k n : Int) (tt : T) (st : Value) (A0 B0 : Option Addr) (m0 c0 m2 c2 : Nat) (l r : List QT) (F : Nat → Prop) (met : Nat) (bs : List Int) (deep : Nat) (A : Option Addr) (cap : Nat) (q : Nat × List Int × Int) (w : World) (hk2 : k ≠ 2)
 (hM : ∀ w1, Only [] w w1 → Calls Tryz.prog 117 #[.agg (qcs k n tt st (.slice A0 m0 c0) (.slice B0 m2 c2)), .int .i64 Lc] w1 fun e w' => e = .returned (.bool true) ∧ Only [] w1 w')
 (hl : QL w F l (.slice A0 m0 c0)) (hr : QL w F r (.slice B0 m2 c2)) (hF : ∀ b, F b → b < w.heap.size) (hs : l.length + r.length ≤ 524288) (ih : ∀ u ∈ l ++ r, RWOk Lc u) (hA : Lies w A bs) (hbm : bs.length ≤ met) (hm : met < 1024) (hd : deep < 64)
 (hq : qthrs Lc (l ++ r) (met + 1) bs (deep + 1) = q) :
 Calls Tryz.prog 102 #[.agg (qcs k n tt st (.slice A0 m0 c0) (.slice B0 m2 c2)), .int .i64 Lc, .agg #[.int .i64 met, .slice A bs.length cap], .int .i64 deep] w fun e w' => RWE w q e w' := by
 have rs := store_com
 have h3 : (k == 2) = false := by simpa using hk2
 have h4 : IntKind.i64.wrap ((met : Int) + 1) = (met : Int) + 1 := IntWalk.i64_in _ (by omega)
 have h5 : IntKind.i64.wrap ((deep : Int) + 1) = (deep : Int) + 1 := IntWalk.i64_in _ (by omega)
 have p1 : ¬ (1024 : Int) ≤ (met : Int) := by omega
 have p2 : ¬ (64 : Int) ≤ (deep : Int) := by omega
 have HM := Lib.hid hM
 have HK := Lib.hid (fun w hl hr => kids_any k n tt st A0 B0 m0 c0 m2 c2 l r F w hl hr hs)
 have Hl := Lib.hid hl
 have Hr := Lib.hid hr
 have HF := Lib.hid hF
 have IH := Lib.hid ih
 have HA := Lib.hid hA
 have HQ := Lib.hid hq
 have O0 := Lib.hid ((((Only.refl [] w).alloc (.cells (qcs k n tt st (.slice A0 m0 c0) (.slice B0 m2 c2)) 88)).alloc (.cells #[.int .i64 met, .slice A bs.length cap] 163)).alloc (.cells #[.int .i64 0, .slice none 0 0] 163))
 have B4 := Lib.hid (((Bk.made w 88 (qcs k n tt st (.slice A0 m0 c0) (.slice B0 m2 c2))).alloc (.cells #[.int .i64 met, .slice A bs.length cap] 163)).alloc (.cells #[.int .i64 0, .slice none 0 0] 163))
 have B6 := Lib.hid ((Bk.madeAt (w := w.alloc (.cells (qcs k n tt st (.slice A0 m0 c0) (.slice B0 m2 c2)) 88)) (t := 163) (cs := #[.int .i64 met, .slice A bs.length cap]) (b := w.heap.size + 1) (by simp)).alloc (.cells #[.int .i64 0, .slice none 0 0] 163))
 have B8 := Lib.hid (Bk.madeAt (w := (w.alloc (.cells (qcs k n tt st (.slice A0 m0 c0) (.slice B0 m2 c2)) 88)).alloc (.cells #[.int .i64 met, .slice A bs.length cap] 163)) (t := 163) (cs := #[.int .i64 0, .slice none 0 0]) (b := w.heap.size + 1 + 1) (by simp))
 clear hM hl hr hF ih hA hq hk2 hs
 go_enter Tryz.func102, Tryz.ntmps102
 go_wp2_with fail
 (with_reducible refine (HM.out _ O0.out).mono ?_)
 rintro e w1 ⟨rfl, o1⟩
 have O1 := Lib.hid (O0.out.trans o1 (by simp))
 have C4 := Lib.hid (B4.out.only o1 (by simp))
 have C6 := Lib.hid (B6.out.only o1 (by simp))
 have C8 := Lib.hid (B8.out.only o1 (by simp))
 obtain ⟨z0, z1, z2, z3, z4, z5, z6, z7, z8, z9, z10⟩ := C4.out.elevenH
 have y0 := C6.out.cell0 (i := 0) rfl
 have yf := C6.out.free 0
 have n46 : w.heap.size ≠ w.heap.size + 1 := by omega
 clear o1
 have O2 := Lib.hid (O1.out.set (p := ⟨w.heap.size + 1, 0, none⟩) (.inr (by simp)) (.int .i64 ((met : Int) + 1)))
 have D6 := Lib.hid (show Bk (w1.setCell ⟨w.heap.size + 1, 0, none⟩ (.int .i64 ((met : Int) + 1))) (w.heap.size + 1) 163 #[.int .i64 ((met + 1 : Nat) : Int), .slice A bs.length cap] from C6.out.set 0 _)
 have D8 := Lib.hid (C8.out.away (p := ⟨w.heap.size + 1, 0, none⟩) (by show w.heap.size + 1 + 1 ≠ w.heap.size + 1; omega) (.int .i64 ((met : Int) + 1)))
 go_wp2_with fail
 (with_reducible refine (HK.out _ (Hl.out.same O2.out) (Hr.out.same O2.out)).mono ?_)
 rintro e w3 ⟨⟨A3, c3, F3, rfl, hq3, hF3⟩, o3⟩
 have HQ3 := Lib.hid hq3
 have hb6 := D6.out.lt
 have hb8 := D8.out.lt
 have HF3 := Lib.hid (show ∀ b, F3 b → b ≠ w.heap.size + 1 ∧ b < w3.heap.size from fun b hb => by
  have h36 := o3.size
  rcases hF3 b hb with h | h
  ·have := HF.out b h
   omega
  ·omega)
 have O3 := Lib.hid (O2.out.trans o3 (by simp))
 have N3 := Lib.hid (show RLR Lc w w3 (l ++ r) met bs deep (w.heap.size + 1) (w.heap.size + 1 + 1) (.int .i64 0) w3 from
  ⟨0, met + 1, bs, A, cap, rfl, Nat.zero_le _, by omega, by omega, rfl, D6.out.only o3 (by simp), D8.out.only o3 (by simp), HA.out.same O3.out, Only.refl _ _, O3.out⟩)
 clear hq3 hF3 o3 z0 z1 z2 z3 z4 z5 z6 z7 z8 z9 z10 y0 yf
 obtain ⟨L, hL⟩ : ∃ L, l ++ r = L := ⟨_, rfl⟩
 have hLl : l.length + r.length = L.length := by rw [← hL, List.length_append]
 rw [hL] at N3 HQ3 HQ IH
 rw [hLl] at HQ3 ⊢
 clear hL hLl
 go_wp2_with fail
 go_loopw [12] (fun v wr => RLR Lc w w3 L met bs deep (w.heap.size + 1) (w.heap.size + 1 + 1) v wr) (fun v _ => L.length - (intOf v).toNat)
 case atStart => exact N3.out
 case round =>
  obtain ⟨j, m, bs2, A2, cap2, rfl, hj, hm2, hbm2, hq2, hb6', hb8', hlies, ho3, how⟩ := hrel
  have ES := Lib.hid hb6'
  have E8 := Lib.hid hb8'
  have EA := Lib.hid hlies
  have EO3 := Lib.hid ho3
  have EOW := Lib.hid how
  have EQ := Lib.hid hq2
  clear hb6' hb8' hlies ho3 how hq2 N3
  obtain ⟨AL, cL, hv, hlc, hcap, hrows⟩ := HQ3.out.mk qds_len
  injection hv with hv1 _ hv2
  subst hv1 hv2
  by_cases hjl : j < L.length
  ·rcases hrows with h0 | ⟨bl, off, rfl, hbl, hFb, hvs⟩
   ·rw [h0] at hjl; simp at hjl
   ·obtain ⟨us, hds, hcs⟩ := hvs j (L[j]'hjl) (List.getElem?_eq_getElem hjl)
    obtain ⟨st', sl', sr', rfl, htv⟩ := q_cells _ hds
    have htv : PV w3 F3 (L[j]'hjl) st' sl' sr' := htv
    obtain ⟨S', s1', s2', A', c', B', d2, rfl, rfl, rfl⟩ := htv.slices
    obtain ⟨n', hn'⟩ : ∃ n', (L[j]'hjl).l.length = n' := ⟨_, rfl⟩
    obtain ⟨n2, hn2⟩ : ∃ n2, (L[j]'hjl).r.length = n2 := ⟨_, rfl⟩
    rw [hn', hn2] at htv hcs
    have hbl6 := (HF3.out bl hFb).1
    have EL := Lib.hid (show ∀ w', Only [] wr w' → ∀ q v, ((qcs (L[j]'hjl).k (L[j]'hjl).n (L[j]'hjl).tm (.slice S' s1' s2') (.slice A' n' c') (.slice B' n2 d2)).toList)[q]? = some v → w'.cell? ⟨bl, off + j * 11 + q, none⟩ = some v from fun w' o q v hv => by
     have h1 : wr.cell? ⟨bl, off + j * 11 + q, none⟩ = some v := (EO3.out.cell (p := ⟨bl, off + j * 11 + q, none⟩) hbl (by simpa using hbl6)).trans (hcs q v hv)
     exact (o.cell (p := ⟨bl, off + j * 11 + q, none⟩) (Nat.lt_of_lt_of_le hbl EO3.out.size) (by simp)).trans h1)
    have ETV := Lib.hid (PV.only EO3.out (fun b hb hf => (HF3.out b hf).1 (List.mem_singleton.1 hb)) (fun _ h => h) htv)
    have EF := Lib.hid (show ∀ b, F3 b → b < wr.heap.size from fun b hb => Nat.lt_of_lt_of_le (HF3.out b hb).2 EO3.out.size)
    have EI := Lib.hid (IH.out _ (List.getElem_mem hjl))
    clear hcs htv hvs hds hn' hn2
    have HD := Lib.hid (show L.drop j = L[j]'hjl :: L.drop (j + 1) from List.drop_eq_getElem_cons hjl)
    generalize L[j]'hjl = u at HD EI ETV EL
    have hq3 := EQ.out
    rw [HD.out, qthrs_cons] at hq3
    have EQ2 := Lib.hid hq3
    clear hq3
    have hln := qthr_len Lc u m bs2 (deep + 1) hm2 hbm2
    obtain ⟨qq, hqq⟩ : ∃ qq, qthr Lc u m bs2 (deep + 1) = qq := ⟨_, rfl⟩
    rw [hqq] at EQ2 hln
    have EQQ := Lib.hid hqq
    clear hqq
    have EC := Lib.hid (show ∀ W, Only [] wr W → Calls Tryz.prog 102 #[.agg #[.int .i64 u.k, .int .i64 u.n, .int .i64 u.tm.k, .int .i64 u.tm.n, .complex .f64 u.tm.x u.tm.y, .string u.tm.S, .int .i64 u.tm.a, .int .i64 u.tm.b, .slice S' s1' s2', .slice A' n' c', .slice B' n2 d2], .int .i64 Lc, .agg #[.int .i64 m, .slice A2 bs2.length cap2], .int .i64 ((deep : Int) + 1)] W fun e w' => ∃ A5 cap5, e = .returned (.tuple #[.agg #[.int .i64 qq.1, .slice A5 qq.2.1.length cap5], .int .i64 qq.2.2]) ∧ Lies w' A5 qq.2.1 ∧ Only [] wr w' ∧ Only [] W w' from fun W o =>
     (EI.out.use (deep := deep + 1) (D := (deep : Int) + 1) (ETV.out.same o) (fun b hb => Nat.lt_of_lt_of_le (EF.out b hb) o.size) (EA.out.same o) hbm2 hm2 (by omega) (by omega) EQQ.out).mono fun e w' ⟨A5, cap5, h1, h2, h3⟩ => ⟨A5, cap5, h1, h2, o.trans h3 (by simp), h3⟩)
    have ne6 : w.heap.size + 1 ≠ wr.heap.size := by have := ES.out.lt; omega
    have nebl : bl ≠ wr.heap.size := by have := EO3.out.size; omega
    obtain ⟨x0, x1, x2, x3, x4, x5, x6, x7, x8, x9, x10, y0, y1⟩ := el_keep (EL.out wr (Only.refl _ _)) ES.out
    obtain ⟨xa0, xa1, xa2, xa3, xa4, xa5, xa6, xa7, xa8, xa9, xa10, ya0, ya1⟩ := el_keep (EL.out (wr.alloc (.cells #[.int .i64 0, .slice none 0 0] 163)) ((Only.refl _ _).alloc _)) (ES.out.alloc (.cells #[.int .i64 0, .slice none 0 0] 163))
    go_wp2_with fail
    go_cut [13, 14] from 59 to 81 (fun v13 v14 wx => ∃ b13 A5 cap5, v13 = .pointer (some ⟨b13, 0, none⟩) ∧ v14 = .int .i64 qq.2.2 ∧ wr.heap.size ≤ b13 ∧ Bk wx b13 163 #[.int .i64 qq.1, .slice A5 qq.2.1.length cap5] ∧ Lies wx A5 qq.2.1 ∧ Only [] wr wx)
    case first =>
     go_region_with (go_at_call 102; (with_reducible refine (EC.out _ ?_).mono ?_); (focus (repeat first | exact Only.refl _ _ | refine Only.drew ?_ | refine Only.drewN ?_ _ | refine Only.alloc ?_ _)); rintro e w5 ⟨A5, cap5, rfl, hl5, x5, o5⟩; have X5 := Lib.hid x5; have L5 := Lib.hid hl5; try (have zb : Bk w5 wr.heap.size 163 #[.int .i64 0, .slice none 0 0] := Bk.only (by first | exact Bk.made _ _ _ | exact (Bk.made _ _ _).drew | exact (Bk.made _ _ _).drewN _) o5 (by simp); have zc0 := zb.cell0 (i := 0) rfl; have zc1 := zb.cell0 (i := 1) rfl; have zcf := zb.free); clear hl5 x5)
     all_goals
      go_wp2_with fail
      go_meet
      first
       | exact ⟨w5.heap.size, A5, cap5, rfl, rfl, X5.out.size, Bk.made _ _ _, L5.out.same ((Only.refl [] _).alloc _), X5.out.alloc _⟩
       | exact ⟨w5.heap.size, A5, cap5, rfl, rfl, X5.out.size, (Bk.made _ _ _).drewN _, L5.out.same (((Only.refl [] _).alloc _).drewN _), (X5.out.alloc _).drewN _⟩
       | exact ⟨wr.heap.size, A5, cap5, rfl, rfl, Nat.le_refl _, (zb.set 0 (.int .i64 qq.1)).set 1 (.slice A5 qq.2.1.length cap5), (L5.out.seen zb _ _).seen (zb.set 0 _) _ _, (X5.out.set (.inr (Nat.le_refl _)) _).set (.inr (Nat.le_refl _)) _⟩
    case rest =>
     obtain ⟨b13, A5, cap5, rfl, rfl, hb13, bb, hl5, o5⟩ := hcut
     have ES5 := Lib.hid (ES.out.only o5 (by simp))
     have E85 := Lib.hid (E8.out.only o5 (by simp))
     have BB := Lib.hid bb
     have L5 := Lib.hid hl5
     have EOW5 := Lib.hid (EOW.out.trans o5 (by simp))
     have EO35 := Lib.hid (EO3.out.trans (o5.more (T := [w.heap.size + 1]) (by simp)) (fun i hi => .inl hi))
     have v0 := bb.cell0 (i := 0) rfl
     have v1 := bb.cell0 (i := 1) rfl
     have s0 := ES5.out.cell0 (i := 0) rfl
     have s1 := ES5.out.cell0 (i := 1) rfl
     have sf := ES5.out.free
     have t0 := E85.out.cell0 (i := 0) rfl
     have t1 := E85.out.cell0 (i := 1) rfl
     have tf := E85.out.free
     have hwr : w.heap.size + 1 + 1 < wr.heap.size := E8.out.lt
     have n36 : b13 ≠ w.heap.size + 1 := by omega
     have n38 : b13 ≠ w.heap.size + 1 + 1 := by omega
     have n68 : w.heap.size + 1 ≠ w.heap.size + 1 + 1 := by omega
     clear bb hl5 o5 x0 x1 x2 x3 x4 x5 x6 x7 x8 x9 x10 y0 y1
     obtain ⟨rr, hrr⟩ : ∃ rr, qq.2.2 = rr := ⟨_, rfl⟩
     have HRR := Lib.hid hrr
     rw [hrr] at EQ2 ⊢
     clear hrr
     by_cases hz : rr = 0
     ·subst hz
      have NX := Lib.hid (show RLR Lc w w3 L met bs deep (w.heap.size + 1) (w.heap.size + 1 + 1) (.int .i64 ((j : Int) + 1)) ((wc.setCell ⟨w.heap.size + 1, 0, none⟩ (.int .i64 qq.1)).setCell ⟨w.heap.size + 1, 1, none⟩ (.slice A5 qq.2.1.length cap5)) from
       ⟨j + 1, qq.1, qq.2.1, A5, cap5, by go_num, by omega, hln.1, hln.2, by rw [← EQ2.out, if_pos rfl], (ES5.out.set 0 (.int .i64 qq.1)).set 1 (.slice A5 qq.2.1.length cap5), (E85.out.away (p := ⟨w.heap.size + 1, 0, none⟩) n68.symm _).away (p := ⟨w.heap.size + 1, 1, none⟩) n68.symm _, (L5.out.seen ES5.out 0 _).seen (ES5.out.set 0 _) 1 _, (EO35.out.set (.inl (by simp)) _).set (.inl (by simp)) _, (EOW5.out.set (.inr (by simp)) _).set (.inr (by simp)) _⟩)
      have sf1 : ∀ v, (wc.setCell ⟨w.heap.size + 1, 0, none⟩ v).frozen? ⟨w.heap.size + 1, 1, none⟩ = false := fun v => (ES5.out.set 0 v).free 1
      go_wp2_with fail
      go_roundw
      case rel => exact NX.out
      case measure => simp [intOf]; omega
     ·have hne : (rr != 0) = true := by simpa using hz
      have HZ := Lib.hid hz
      clear hz
      go_wp2_with fail
      have f8 := (E85.out.set 0 (.int .i64 qq.1)).set 1 (.slice A5 qq.2.1.length cap5)
      have OF := Lib.hid ((EOW5.out.set (p := ⟨w.heap.size + 1 + 1, 0, none⟩) (.inr (by show w.heap.size ≤ w.heap.size + 1 + 1; omega)) (.int .i64 qq.1)).set (p := ⟨w.heap.size + 1 + 1, 1, none⟩) (.inr (by show w.heap.size ≤ w.heap.size + 1 + 1; omega)) (.slice A5 qq.2.1.length cap5))
      have LF := Lib.hid ((L5.out.seen E85.out 0 (.int .i64 qq.1)).seen (E85.out.set 0 (.int .i64 qq.1)) 1 (.slice A5 qq.2.1.length cap5))
      generalize (wc.setCell ⟨w.heap.size + 1 + 1, 0, none⟩ (.int .i64 qq.1)).setCell ⟨w.heap.size + 1 + 1, 1, none⟩ (.slice A5 qq.2.1.length cap5) = W8 at *
      have g0 : W8.cell? ⟨w.heap.size + 1 + 1, 0, none⟩ = some (.int .i64 qq.1) := f8.cell0 rfl
      have g1 : W8.cell? ⟨w.heap.size + 1 + 1, 1, none⟩ = some (.slice A5 qq.2.1.length cap5) := f8.cell0 rfl
      have hqe : q = qq := by
       rw [← HQ.out, ← EQ2.out, if_neg HZ.out]
      refine bodyPost_ret (v := .tuple #[.agg #[.int .i64 qq.1, .slice A5 qq.2.1.length cap5], .int .i64 rr]) (by simp [results, Tryz.results102, go_sem, g0, g1]) rfl ?_
      rw [hqe]
      exact ⟨A5, cap5, by rw [HRR.out], LF.out, OF.out⟩
  ·have hje : j = L.length := by omega
   subst hje
   have hq3 := EQ.out
   rw [List.drop_length, qthrs_nil, HQ.out] at hq3
   have n68 : w.heap.size + 1 ≠ w.heap.size + 1 + 1 := by omega
   have s0 := ES.out.cell0 (i := 0) rfl
   have s1 := ES.out.cell0 (i := 1) rfl
   have t0 := E8.out.cell0 (i := 0) rfl
   have t1 := E8.out.cell0 (i := 1) rfl
   have tf := E8.out.free
   go_wp2_with fail
   have f8 := (E8.out.set 0 (.int .i64 m)).set 1 (.slice A2 bs2.length cap2)
   have OF := Lib.hid ((EOW.out.set (p := ⟨w.heap.size + 1 + 1, 0, none⟩) (.inr (by show w.heap.size ≤ w.heap.size + 1 + 1; omega)) (.int .i64 m)).set (p := ⟨w.heap.size + 1 + 1, 1, none⟩) (.inr (by show w.heap.size ≤ w.heap.size + 1 + 1; omega)) (.slice A2 bs2.length cap2))
   have LF := Lib.hid ((EA.out.seen E8.out 0 (.int .i64 m)).seen (E8.out.set 0 (.int .i64 m)) 1 (.slice A2 bs2.length cap2))
   generalize (wr.setCell ⟨w.heap.size + 1 + 1, 0, none⟩ (.int .i64 m)).setCell ⟨w.heap.size + 1 + 1, 1, none⟩ (.slice A2 bs2.length cap2) = W8 at *
   have g0 : W8.cell? ⟨w.heap.size + 1 + 1, 0, none⟩ = some (.int .i64 m) := f8.cell0 rfl
   have g1 : W8.cell? ⟨w.heap.size + 1 + 1, 1, none⟩ = some (.slice A2 bs2.length cap2) := f8.cell0 rfl
   refine bodyPost_ret (v := .tuple #[.agg #[.int .i64 m, .slice A2 bs2.length cap2], .int .i64 0]) (by simp [results, Tryz.results102, go_sem, g0, g1]) rfl ?_
   rw [← hq3]
   exact ⟨A2, cap2, rfl, LF.out, OF.out⟩
open Go.RowKit
theorem rw_no (L n : Int) (X Y : Option Addr) (cx cy : Nat) (met : Nat) (bs : List Int) (deep : Nat) (A : Option Addr) (cap : Nat) (w : World) (h0 : 0 ≤ n) (h32 : n < L) (hn : n ∈ bs) (hA : Lies w A bs) (hbm : bs.length ≤ met) (hm : met < 1024) (hd : deep < 64) :
 Calls Tryz.prog 102 #[.agg (vcs n X Y cx cy), .int .i64 L, .agg #[.int .i64 met, .slice A bs.length cap], .int .i64 deep] w fun e w' => RWE w (met, bs, 50) e w' := by
 have rs := store_com
 have p1 : ¬ (1024 : Int) ≤ (met : Int) := by omega
 have p2 : ¬ (64 : Int) ≤ (deep : Int) := by omega
 have HM := Lib.hid (fun w => rone_var_yes X Y cx cy n L w h0 h32)
 have HH := Lib.hid (fun w h => phas_any A cap bs n true w h (by omega) (by simpa using hn))
 have HA := Lib.hid hA
 have O0 := Lib.hid ((((Only.refl [] w).alloc (.cells (vcs n X Y cx cy) 88)).alloc (.cells #[.int .i64 met, .slice A bs.length cap] 163)).alloc (.cells #[.int .i64 0, .slice none 0 0] 163))
 have B4 := Lib.hid (((Bk.made w 88 (vcs n X Y cx cy)).alloc (.cells #[.int .i64 met, .slice A bs.length cap] 163)).alloc (.cells #[.int .i64 0, .slice none 0 0] 163))
 have B6 := Lib.hid ((Bk.madeAt (w := w.alloc (.cells (vcs n X Y cx cy) 88)) (t := 163) (cs := #[.int .i64 met, .slice A bs.length cap]) (b := w.heap.size + 1) (by simp)).alloc (.cells #[.int .i64 0, .slice none 0 0] 163))
 have B8 := Lib.hid (Bk.madeAt (w := (w.alloc (.cells (vcs n X Y cx cy) 88)).alloc (.cells #[.int .i64 met, .slice A bs.length cap] 163)) (t := 163) (cs := #[.int .i64 0, .slice none 0 0]) (b := w.heap.size + 1 + 1) (by simp))
 clear hA hn h0 h32
 go_enter Tryz.func102, Tryz.ntmps102
 go_wp2_with fail
 (with_reducible refine (HM.out _).mono ?_)
 rintro e w1 ⟨rfl, o1⟩
 have O1 := Lib.hid (O0.out.trans o1 (by simp))
 have C4 := Lib.hid (B4.out.only o1 (by simp))
 have C6 := Lib.hid (B6.out.only o1 (by simp))
 have C8 := Lib.hid (B8.out.only o1 (by simp))
 obtain ⟨z0, z1, z2, z3, z4, z5, z6, z7, z8, z9, z10⟩ := C4.out.elevenH
 have y0 := C6.out.cell0 (i := 0) rfl
 have y1 := C6.out.cell0 (i := 1) rfl
 have t0 := C8.out.cell0 (i := 0) rfl
 have t1 := C8.out.cell0 (i := 1) rfl
 have tf := C8.out.free
 clear o1
 go_wp2_with fail
 (with_reducible refine (HH.out _ (HA.out.same O1.out)).mono ?_)
 rintro e w2 ⟨rfl, rfl⟩
 go_wp2_with fail
 have f8 := (C8.out.set 0 (.int .i64 met)).set 1 (.slice A bs.length cap)
 have OF := Lib.hid ((O1.out.set (p := ⟨w.heap.size + 1 + 1, 0, none⟩) (.inr (by show w.heap.size ≤ w.heap.size + 1 + 1; omega)) (.int .i64 met)).set (p := ⟨w.heap.size + 1 + 1, 1, none⟩) (.inr (by show w.heap.size ≤ w.heap.size + 1 + 1; omega)) (.slice A bs.length cap))
 have LF := Lib.hid (((HA.out.same O1.out).seen C8.out 0 (.int .i64 met)).seen (C8.out.set 0 (.int .i64 met)) 1 (.slice A bs.length cap))
 generalize (w1.setCell ⟨w.heap.size + 1 + 1, 0, none⟩ (.int .i64 met)).setCell ⟨w.heap.size + 1 + 1, 1, none⟩ (.slice A bs.length cap) = W8 at *
 have g0 : W8.cell? ⟨w.heap.size + 1 + 1, 0, none⟩ = some (.int .i64 met) := f8.cell0 rfl
 have g1 : W8.cell? ⟨w.heap.size + 1 + 1, 1, none⟩ = some (.slice A bs.length cap) := f8.cell0 rfl
 exact bodyPost_ret (v := .tuple #[.agg #[.int .i64 met, .slice A bs.length cap], .int .i64 50]) (by simp [results, Tryz.results102, go_sem, g0, g1]) rfl ⟨A, cap, rfl, LF.out, OF.out⟩
theorem rw_var (L n : Int) (X Y : Option Addr) (cx cy : Nat) (met : Nat) (bs : List Int) (deep : Nat) (A : Option Addr) (cap : Nat) (w : World) (hX : cx ≤ 9223372036854775807) (hY : cy ≤ 9223372036854775807) (h0 : 0 ≤ n) (h32 : n < L) (hn : n ∉ bs) (hA : Lies w A bs) (hbm : bs.length ≤ met) (hm : met < 1024) (hd : deep < 64) :
 Calls Tryz.prog 102 #[.agg (vcs n X Y cx cy), .int .i64 L, .agg #[.int .i64 met, .slice A bs.length cap], .int .i64 deep] w fun e w' => RWE w (met + 1, bs ++ [n], 0) e w' := by
 have rs := store_com
 have p1 : ¬ (1024 : Int) ≤ (met : Int) := by omega
 have p2 : ¬ (64 : Int) ≤ (deep : Int) := by omega
 have h4 : IntKind.i64.wrap ((met : Int) + 1) = (met : Int) + 1 := IntWalk.i64_in _ (by omega)
 have HM := Lib.hid (fun w => rone_var_yes X Y cx cy n L w h0 h32)
 have HH := Lib.hid (fun w h => phas_any A cap bs n false w h (by omega) (by simpa using hn))
 have HK := Lib.hid (show ∀ w, Calls Tryz.prog 119 #[.agg (vcs n X Y cx cy)] w fun e w' => (∃ A' c', e = .returned (.slice A' 0 c')) ∧ Only [] w w' from fun w => (kids_any 2 n .zero (.slice none 0 0) X Y 0 cx 0 cy [] [] (fun _ => False) w (RowV.nil' _ _ _ _ hX) (RowV.nil' _ _ _ _ hY) (by simp)).mono fun e w' ⟨⟨A', c', _, h1, _⟩, h2⟩ => ⟨⟨A', c', h1⟩, h2⟩)
 have HA := Lib.hid hA
 have O0 := Lib.hid ((((Only.refl [] w).alloc (.cells (vcs n X Y cx cy) 88)).alloc (.cells #[.int .i64 met, .slice A bs.length cap] 163)).alloc (.cells #[.int .i64 0, .slice none 0 0] 163))
 have B4 := Lib.hid (((Bk.made w 88 (vcs n X Y cx cy)).alloc (.cells #[.int .i64 met, .slice A bs.length cap] 163)).alloc (.cells #[.int .i64 0, .slice none 0 0] 163))
 have B6 := Lib.hid ((Bk.madeAt (w := w.alloc (.cells (vcs n X Y cx cy) 88)) (t := 163) (cs := #[.int .i64 met, .slice A bs.length cap]) (b := w.heap.size + 1) (by simp)).alloc (.cells #[.int .i64 0, .slice none 0 0] 163))
 have B8 := Lib.hid (Bk.madeAt (w := (w.alloc (.cells (vcs n X Y cx cy) 88)).alloc (.cells #[.int .i64 met, .slice A bs.length cap] 163)) (t := 163) (cs := #[.int .i64 0, .slice none 0 0]) (b := w.heap.size + 1 + 1) (by simp))
 obtain ⟨i, hi, hz, hz1, hz2⟩ := qinfo qint_info
 have h63 : 0 + bs.length ≤ maxLen := by unfold maxLen; omega
 have h64 : bs.length + 1 ≤ maxLen := by unfold maxLen; omega
 have one1 : ∀ u ∈ bs.map (fun z => Value.int .i64 z), u.oneCell' = true := fun u hu => by
  obtain ⟨z, _, rfl⟩ := List.mem_map.1 hu
  rfl
 clear hA hn h0 h32
 go_enter Tryz.func102, Tryz.ntmps102
 go_wp2_with fail
 (with_reducible refine (HM.out _).mono ?_)
 rintro e w1 ⟨rfl, o1⟩
 have O1 := Lib.hid (O0.out.trans o1 (by simp))
 have C4 := Lib.hid (B4.out.only o1 (by simp))
 have C6 := Lib.hid (B6.out.only o1 (by simp))
 have C8 := Lib.hid (B8.out.only o1 (by simp))
 obtain ⟨z0, z1, z2, z3, z4, z5, z6, z7, z8, z9, z10⟩ := C4.out.elevenH
 have y0 := C6.out.cell0 (i := 0) rfl
 have y1 := C6.out.cell0 (i := 1) rfl
 have yf := C6.out.free
 have n46 : w.heap.size ≠ w.heap.size + 1 := by omega
 clear o1
 go_wp2_with fail
 (with_reducible refine (HH.out _ (HA.out.same O1.out)).mono ?_)
 rintro e w2 ⟨rfl, rfl⟩
 have O2 := Lib.hid (O1.out.set (p := ⟨w.heap.size + 1, 0, none⟩) (.inr (by simp)) (.int .i64 ((met : Int) + 1)))
 have D4 := Lib.hid (C4.out.away (p := ⟨w.heap.size + 1, 0, none⟩) n46 (.int .i64 ((met : Int) + 1)))
 have D6 := Lib.hid (show Bk (w1.setCell ⟨w.heap.size + 1, 0, none⟩ (.int .i64 ((met : Int) + 1))) (w.heap.size + 1) 163 #[.int .i64 ((met + 1 : Nat) : Int), .slice A bs.length cap] from C6.out.set 0 _)
 have D8 := Lib.hid (C8.out.away (p := ⟨w.heap.size + 1, 0, none⟩) (by show w.heap.size + 1 + 1 ≠ w.heap.size + 1; omega) (.int .i64 ((met : Int) + 1)))
 have DA := Lib.hid ((HA.out.same O1.out).seen C6.out 0 (.int .i64 ((met : Int) + 1)))
 go_wp2_with (at_builtin; first
  | (refine wpList_appAny (by rfl) _ _ _ (by rfl) (w.heap.size + 1 + 1 + 1) 3 i _ 1 8 Tryz.underlying74 hi hz hz1 hz2 rfl (by omega) none 0 0 [] (by rfl) ⟨rfl, .inl ⟨rfl, rfl⟩⟩ A bs.length cap (bs.map fun z => Value.int .i64 z) (by rfl) (by simp) (lies_news DA.out) one1 h63 (by omega) (by have := D8.out.lt; omega) ?_; intro A1 c1 w3 own1 o3 g3; have W1 := Lib.hid (show w3.ownsRow (w.heap.size + 1 + 1 + 1) 3 1 (.slice A1 bs.length c1) bs.length (bs.map fun z => Value.int .i64 z) from by simpa using own1); have Q3 := Lib.hid (show Only [] (w1.setCell ⟨w.heap.size + 1, 0, none⟩ (.int .i64 ((met : Int) + 1))) w3 from by simpa [Value.ownBlock] using o3); have E4 := Lib.hid (D4.out.only Q3.out (by simp)); have e1 := E4.out.cell0 (i := 1) rfl; clear own1 o3 g3)
  | (refine wpList_appAny (by rfl) _ _ _ (by rfl) (w.heap.size + 1 + 1 + 1) 3 i _ 1 8 Tryz.underlying74 hi hz hz1 hz2 rfl (by omega) A1 bs.length c1 (bs.map fun z => Value.int .i64 z) (by rfl) (Row.alloc W1.out _) (some ⟨w3.heap.size, 0, none⟩) 1 1 [.int .i64 n] (by rfl) rfl (fun _ => ⟨_, rfl, World.news_of_block (Bk.made w3 3 #[.int .i64 n])⟩) (by simp [Value.oneCell']) h64 (by omega) (by have := D8.out.lt; have := Q3.out.size; simp; omega) ?_; intro A5 c5 w5 own5 o5 g5; have W5 := Lib.hid own5; have R5 := Lib.hid o5; have rl := fun b hb => (Row.block W1.out (g := b) hb).1; have F6 := Lib.hid (((D6.out.only Q3.out (by simp)).alloc (.cells #[.int .i64 n] 3)).only o5 (by intro hm; have := rl _ (by simpa using hm); omega)); have f6 := F6.out.free; have u1 := F6.out.cell0 (i := 1) rfl; have u0 := F6.out.cell0 (i := 0) rfl; have F4 := Lib.hid ((E4.out.alloc (.cells #[.int .i64 n] 3)).only o5 (by intro hm; have := rl _ (by simpa using hm); omega)); have F8 := Lib.hid (((D8.out.only Q3.out (by simp)).alloc (.cells #[.int .i64 n] 3)).only o5 (by intro hm; have := rl _ (by simpa using hm); omega)); obtain ⟨q0, q1, q2, q3, q4, q5, q6, q7, q8, q9, q10⟩ := F4.out.elevenH; clear own5 o5 g5))
 have LW := Lib.hid (show Lies w5 A5 (bs ++ [n]) from Lies.own (base := w.heap.size + 1 + 1 + 1) (c := c5) (by
  have := W5.out
  simp only [List.length_append, List.length_singleton, List.map_append, List.map_cons, List.map_nil]
  exact this))
 have OW5 := Lib.hid (((O2.out.trans Q3.out (by simp)).alloc (.cells #[.int .i64 n] 3)).trans R5.out (fun b hb => .inr (by have := rl b (by simpa using hb); omega)))
 have hn68 : w.heap.size + 1 + 1 ≠ w.heap.size + 1 := by omega
 have G6 := Lib.hid (F6.out.set 1 (.slice A5 (bs.length + 1) c5))
 have G8 := Lib.hid (F8.out.away (p := ⟨w.heap.size + 1, 1, none⟩) hn68 (.slice A5 (bs.length + 1) c5))
 have LG := Lib.hid (LW.out.seen F6.out 1 (.slice A5 (bs.length + 1) c5))
 have OG := Lib.hid (OW5.out.set (p := ⟨w.heap.size + 1, 1, none⟩) (.inr (by show w.heap.size ≤ w.heap.size + 1; omega)) (.slice A5 (bs.length + 1) c5))
 (with_reducible refine (HK.out _).mono ?_)
 rintro e w6 ⟨⟨A6, c6, rfl⟩, o6⟩
 have H6 := Lib.hid (show Bk w6 (w.heap.size + 1) 163 #[.int .i64 ((met + 1 : Nat) : Int), .slice A5 (bs.length + 1) c5] from G6.out.only o6 (by simp))
 have H8 := Lib.hid (G8.out.only o6 (by simp))
 have LH := Lib.hid (LG.out.same o6)
 have OH := Lib.hid (OG.out.trans o6 (by simp))
 have s0 := H6.out.cell0 (i := 0) rfl
 have s1 := H6.out.cell0 (i := 1) rfl
 have t0 := H8.out.cell0 (i := 0) rfl
 have t1 := H8.out.cell0 (i := 1) rfl
 have tf := H8.out.free
 clear o6 q0 q1 q2 q3 q4 q5 q6 q7 q8 q9 q10 u0 u1 f6
 go_wp2_with fail
 refine wp_loop_rounds 1 ?_
 rw [rounds_succ]
 go_wp2_with fail
 have f8 := (H8.out.set 0 (.int .i64 ((met : Int) + 1))).set 1 (.slice A5 (bs.length + 1) c5)
 have OF := Lib.hid ((OH.out.set (p := ⟨w.heap.size + 1 + 1, 0, none⟩) (.inr (by show w.heap.size ≤ w.heap.size + 1 + 1; omega)) (.int .i64 ((met : Int) + 1))).set (p := ⟨w.heap.size + 1 + 1, 1, none⟩) (.inr (by show w.heap.size ≤ w.heap.size + 1 + 1; omega)) (.slice A5 (bs.length + 1) c5))
 have LF := Lib.hid ((LH.out.seen H8.out 0 (.int .i64 ((met : Int) + 1))).seen (H8.out.set 0 (.int .i64 ((met : Int) + 1))) 1 (.slice A5 (bs.length + 1) c5))
 generalize (w6.setCell ⟨w.heap.size + 1 + 1, 0, none⟩ (.int .i64 ((met : Int) + 1))).setCell ⟨w.heap.size + 1 + 1, 1, none⟩ (.slice A5 (bs.length + 1) c5) = W8 at *
 have g0 : W8.cell? ⟨w.heap.size + 1 + 1, 0, none⟩ = some (.int .i64 ((met : Int) + 1)) := f8.cell0 rfl
 have g1 : W8.cell? ⟨w.heap.size + 1 + 1, 1, none⟩ = some (.slice A5 (bs.length + 1) c5) := f8.cell0 rfl
 exact bodyPost_ret (v := .tuple #[.agg #[.int .i64 ((met : Int) + 1), .slice A5 (bs.length + 1) c5], .int .i64 0]) (by simp [results, Tryz.results102, go_sem, g0, g1]) rfl ⟨A5, c5, by simp, LF.out, OF.out⟩
end Go.Proofs.YtcdefnbehlcgeaaGreatDoor
