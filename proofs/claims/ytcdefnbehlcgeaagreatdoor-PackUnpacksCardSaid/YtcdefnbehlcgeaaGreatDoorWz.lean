/- code: isWithin, isOp, isAtom, hasFunc, isZero, areArms.. code: jumps, leads: the places in an instruction, where it leads.. code: leads, Effect.. -/
import Derived.Test.YtcdefnbehlcgeaaGreatDoorWy
import Derived.Test.YtcdefnbehlcgeaaGreatDoorWw
set_option maxHeartbeats 8000000
set_option maxRecDepth 20000
set_option linter.unusedSimpArgs false
namespace Go.Proofs.YtcdefnbehlcgeaaGreatDoor
open Go.RowKit
theorem isWithin_any (n a b : Int) (w : World) : Calls Tryz.prog 23 #[.int .i64 n, .int .i64 a, .int .i64 b] w fun e w' => e = .returned (.bool (decide (a ≤ n) && decide (n ≤ b))) ∧ w = w' := by
 by_cases h1 : a ≤ n
 ·by_cases h2 : n ≤ b
  all_goals
   go_enter Tryz.func23, Tryz.ntmps23
   go_wp2_with fail
   go_ret
   exact ⟨ret_bool (by simp [h1, h2]), rfl⟩
 ·have H1 := Lib.hid h1
  go_enter Tryz.func23, Tryz.ntmps23
  go_wp2_with fail
  go_ret
  exact ⟨ret_bool (by rw [decide_eq_false (p := a ≤ n) (by have := H1.out; omega), Bool.false_and]), rfl⟩
def isOpB (n : Int) : Bool := decide (1 ≤ n) && decide (n ≤ 46)
theorem isOpB_yes {n : Int} (h : isOpB n = true) : ∃ j : Nat, n = (j : Int) ∧ 1 ≤ j ∧ j < 47 := by
 simp [isOpB] at h
 exact ⟨n.toNat, by omega, by omega, by omega⟩
theorem isOp_any (n : Int) (w : World) : Calls Tryz.prog 85 #[.int .i64 n] w fun e w' => e = .returned (.bool (isOpB n)) ∧ w = w' := by
 have H := Lib.hid (isWithin_any n 1 46 w)
 go_enter Tryz.func85, Tryz.ntmps85
 go_wp2_with fail
 (with_reducible refine (H.out).mono ?_)
 rintro e w1 ⟨rfl, rfl⟩
 go_wp2_with fail
 go_ret
 exact ⟨rfl, rfl⟩
theorem isOp_yes (n : Int) (h : isOpB n = true) (w : World) : Calls Tryz.prog 85 #[.int .i64 n] w fun e w' => e = .returned (.bool true) ∧ w = w' := by
 have H := isOp_any n w
 rwa [h] at H
theorem chk_atom (s : ByteArray) (h : s.size ≤ 262144) : (chk (.atom s) == 0) = atomOk (lst s) := by
 have ht : ∀ k l, T.atom s ≠ .tup k l := by simp
 have hg : (T.atom s).Good := h
 unfold chk
 rw [thr_leaf ht hg, if_neg (by omega)]
 rw [show okT (.atom s) = atomOk (lst s) from rfl]
 cases atomOk (lst s) <;> rfl
theorem isAtom_any (s : ByteArray) (w : World) (h : s.size ≤ 262144) : Calls Tryz.prog 22 #[.string s] w fun e w' => e = .returned (.bool (atomOk (lst s))) ∧ Only [] w w' := by
 have hc := check_any (.atom s) h (.slice none 0 0) (fun _ => False) w ((TV.leaf (by simp)).2 rfl) (fun _ h => h.elim)
 simp only [T.k, T.n, T.x, T.y, T.S, T.a, T.b] at hc
 have HC := Lib.hid hc
 have HA := Lib.hid (chk_atom s h)
 obtain ⟨z, hz⟩ : ∃ z, chk (.atom s) = z := ⟨_, rfl⟩
 rw [hz] at HC HA
 clear h hz hc
 go_enter Tryz.func22, Tryz.ntmps22
 go_wp2_with fail
 (with_reducible refine (HC.out).mono ?_)
 rintro e w1 ⟨rfl, o1⟩
 have O1 := Lib.hid o1
 clear o1
 go_wp2_with fail
 go_ret
 exact ⟨ret_bool HA.out, O1.out⟩
theorem hasFunc_any (nm : ByteArray) (A : Option Addr) (n c : Nat) (a : Int) (r : Bool) (w : World) (hn : n ≤ 262144) (ha : 0 ≤ a) (hr : decide (a < (n : Int)) = r) : Calls Tryz.prog 84 #[.agg #[.string nm, .slice A n c], .int .i64 a] w fun e w' => e = .returned (.bool r) ∧ Only [] w w' := by
 have HW := Lib.hid (fun w => isWithin_any a 0 ((n : Int) - 1) w)
 have q1 : IntKind.i64.wrap ((n : Int) - 1) = (n : Int) - 1 := IntWalk.i64_in _ (by omega)
 have O := Lib.hid ((Only.refl [] w).alloc (.cells #[.string nm, .slice A n c] 24))
 have HR := Lib.hid (show (decide (0 ≤ a) && decide (a ≤ (n : Int) - 1)) = r by
  rw [← hr, decide_eq_true ha, Bool.true_and]
  exact decide_eq_decide.2 ⟨fun h => by omega, fun h => by omega⟩)
 clear hr ha
 go_enter Tryz.func84, Tryz.ntmps84
 go_wp2_with fail
 (with_reducible refine (HW.out _).mono ?_)
 rintro e w2 ⟨rfl, rfl⟩
 go_wp2_with fail
 go_ret
 exact ⟨ret_bool HR.out, O.out⟩
theorem czero_yes (w : World) : Calls Tryz.prog 82 #[.agg #[.int .i64 0, .int .i64 0, .complex .f64 0 0, .string ⟨#[]⟩, .int .i64 0, .int .i64 0, .slice none 0 0]] w fun e w' => e = .returned (.bool true) ∧ ∃ o, w' = w.alloc o := by
 have z0 := z64
 have e0 := eqPid 0 0 0 0
 go_enter Tryz.func82, Tryz.ntmps82
 go_wp2_with fail
 go_ret
 exact ⟨rfl, _, rfl⟩
theorem czero_no (k n : Int) (x y : Nat) (S : ByteArray) (a b : Int) (A : Option Addr) (m c : Nat) (w : World) (h : k ≠ 0) : Calls Tryz.prog 82 #[.agg #[.int .i64 k, .int .i64 n, .complex .f64 x y, .string S, .int .i64 a, .int .i64 b, .slice A m c]] w fun e w' => e = .returned (.bool false) ∧ ∃ o, w' = w.alloc o := by
 have e0 : (k == 0) = false := by simpa using h
 clear h
 go_enter Tryz.func82, Tryz.ntmps82
 go_wp2_with fail
 go_ret
 exact ⟨rfl, _, rfl⟩
abbrev acs (k n : Int) (t : T) (st sl sr z : Value) : Array Value := #[.int .i64 k, .int .i64 n, .int .i64 t.k, .int .i64 t.n, .complex .f64 t.x t.y, .string t.S, .int .i64 t.a, .int .i64 t.b, st, sl, sr, z]
theorem acs_twelve {k n : Int} {t : T} {st sl sr z : Value} {w : World} {g o : Nat} (h : ∀ q u, ((qcs k n t st sl sr).toList ++ [z])[q]? = some u → w.cell? ⟨g, o + q, none⟩ = some u) :
 w.cell? ⟨g, o, none⟩ = some (.int .i64 k) ∧ w.cell? ⟨g, o + 1, none⟩ = some (.int .i64 n) ∧ w.cell? ⟨g, o + 2, none⟩ = some (.int .i64 t.k) ∧ w.cell? ⟨g, o + 3, none⟩ = some (.int .i64 t.n) ∧ w.cell? ⟨g, o + 4, none⟩ = some (.complex .f64 t.x t.y) ∧ w.cell? ⟨g, o + 5, none⟩ = some (.string t.S) ∧
  w.cell? ⟨g, o + 6, none⟩ = some (.int .i64 t.a) ∧ w.cell? ⟨g, o + 7, none⟩ = some (.int .i64 t.b) ∧ w.cell? ⟨g, o + 8, none⟩ = some st ∧ w.cell? ⟨g, o + 9, none⟩ = some sl ∧ w.cell? ⟨g, o + 10, none⟩ = some sr ∧ w.cell? ⟨g, o + 11, none⟩ = some z :=
 ⟨h 0 _ rfl, h 1 _ rfl, h 2 _ rfl, h 3 _ rfl, h 4 _ rfl, h 5 _ rfl, h 6 _ rfl, h 7 _ rfl, h 8 _ rfl, h 9 _ rfl, h 10 _ rfl, h 11 _ rfl⟩
theorem areArms_any (L : Int) (l : List Arm) (hg : ∀ a ∈ l, a.Good) (sl : Value) (F : Nat → Prop) (r : Bool) (w : World) (h : AL w F l sl) (hF : ∀ b, F b → b < w.heap.size) (hk : KN w) (hr : armsOk L l = r) :
 Calls Tryz.prog 83 #[sl, .int .i64 L] w fun e w' => e = .returned (.bool r) ∧ Only [] w w' := by
 have rs := store_com
 obtain ⟨A, cap, rfl, hlc, hcap, hrows⟩ := h.mk arm_len
 by_cases h32 : 32 < l.length
 ·have p1 : (32 : Int) < (l.length : Int) := by omega
  have HR := Lib.hid (show false = r by rw [← hr]; unfold armsOk; rw [decide_eq_false (by omega), Bool.false_and])
  have HO := Lib.hid (Only.refl [] w)
  clear hr hrows h
  go_enter Tryz.func83, Tryz.ntmps83
  go_wp2_with fail
  go_ret
  exact ⟨ret_bool HR.out, HO.out⟩
 ·have p1 : ¬ (32 : Int) < (l.length : Int) := by omega
  have HA := Lib.hid (show l.all (fun a => decide (qchk L a.pat = 0)) = r by rw [← hr]; unfold armsOk; rw [decide_eq_true (by omega), Bool.true_and])
  have HR := Lib.hid hrows
  have HK := Lib.hid hk
  have HF := Lib.hid hF
  have HG := Lib.hid hg
  clear hr hrows h hk hF hg
  go_enter Tryz.func83, Tryz.ntmps83
  go_wp2_with fail
  go_loopw [12] (fun v wr => ∃ j : Nat, v = .int .i64 j ∧ j ≤ l.length ∧ (l.drop j).all (fun a => decide (qchk L a.pat = 0)) = r ∧ Only [] w wr) (fun v _ => l.length - (intOf v).toNat)
  case atStart => exact ⟨0, rfl, Nat.zero_le _, HA.out, Only.refl _ _⟩
  case round =>
   obtain ⟨j, rfl, hj, hq, ho⟩ := hrel
   have HO := Lib.hid ho
   have HQ := Lib.hid hq
   clear ho hq
   by_cases hjl : j < l.length
   ·rcases HR.out with h0 | ⟨bl, off, rfl, hbl, hFb, hvs⟩
    ·rw [h0] at hjl; simp at hjl
    ·obtain ⟨us, hds, hcs⟩ := hvs j (l[j]'hjl) (List.getElem?_eq_getElem hjl)
     obtain ⟨st', sl', sr', rfl, htv⟩ := arm_cells _ hds
     have htv : PV w F (l[j]'hjl).pat st' sl' sr' := htv
     obtain ⟨S', s1', s2', A', c', B', c2, rfl, rfl, rfl⟩ := htv.slices
     obtain ⟨n', hn'⟩ : ∃ n', (l[j]'hjl).pat.l.length = n' := ⟨_, rfl⟩
     obtain ⟨n2, hn2⟩ : ∃ n2, (l[j]'hjl).pat.r.length = n2 := ⟨_, rfl⟩
     rw [hn', hn2] at htv hcs
     have hcs2 : ∀ q u, ((qcs (l[j]'hjl).pat.k (l[j]'hjl).pat.n (l[j]'hjl).pat.tm (.slice S' s1' s2') (.slice A' n' c') (.slice B' n2 c2)).toList ++ [.int .i64 (l[j]'hjl).goes])[q]? = some u → wr.cell? ⟨bl, off + j * 12 + q, none⟩ = some u := fun q u hu => (HO.out.cell (p := ⟨bl, off + j * 12 + q, none⟩) hbl (by simp)).trans (hcs q u hu)
     obtain ⟨r0, r1, r2, r3, r4, r5, r6, r7, r8, r9, r10, r11⟩ := acs_twelve hcs2
     have HGd := Lib.hid (HG.out _ (List.getElem_mem hjl)).1
     have HD := Lib.hid (show l.drop j = l[j]'hjl :: l.drop (j + 1) from List.drop_eq_getElem_cons hjl)
     have HTV := Lib.hid (htv.same HO.out)
     clear hcs hcs2 htv hvs hds hn' hn2
     generalize l[j]'hjl = u at HD HTV HGd r0 r1 r2 r3 r4 r5 r6 r7 r8 r9 r10 r11
     have hq2 := HQ.out
     rw [HD.out, List.all_cons] at hq2
     have HQ2 := Lib.hid hq2
     clear hq2
     obtain ⟨p, hp⟩ : ∃ p, u.pat = p := ⟨_, rfl⟩
     rw [hp] at HTV HGd HQ2 r0 r1 r2 r3 r4 r5 r6 r7
     obtain ⟨gz, hgz⟩ : ∃ gz, u.goes = gz := ⟨_, rfl⟩
     rw [hgz] at r11
     clear hp hgz HD
     have oA : Only [] wr (wr.alloc (.cells (acs p.k p.n p.tm (.slice S' s1' s2') (.slice A' n' c') (.slice B' n2 c2) (.int .i64 gz)) 90)) := (Only.refl [] wr).alloc _
     have HC := Lib.hid (qcheck_any L p HGd.out _ _ _ F _ (HTV.out.same oA) (fun b hb => Nat.lt_of_lt_of_le (HF.out b hb) (Nat.le_trans HO.out.size oA.size)) ((HK.out.same HO.out).same oA))
     have OA := Lib.hid (HO.out.trans oA (by simp))
     obtain ⟨z, hz⟩ : ∃ z, qchk L p = z := ⟨_, rfl⟩
     rw [hz] at HC HQ2
     clear oA hz
     go_wp2_with fail
     (with_reducible refine (HC.out).mono ?_)
     rintro e w2 ⟨rfl, o2⟩
     have O2 := Lib.hid (OA.out.trans o2 (by simp))
     clear o2
     by_cases hz : z = 0
     ·subst hz
      have HN := Lib.hid (show ∃ j' : Nat, Value.int .i64 ((j : Int) + 1) = .int .i64 (j' : Int) ∧ j' ≤ l.length ∧ (l.drop j').all (fun a => decide (qchk L a.pat = 0)) = r ∧ Only [] w w2 from ⟨j + 1, by go_num, by omega, by simpa using HQ2.out, O2.out⟩)
      go_wp2_with fail
      go_roundw
      case rel => exact HN.out
      case measure => simp [intOf]; omega
     ·have hne : (z != 0) = true := by simpa using hz
      have HE := Lib.hid (show false = r by rw [← HQ2.out, decide_eq_false hz, Bool.false_and])
      clear hz
      go_wp2_with fail
      go_ret
      exact ⟨ret_bool HE.out, O2.out⟩
   ·have hje : j = l.length := by omega
    subst hje
    have HE := Lib.hid (show true = r by rw [← HQ.out, List.drop_length]; rfl)
    clear hj
    go_wp2_with fail
    go_ret
    exact ⟨ret_bool HE.out, HO.out⟩
open Go.RowKit
theorem Only.own {w wr w' : World} {v : Value} {xs : List Int} {base : Nat} (h : IR wr base v xs) (hb : w.heap.size ≤ base) (o : Only [] w wr) (o2 : Only v.ownBlock.toList wr w') : Only [] w w' :=
 o.trans o2 (fun i hi => .inr (Nat.le_trans hb (h.block (g := i) (by simpa using hi)).1))
def JRel (w : World) (l : List Arm) (R : List Int) (lv iv : Value) (wr : World) : Prop :=
 ∃ (j : Nat) (xs : List Int) (A1 : Option Addr) (c1 : Nat), iv = .int .i64 j ∧ j ≤ l.length ∧ lv = .slice A1 xs.length c1 ∧ xs.length ≤ j + 1 ∧ IR wr w.heap.size (.slice A1 xs.length c1) xs ∧ xs ++ (l.drop j).map Arm.goes = R ∧ Only [] w wr
def ToE (w : World) (R : List Int) (e : Ending) (w' : World) : Prop := ∃ A' c', e = .returned (.slice A' R.length c') ∧ IR w' w.heap.size (.slice A' R.length c') R ∧ Only [] w w'
theorem jumps_go (op a b : Int) (t : T) (st : Value) (A : Option Addr) (n c : Nat) (l : List Arm) (F : Nat → Prop) (R : List Int) (w : World) (h : AL w F l (.slice A n c)) (hl : l.length ≤ 262144)
 (hop : (op = 25 ∧ a :: l.map Arm.goes = R) ∨ (op = 26 ∧ a :: l.map Arm.goes = R) ∨ (op = 27 ∧ a :: l.map Arm.goes = R) ∨ (op = 33 ∧ b ≠ -1 ∧ a :: l.map Arm.goes = R) ∨ (op = 33 ∧ b = -1 ∧ l.map Arm.goes = R) ∨ (op ≠ 25 ∧ op ≠ 26 ∧ op ≠ 27 ∧ op ≠ 33 ∧ l.map Arm.goes = R)) :
 Calls Tryz.prog 49 #[.agg (ics op a b t st (.slice A n c))] w fun e w' => ToE w R e w' := by
 have rs := store_com
 obtain ⟨A', cap', hv, hlc, hcap, hrows⟩ := h.mk arm_len
 injection hv with hv1 hv2 hv3
 subst hv1 hv2 hv3
 have HR := Lib.hid hrows
 have O0 := Lib.hid ((Only.refl [] w).alloc (.cells (ics op a b t st (.slice A l.length c)) 55))
 have B0 := Lib.hid (Bk.made w 55 (ics op a b t st (.slice A l.length c)))
 have NI := Lib.hid (IR.nil (w.alloc (.cells (ics op a b t st (.slice A l.length c)) 55)) w.heap.size)
 clear h hrows
 rcases hop with ⟨rfl, hR⟩ | ⟨rfl, hR⟩ | ⟨rfl, hR⟩ | ⟨rfl, hb, hR⟩ | ⟨rfl, rfl, hR⟩ | ⟨h1, h2, h3, h4, hR⟩
 case' inr.inr.inr.inl => have e1 : (b != -1) = true := by simpa using hb
 case' inr.inr.inr.inr.inr =>
  have e1 : (op == 25) = false := by simpa using h1
  have e2 : (op == 26) = false := by simpa using h2
  have e3 : (op == 27) = false := by simpa using h3
  have e4 : (op == 33) = false := by simpa using h4
  clear h1 h2 h3 h4
 all_goals
  have HRR := Lib.hid hR
  clear hR
  go_enter Tryz.func49, Tryz.ntmps49
  go_wp2_with (at_builtin; refine wpList_app1 (by rfl) _ _ (by rfl) w.heap.size none 0 0 [] (by rfl) (IR.nil _ _) rfl (w.heap.size + 1) a (by rfl) (Bk.madeAt (by simp)) (by omega) (by simp; omega) ?_; intro A1 c1 w1 i1 o1 n1; have I1 := Lib.hid i1; have O1 := Lib.hid ((O0.out.alloc (.cells #[.int .i64 a] 3)).trans o1 (by simp [Value.ownBlock])); have B1 := Lib.hid ((B0.out.alloc (.cells #[.int .i64 a] 3)).only o1 (by simp [Value.ownBlock])); have d10 := B1.out.cell0 (i := 10) rfl; clear i1 o1 n1)
  go_loopw [3, 30] (fun lv iv wr => JRel w l R lv iv wr) (fun _ iv _ => l.length - (intOf iv).toNat)
  case atStart => first
   | exact ⟨0, [a], A1, c1, rfl, Nat.zero_le _, rfl, Nat.le_refl _, I1.out, HRR.out, O1.out⟩
   | exact ⟨0, [], none, 0, rfl, Nat.zero_le _, rfl, Nat.zero_le _, NI.out, HRR.out, O0.out⟩
  case round =>
   obtain ⟨j, xs, A1', c1', rfl, hj, rfl, hxs, hi, hx, ho⟩ := hrel
   have HI := Lib.hid hi
   have HX := Lib.hid hx
   have HO := Lib.hid ho
   clear hi hx ho
   by_cases hjl : j < l.length
   ·rcases HR.out with h0 | ⟨bl, off, rfl, hbl, hFb, hvs⟩
    ·rw [h0] at hjl; simp at hjl
    ·obtain ⟨us, hds, hcs⟩ := hvs j (l[j]'hjl) (List.getElem?_eq_getElem hjl)
     obtain ⟨st', sl', sr', rfl, htv⟩ := arm_cells _ hds
     have htv : PV w F (l[j]'hjl).pat st' sl' sr' := htv
     obtain ⟨S', s1', s2', A', c', B', c2, rfl, rfl, rfl⟩ := htv.slices
     have hcs2 : ∀ q u, ((qcs (l[j]'hjl).pat.k (l[j]'hjl).pat.n (l[j]'hjl).pat.tm (.slice S' s1' s2') (.slice A' (l[j]'hjl).pat.l.length c') (.slice B' (l[j]'hjl).pat.r.length c2)).toList ++ [.int .i64 (l[j]'hjl).goes])[q]? = some u → wr.cell? ⟨bl, off + j * 12 + q, none⟩ = some u := fun q u hu => (HO.out.cell (p := ⟨bl, off + j * 12 + q, none⟩) hbl (by simp)).trans (hcs q u hu)
     obtain ⟨r0, r1, r2, r3, r4, r5, r6, r7, r8, r9, r10, r11⟩ := acs_twelve hcs2
     have HD := Lib.hid (show l.drop j = l[j]'hjl :: l.drop (j + 1) from List.drop_eq_getElem_cons hjl)
     clear hcs hcs2 htv hvs hds
     generalize l[j]'hjl = u at HD r0 r1 r2 r3 r4 r5 r6 r7 r8 r9 r10 r11
     have hx2 := HX.out
     rw [HD.out, List.map_cons] at hx2
     have HX2 := Lib.hid hx2
     clear hx2
     obtain ⟨gz, hgz⟩ : ∃ gz, u.goes = gz := ⟨_, rfl⟩
     rw [hgz] at r11 HX2
     generalize u.pat = p at r0 r1 r2 r3 r4 r5 r6 r7 r8 r9 r10
     clear hgz HD
     have hsz := HO.out.size
     have BA := Lib.hid (Bk.made wr 90 (acs p.k p.n p.tm (.slice S' s1' s2') (.slice A' p.l.length c') (.slice B' p.r.length c2) (.int .i64 gz)))
     go_wp2_with (at_builtin; refine wpList_app1 (by rfl) _ _ (by rfl) w.heap.size A1' xs.length c1' xs (by rfl) ((HI.out.same ((Only.refl [] wr).alloc _)).same ((Only.refl [] _).alloc _)) rfl (wr.heap.size + 1) gz (by rfl) (Bk.madeAt (by simp)) (by omega) (by simp; omega) ?_; intro A2 c2 w2 i2 o2 n2; have I2 := Lib.hid i2; have O2 := Lib.hid (Only.own HI.out (Nat.le_refl _) HO.out ((((Only.refl [] wr).alloc _).alloc _ |>.more (by simp)).trans o2 (fun i hi => .inl hi))); clear i2 o2 n2)
     have HN := Lib.hid (show JRel w l R (.slice A2 (xs.length + 1) c2) (.int .i64 ((j : Int) + 1)) w2 from
      ⟨j + 1, xs ++ [gz], A2, c2, by go_num, by omega, by rw [List.length_append]; rfl, by rw [List.length_append, List.length_singleton]; omega, by rw [List.length_append, List.length_singleton]; exact I2.out, by rw [List.append_assoc]; exact HX2.out, O2.out⟩)
     go_roundw
     case rel => exact HN.out
     case measure => simp [intOf]; omega
   ·have hje : j = l.length := by omega
    subst hje
    have hx2 := HX.out
    rw [List.drop_length, List.map_nil, List.append_nil] at hx2
    have HE := Lib.hid (show ToE w R (.returned (.slice A1' xs.length c1')) wr from by subst hx2; exact ⟨A1', c1', rfl, HI.out, HO.out⟩)
    clear hj hx2
    go_wp2_with fail
    go_ret
    exact HE.out
theorem jumps_any (i : In) (hl : i.arms.length ≤ 262144) (st : Value) (A : Option Addr) (n c : Nat) (F : Nat → Prop) (w : World) (h : AL w F i.arms (.slice A n c)) :
 Calls Tryz.prog 49 #[.agg (ics i.op i.a i.b i.t st (.slice A n c))] w fun e w' => ToE w i.to e w' := by
 refine jumps_go i.op i.a i.b i.t st A n c i.arms F i.to w h hl ?_
 unfold In.to
 by_cases h1 : i.op = 25
 ·exact .inl ⟨h1, by rw [if_pos (.inl h1)]; rfl⟩
 by_cases h2 : i.op = 26
 ·exact .inr (.inl ⟨h2, by rw [if_pos (.inr (.inl h2))]; rfl⟩)
 by_cases h3 : i.op = 27
 ·exact .inr (.inr (.inl ⟨h3, by rw [if_pos (.inr (.inr (.inl h3)))]; rfl⟩))
 by_cases h4 : i.op = 33
 ·by_cases h5 : i.b = -1
  ·exact .inr (.inr (.inr (.inr (.inl ⟨h4, h5, by rw [if_neg (by intro h; rcases h with h | h | h | h; exact h1 h; exact h2 h; exact h3 h; exact h.2 h5)]; rfl⟩))))
  ·exact .inr (.inr (.inr (.inl ⟨h4, h5, by rw [if_pos (.inr (.inr (.inr ⟨h4, h5⟩)))]; rfl⟩)))
 ·exact .inr (.inr (.inr (.inr (.inr ⟨h1, h2, h3, h4, by rw [if_neg (by intro h; rcases h with h | h | h | h; exact h1 h; exact h2 h; exact h3 h; exact h4 h.1)]; rfl⟩))))
open Go.RowKit
theorem leads_any (i : In) (hl : i.arms.length ≤ 262144) (at_ : Nat) (hat : at_ ≤ 262144) (st : Value) (A : Option Addr) (n c : Nat) (F : Nat → Prop) (w : World) (h : AL w F i.arms (.slice A n c)) :
 Calls Tryz.prog 100 #[.agg (ics i.op i.a i.b i.t st (.slice A n c)), .int .i64 at_] w fun e w' => ToE w (i.leads at_) e w' := by
 have rs := store_com
 have HJ := Lib.hid (fun w1 (o1 : Only [] w w1) => jumps_any i hl st A n c F w1 (h.same o1))
 have hlen : i.to.length ≤ 262145 := by
  unfold In.to
  rw [List.length_append, List.length_map]
  split <;> simp <;> omega
 have O0 := Lib.hid ((Only.refl [] w).alloc (.cells (ics i.op i.a i.b i.t st (.slice A n c)) 55))
 by_cases hop : i.op = 25 ∨ i.op = 27 ∨ i.op = 33 ∨ i.op = 29 ∨ i.op = 45
 ·have hR : i.leads at_ = i.to := by unfold In.leads; rw [if_pos hop]; rfl
  rw [hR]
  obtain ⟨R, hRR⟩ : ∃ R, i.to = R := ⟨_, rfl⟩
  rw [hRR] at HJ hlen ⊢
  clear hR hRR h
  generalize i.op = op, i.a = a, i.b = b, i.t = t at *
  rcases hop with rfl | rfl | rfl | rfl | rfl
  all_goals
   go_enter Tryz.func100, Tryz.ntmps100
   go_wp2_with fail
   (with_reducible refine (HJ.out _ O0.out).mono ?_)
   rintro e w1 ⟨A', c', rfl, hi, o1⟩
   have HE := Lib.hid (show ToE w R (.returned (.slice A' R.length c')) w1 from ⟨A', c', rfl, ⟨hi.1, hi.2.imp id fun ⟨g, cap, cur, h1, h2, h3⟩ => ⟨g, cap, cur, h1, Nat.le_trans O0.out.size h2, h3⟩⟩, O0.out.trans o1 (by simp)⟩)
   clear hi o1
   go_wp2_with fail
   go_ret
   exact HE.out
 ·have hR : i.leads at_ = [(at_ : Int) + 1] ++ i.to := by unfold In.leads; rw [if_neg hop]
  rw [hR]
  obtain ⟨R, hRR⟩ : ∃ R, i.to = R := ⟨_, rfl⟩
  rw [hRR] at HJ hlen ⊢
  clear hR hRR h
  generalize i.op = op, i.a = a, i.b = b, i.t = t at *
  have e1 : (op == 25) = false := by simp; omega
  have e2 : (op == 27) = false := by simp; omega
  have e3 : (op == 33) = false := by simp; omega
  have e4 : (op == 29) = false := by simp; omega
  have e5 : (op == 45) = false := by simp; omega
  have q1 : IntKind.i64.wrap ((at_ : Int) + 1) = (at_ : Int) + 1 := IntWalk.i64_in _ (by omega)
  have O1 := Lib.hid (O0.out.alloc (.cells #[.int .i64 ((at_ : Int) + 1)] 3))
  have B1 := Lib.hid (Bk.madeAt (w := w.alloc (.cells (ics op a b t st (.slice A n c)) 55)) (t := 3) (cs := #[.int .i64 ((at_ : Int) + 1)]) (b := w.heap.size + 1) (by simp))
  clear hop
  go_enter Tryz.func100, Tryz.ntmps100
  go_wp2_with fail
  (with_reducible refine (HJ.out _ O1.out).mono ?_)
  rintro e w1 ⟨A', c', rfl, hi, o1⟩
  obtain ⟨A2, cap2, hv2, hlies⟩ := hi.slice
  injection hv2 with hv3 hv4 hv5
  subst hv3 hv5
  have HL := Lib.hid hlies
  have O2 := Lib.hid (O1.out.trans o1 (by simp))
  have I1 := Lib.hid (IR.made (B1.out.only o1 (by simp)) (base := w.heap.size) (by omega))
  have hsz := O2.out.size
  clear hi o1 hlies
  go_wp2_with (at_builtin; refine wpList_appL (by rfl) _ _ (by rfl) w.heap.size (some ⟨w.heap.size + 1, 0, none⟩) 1 1 [(at_ : Int) + 1] (by rfl) I1.out rfl A' R.length c' R (by rfl) rfl HL.out (by omega) hsz ?_; intro A3 c3 w3 i3 o3 n3; have I3 := Lib.hid i3; have O3 := Lib.hid (Only.own I1.out (Nat.le_refl _) O2.out o3); clear i3 o3 n3)
  have HE := Lib.hid (show ToE w ([(at_ : Int) + 1] ++ R) (.returned (.slice A3 (1 + R.length) c3)) w3 from ⟨A3, c3, by rw [List.length_append, List.length_singleton], by rw [List.length_append, List.length_singleton]; exact I3.out, O3.out⟩)
  go_ret
  exact HE.out
theorem plain_any (j : Nat) (w : World) (h1 : 1 ≤ j) (h2 : j < 47) (h3 : j ≠ 3) (h4 : j ≠ 18) (h5 : j ≠ 19) (h6 : j ≠ 28) (h7 : j ≠ 34) : Calls Tryz.prog 112 #[.int .i64 (j : Int)] w fun e w' => e = .returned (.tuple #[.int .i64 (tkl.getD j 0), .int .i64 (lvl.getD j 0)]) ∧ w = w' := by
 rcases j with _ | _ | _ | _ | _ | _ | _ | _ | _ | _ | _ | _ | _ | _ | _ | _ | _ | _ | _ | _ | _ | _ | _ | _ | _ | _ | _ | _ | _ | _ | _ | _ | _ | _ | _ | _ | _ | _ | _ | _ | _ | _ | _ | _ | _ | _ | _ | j
 ·omega
 all_goals first
  | omega
  | (go_enter Tryz.func112, Tryz.ntmps112
     go_wp2_with fail
     exact bodyPost_ret (v := .tuple #[.int .i64 (tkl.getD _ 0), .int .i64 (lvl.getD _ 0)]) (by simp [results, Tryz.results112, go_sem]; try exact ⟨rfl, rfl⟩) rfl ⟨rfl, rfl⟩)
theorem fcs_at {w : World} {F : Nat → Prop} {fs : List Fu} {FA : Option Addr} {nf cf : Nat} (h : FL w F fs (.slice FA nf cf)) {k : Nat} (hk : k < fs.length) :
 ∃ bl off sc, FA = some ⟨bl, off, none⟩ ∧ bl < w.heap.size ∧ F bl ∧ nf = fs.length ∧ IL w F (fs[k]'hk).code sc ∧ w.cell? ⟨bl, off + k * 4, none⟩ = some (.string (fs[k]'hk).name) ∧ w.cell? ⟨bl, off + k * 4 + 1, none⟩ = some (.int .i64 (fs[k]'hk).params) ∧ w.cell? ⟨bl, off + k * 4 + 2, none⟩ = some (.int .i64 (fs[k]'hk).locals) ∧ w.cell? ⟨bl, off + k * 4 + 3, none⟩ = some sc := by
 obtain ⟨A, cap, hv, h1, h2, h3⟩ := h.mk fu_len
 injection hv with hv1 hv2 hv3
 subst hv1 hv2
 rcases h3 with h3 | ⟨bl, off, rfl, h4, h5, h6⟩
 ·rw [h3] at hk; simp at hk
 ·obtain ⟨us, h7, h8⟩ := h6 k _ (List.getElem?_eq_getElem hk)
  obtain ⟨sc, rfl, h9⟩ := fu_cells _ h7
  exact ⟨bl, off, sc, rfl, h4, h5, rfl, h9, h8 0 _ rfl, h8 1 _ rfl, h8 2 _ rfl, h8 3 _ rfl⟩
def EffE (w : World) (q : Int × Int) (e : Ending) (w' : World) : Prop := e = .returned (.tuple #[.int .i64 q.1, .int .i64 q.2, .int .i64 0]) ∧ Only [] w w'
theorem effect_go (nm : ByteArray) (FA : Option Addr) (nf cf : Nat) (fs : List Fu) (F : Nat → Prop) (op a b : Int) (t : T) (st sa : Value) (q : Int × Int) (w : World) (hf : FL w F fs (.slice FA nf cf)) (hl : nf ≤ 262144) (ho : isOpB op = true)
 (hc : (op = 3 ∧ 0 ≤ a ∧ a ≤ 254 ∧ (a + 1, a + 2) = q) ∨ (op = 18 ∧ 0 ≤ a ∧ a ≤ 255 ∧ (a, 1) = q) ∨ (op = 19 ∧ 0 ≤ a ∧ a ≤ 255 ∧ (a, 1) = q) ∨
   (op = 28 ∧ ∃ (k : Nat) (h : k < fs.length), a = (k : Int) ∧ 0 ≤ (fs[k]'h).params ∧ ((fs[k]'h).params, 1) = q) ∨ (op = 34 ∧ ∃ (k : Nat) (h : k < fs.length), a = (k : Int) ∧ 0 ≤ (fs[k]'h).params ∧ ((fs[k]'h).params, 1) = q) ∨
   (op ≠ 3 ∧ op ≠ 18 ∧ op ≠ 19 ∧ op ≠ 28 ∧ op ≠ 34 ∧ (tkl.getD op.toNat 0, lvl.getD op.toNat 0) = q)) :
 Calls Tryz.prog 99 #[.agg #[.string nm, .slice FA nf cf], .agg (ics op a b t st sa)] w fun e w' => EffE w q e w' := by
 have rs := store_com
 have BM := Lib.hid ((Bk.made w 24 #[.string nm, .slice FA nf cf]).alloc (.cells (ics op a b t st sa) 55))
 have BI := Lib.hid (Bk.madeAt (w := w.alloc (.cells #[.string nm, .slice FA nf cf] 24)) (t := 55) (cs := ics op a b t st sa) (b := w.heap.size + 1) (by simp))
 have O0 := Lib.hid (((Only.refl [] w).alloc (.cells #[.string nm, .slice FA nf cf] 24)).alloc (.cells (ics op a b t st sa) 55))
 have HF := Lib.hid hf
 rcases hc with ⟨rfl, h1, h2, rfl⟩ | hc
 ·have HW := Lib.hid (fun w => isWithin_any a 0 256 w)
  rw [show (decide (0 ≤ a) && decide (a ≤ 256)) = true by rw [decide_eq_true h1, decide_eq_true (p := a ≤ 256) (by omega)]; rfl] at HW
  have q1 : IntKind.i64.wrap (a + 1) = a + 1 := IntWalk.i64_in _ (by omega)
  have q2 : IntKind.i64.wrap (a + 2) = a + 2 := IntWalk.i64_in _ (by omega)
  have k1 := BI.out.cell0 (i := 1) rfl
  clear hf h1 h2 hl
  go_enter Tryz.func99, Tryz.ntmps99
  go_wp2_with fail
  (with_reducible refine (isOp_yes _ ho _).mono ?_)
  rintro e w1 ⟨rfl, rfl⟩
  go_wp2_with fail
  (with_reducible refine (HW.out _).mono ?_)
  rintro e w1 ⟨rfl, rfl⟩
  go_wp2_with fail
  go_quiet (fail)
  go_wp2_with fail
  exact bodyPost_ret (v := .tuple #[.int .i64 (a + 1), .int .i64 (a + 2), .int .i64 0]) (by simp [results, Tryz.results99, go_sem]) rfl ⟨rfl, O0.out.drewN _⟩
 rcases hc with hc | hc | hc
 all_goals try (
  obtain ⟨rfl, h1, h2, rfl⟩ := hc
  have HW := Lib.hid (fun w => isWithin_any a 0 256 w)
  rw [show (decide (0 ≤ a) && decide (a ≤ 256)) = true by rw [decide_eq_true h1, decide_eq_true (p := a ≤ 256) (by omega)]; rfl] at HW
  have k1 := BI.out.cell0 (i := 1) rfl
  clear hf h1 h2 hl
  go_enter Tryz.func99, Tryz.ntmps99
  go_wp2_with fail
  (with_reducible refine (isOp_yes _ ho _).mono ?_)
  rintro e w1 ⟨rfl, rfl⟩
  go_wp2_with fail
  (with_reducible refine (HW.out _).mono ?_)
  rintro e w1 ⟨rfl, rfl⟩
  go_wp2_with fail
  exact bodyPost_ret (v := .tuple #[.int .i64 a, .int .i64 1, .int .i64 0]) (by simp [results, Tryz.results99, go_sem]) rfl ⟨rfl, O0.out⟩)
 rcases hc with hc | hc | hc
 all_goals try (
  obtain ⟨rfl, k, hk, rfl, h1, rfl⟩ := hc
  obtain ⟨bl, off, sc, rfl, h2, h3, rfl, h4, c0, c1, c2, c3⟩ := fcs_at hf hk
  have HS := Lib.hid (fun w1 => hasFunc_any nm (some ⟨bl, off, none⟩) fs.length cf (k : Int) true w1 hl (by omega) (decide_eq_true (by omega)))
  have k1 := BI.out.cell0 (i := 1) rfl
  have m0 := BM.out.cell0 (i := 0) rfl
  have m1 := BM.out.cell0 (i := 1) rfl
  have hkl : (k : Int) < (fs.length : Int) := by omega
  generalize (fs[k]'hk).params = pr at *
  have hp : ¬ pr < 0 := by omega
  clear hf hl h4 c0 c2 c3 h1
  go_enter Tryz.func99, Tryz.ntmps99
  go_wp2_with fail
  (with_reducible refine (isOp_yes _ ho _).mono ?_)
  rintro e w1 ⟨rfl, rfl⟩
  go_wp2_with fail
  (with_reducible refine (HS.out _).mono ?_)
  rintro e w1 ⟨rfl, o1⟩
  have O1 := Lib.hid (O0.out.trans o1 (by simp))
  have BM1 := Lib.hid (BM.out.only o1 (by simp))
  have BI1 := Lib.hid (BI.out.only o1 (by simp))
  have x1 := BI1.out.cell0 (i := 1) rfl
  have y1 := BM1.out.cell0 (i := 1) rfl
  have z1 : w1.cell? ⟨bl, off + k * 4 + 1, none⟩ = some (.int .i64 pr) := (O1.out.cell (p := ⟨bl, off + k * 4 + 1, none⟩) h2 (by simp)).trans c1
  clear o1 c1 k1 m0 m1
  go_wp2_with fail
  exact bodyPost_ret (v := .tuple #[.int .i64 pr, .int .i64 1, .int .i64 0]) (by simp [results, Tryz.results99, go_sem]) rfl ⟨rfl, O1.out⟩)
 obtain ⟨h3, h18, h19, h28, h34, rfl⟩ := hc
 obtain ⟨j, rfl, hj1, hj2⟩ := isOpB_yes ho
 have HP := Lib.hid (fun w => plain_any j w hj1 hj2 (by omega) (by omega) (by omega) (by omega) (by omega))
 have e1 : ((j : Int) == 3) = false := by simp; omega
 have e2 : ((j : Int) == 18) = false := by simp; omega
 have e3 : ((j : Int) == 19) = false := by simp; omega
 have e4 : ((j : Int) == 28) = false := by simp; omega
 have e5 : ((j : Int) == 34) = false := by simp; omega
 rw [Int.toNat_natCast]
 generalize tkl.getD j 0 = tk at *
 generalize lvl.getD j 0 = lv at *
 clear hf hl h3 h18 h19 h28 h34 hj1 hj2
 go_enter Tryz.func99, Tryz.ntmps99
 go_wp2_with fail
 (with_reducible refine (isOp_yes _ ho _).mono ?_)
 rintro e w1 ⟨rfl, rfl⟩
 go_wp2_with fail
 (with_reducible refine (HP.out _).mono ?_)
 rintro e w1 ⟨rfl, rfl⟩
 go_wp2_with fail
 exact bodyPost_ret (v := .tuple #[.int .i64 tk, .int .i64 lv, .int .i64 0]) (by simp [results, Tryz.results99, go_sem]) rfl ⟨rfl, O0.out⟩
end Go.Proofs.YtcdefnbehlcgeaaGreatDoor
