/- The document: Goes, Atom, zeroTerm, arms.. Heights: what is found, step by step (pure).. -/
import Derived.Test.YtcdefnbehlcgeaaGreatDoorWba
import Derived.Test.YtcdefnbehlcgeaaGreatDoorWy
set_option maxHeartbeats 8000000
set_option maxRecDepth 20000
set_option linter.unusedSimpArgs false
namespace Go.Proofs.YtcdefnbehlcgeaaGreatDoor
open Go.RowKit
theorem IR.weaken {w : World} {b b' : Nat} {v : Value} {xs : List Int} (h : IR w b v xs) (hb : b' ≤ b) : IR w b' v xs := ⟨h.1, h.2.imp id fun ⟨g, cap, cur, h1, h2, h3⟩ => ⟨g, cap, cur, h1, Nat.le_trans hb h2, h3⟩⟩
theorem goes_any (i : In) (hl : i.arms.length ≤ 262144) (at_ : Nat) (hat : at_ ≤ 262144) (st : Value) (A : Option Addr) (n c : Nat) (F : Nat → Prop) (w : World) (h : AL w F i.arms (.slice A n c)) :
 Calls Tryz.prog 62 #[.agg (ics i.op i.a i.b i.t st (.slice A n c)), .int .i64 at_] w fun e w' => ToE w (i.leads at_) e w' := by
 have rs := store_com
 have HJ := Lib.hid (fun w1 (o1 : Only [] w w1) => rleads_any i hl st A n c F w1 (h.same o1))
 have hlen : i.to.length ≤ 262145 := by
  unfold In.to
  rw [List.length_append, List.length_map]
  split <;> simp <;> omega
 have O0 := Lib.hid ((Only.refl [] w).alloc (.cells (ics i.op i.a i.b i.t st (.slice A n c)) 55))
 have B0 := Lib.hid (Bk.made w 55 (ics i.op i.a i.b i.t st (.slice A n c)))
 by_cases hop : i.op = 25 ∨ i.op = 27 ∨ i.op = 33 ∨ i.op = 29 ∨ i.op = 45
 ·have hR : i.leads at_ = i.to := by unfold In.leads; rw [if_pos hop]; rfl
  rw [hR]
  obtain ⟨R, hRR⟩ : ∃ R, i.to = R := ⟨_, rfl⟩
  rw [hRR] at HJ hlen ⊢
  clear hR hRR h
  generalize i.op = op, i.a = a, i.b = b, i.t = t at *
  rcases hop with rfl | rfl | rfl | rfl | rfl
  all_goals
   go_enter Tryz.func62, Tryz.ntmps62
   go_wp2_with fail
   (with_reducible refine (HJ.out _ O0.out).mono ?_)
   rintro e w1 ⟨A', c', rfl, hi, o1⟩
   obtain ⟨A2, cap2, hv2, hlies⟩ := hi.slice
   injection hv2 with hv3 hv4 hv5
   subst hv3 hv5
   have HL := Lib.hid hlies
   have O1 := Lib.hid (O0.out.trans o1 (by simp))
   have hsz := O1.out.size
   clear hi o1 hlies
   go_wp2_with (at_builtin; refine wpList_appL (by rfl) _ _ (by rfl) w.heap.size none 0 0 [] (by rfl) (IR.nil _ _) rfl A' R.length c' R (by rfl) rfl HL.out (by omega) hsz ?_; intro A3 c3 w3 i3 o3 n3; have I3 := Lib.hid i3; have O3 := Lib.hid (O1.out.trans o3 (by simp [Value.ownBlock])); clear i3 o3 n3)
   have HE := Lib.hid (show ToE w R (.returned (.slice A3 R.length c3)) w3 from ⟨A3, c3, rfl, by have := I3.out; rw [Nat.zero_add] at this; exact this, O3.out⟩)
   try go_wp2_with fail
   go_ret
   exact HE.out
 ·have hR : i.leads at_ = [(at_ : Int) + 1] ++ i.to := by unfold In.leads; rw [if_neg hop]
  rw [hR]
  obtain ⟨R, hRR⟩ : ∃ R, i.to = R := ⟨_, rfl⟩
  rw [hRR] at HJ hlen ⊢
  clear hR hRR h
  generalize i.op = op, i.a = a, i.b = b, i.t = t at *
  have e1 : (op != 25) = true := by simp; omega
  have e2 : (op != 27) = true := by simp; omega
  have e3 : (op != 33) = true := by simp; omega
  have e4 : (op != 29) = true := by simp; omega
  have e5 : (op != 45) = true := by simp; omega
  have q1 : IntKind.i64.wrap ((at_ : Int) + 1) = (at_ : Int) + 1 := IntWalk.i64_in _ (by omega)
  clear hop
  go_enter Tryz.func62, Tryz.ntmps62
  go_upto_if 28 with fail
  go_wp2_with (at_builtin; refine wpList_app1 (by rfl) _ _ (by rfl) (w.heap.size + 1) none 0 0 [] (by rfl) (IR.nil _ _) rfl (w.heap.size + 1) ((at_ : Int) + 1) (by rfl) (Bk.madeAt (by simp)) (by omega) (by simp) ?_; intro A1 c1 w1 i1 o1 n1; have I1 := Lib.hid i1; have O1 := Lib.hid ((O0.out.alloc (.cells #[.int .i64 ((at_ : Int) + 1)] 3)).trans o1 (by simp [Value.ownBlock])); have B1 := Lib.hid ((B0.out.alloc (.cells #[.int .i64 ((at_ : Int) + 1)] 3)).only o1 (by simp [Value.ownBlock])); obtain ⟨d0, d1, d2, d3, d4, d5, d6, d7, d8, d9, d10⟩ := B1.out.elevenH; clear i1 o1 n1)
  (with_reducible refine (HJ.out _ O1.out).mono ?_)
  rintro e w2 ⟨A', c', rfl, hi, o2⟩
  obtain ⟨A2, cap2, hv2, hlies⟩ := hi.slice
  injection hv2 with hv3 hv4 hv5
  subst hv3 hv5
  have HL := Lib.hid hlies
  have O2 := Lib.hid (O1.out.trans o2 (by simp))
  have I2 := Lib.hid ((I1.out.same o2).weaken (b' := w.heap.size) (by omega))
  have hsz := O2.out.size
  clear hi o2 hlies d0 d1 d2 d3 d4 d5 d6 d7 d8 d9 d10
  go_wp2_with (at_builtin; refine wpList_appL (by rfl) _ _ (by rfl) w.heap.size A1 (0 + 1) c1 [(at_ : Int) + 1] (by rfl) I2.out rfl A' R.length c' R (by rfl) rfl HL.out (by omega) hsz ?_; intro A3 c3 w3 i3 o3 n3; have I3 := Lib.hid i3; have O3 := Lib.hid (Only.own I2.out (Nat.le_refl _) O2.out o3); clear i3 o3 n3)
  have HE := Lib.hid (show ∀ m, m = 1 + R.length → ToE w ([(at_ : Int) + 1] ++ R) (.returned (.slice A3 m c3)) w3 from fun m hm => ⟨A3, c3, by rw [List.length_append, List.length_singleton, hm], by rw [List.length_append, List.length_singleton]; have := I3.out; rw [Nat.zero_add] at this; exact this, O3.out⟩)
  try go_wp2_with fail
  go_ret
  exact HE.out _ (by omega)
theorem ratom_any (s : ByteArray) (w : World) (h : s.size ≤ 262144) : Calls Tryz.prog 57 #[.string s] w fun e w' => e = .returned (.bool (atomOk (lst s))) ∧ Only [] w w' := by
 have hc := rcheck_any (.atom s) h (.slice none 0 0) (fun _ => False) w ((TV.leaf (by simp)).2 rfl)
 simp only [T.k, T.n, T.x, T.y, T.S, T.a, T.b] at hc
 have HC := Lib.hid hc
 have HA := Lib.hid (chk_atom s h)
 obtain ⟨z, hz⟩ : ∃ z, chk (.atom s) = z := ⟨_, rfl⟩
 rw [hz] at HC HA
 clear h hz hc
 go_enter Tryz.func57, Tryz.ntmps57
 go_wp2_with fail
 (with_reducible refine (HC.out).mono ?_)
 rintro e w1 ⟨rfl, o1⟩
 have O1 := Lib.hid o1
 clear o1
 go_wp2_with fail
 go_ret
 exact ⟨ret_bool HA.out, O1.out⟩
theorem rzero_yes (w : World) : Calls Tryz.prog 58 #[.agg #[.int .i64 0, .int .i64 0, .complex .f64 0 0, .string ⟨#[]⟩, .int .i64 0, .int .i64 0, .slice none 0 0]] w fun e w' => e = .returned (.bool true) ∧ Only [] w w' := by
 have z0 := z64
 go_enter Tryz.func58, Tryz.ntmps58
 go_wp2_with fail
 go_ret
 exact ⟨rfl, (Only.refl [] w).alloc _⟩
theorem rarms_any (nm : ByteArray) (pr L : Int) (sc : Value) (l : List Arm) (hg : ∀ a ∈ l, a.Good) (sl : Value) (F : Nat → Prop) (r : Bool) (w : World) (h : AL w F l sl) (hF : ∀ b, F b → b < w.heap.size) (hr : armsOk L l = r) :
 Calls Tryz.prog 60 #[.agg #[.string nm, .int .i64 pr, .int .i64 L, sc], sl] w fun e w' => e = .returned (.bool r) ∧ Only [] w w' := by
 have rs := store_com
 obtain ⟨A, cap, rfl, hlc, hcap, hrows⟩ := h.mk arm_len
 by_cases h32 : 32 < l.length
 ·have p1 : (32 : Int) < (l.length : Int) := by omega
  have HR := Lib.hid (show false = r by rw [← hr]; unfold armsOk; rw [decide_eq_false (by omega), Bool.false_and])
  have HO := Lib.hid ((Only.refl [] w).alloc (.cells #[.string nm, .int .i64 pr, .int .i64 L, sc] 45))
  clear hr hrows h
  go_enter Tryz.func60, Tryz.ntmps60
  go_wp2_with fail
  go_ret
  exact ⟨ret_bool HR.out, HO.out⟩
 ·have p1 : ¬ (32 : Int) < (l.length : Int) := by omega
  have HA := Lib.hid (show l.all (fun a => decide (qchk L a.pat = 0)) = r by rw [← hr]; unfold armsOk; rw [decide_eq_true (by omega), Bool.true_and])
  have HR := Lib.hid hrows
  have HF := Lib.hid hF
  have HG := Lib.hid hg
  clear hr hrows h hF hg
  go_enter Tryz.func60, Tryz.ntmps60
  go_wp2_with fail
  have BF := Lib.hid (Bk.made w 45 #[.string nm, .int .i64 pr, .int .i64 L, sc])
  have O0 := Lib.hid ((Only.refl [] w).alloc (.cells #[.string nm, .int .i64 pr, .int .i64 L, sc] 45))
  go_loopw [5] (fun v wr => ∃ j : Nat, v = .int .i64 j ∧ j ≤ l.length ∧ (l.drop j).all (fun a => decide (qchk L a.pat = 0)) = r ∧ Only [] w wr ∧ Bk wr w.heap.size 45 #[.string nm, .int .i64 pr, .int .i64 L, sc]) (fun v _ => l.length - (intOf v).toNat)
  case atStart => exact ⟨0, rfl, Nat.zero_le _, HA.out, O0.out, BF.out⟩
  case round =>
   obtain ⟨j, rfl, hj, hq, ho, hbf⟩ := hrel
   have BW := Lib.hid hbf
   have HO := Lib.hid ho
   have HQ := Lib.hid hq
   clear ho hq
   by_cases hjl : j < l.length
   ·rcases HR.out with h0 | ⟨bl, off, rfl, hbl, hFb, hvs⟩
    ·rw [h0] at hjl; simp at hjl
    ·obtain ⟨us, hds, hcs⟩ := hvs j (l[j]'hjl) (List.getElem?_eq_getElem hjl)
     obtain ⟨st', sl', sr', rfl, htv⟩ := arm_cells _ hds
     have htv : PV w F (l[j]'hjl).pat st' sl' sr' := htv
     obtain ⟨S', s1', s2', A', c', B', c2, rfl, rfl, rfl⟩ := htv.slices
     obtain ⟨n', hn'⟩ : ∃ n', (l[j]'hjl).pat.l.length = n' := ⟨_, rfl⟩
     obtain ⟨n2, hn2⟩ : ∃ n2, (l[j]'hjl).pat.r.length = n2 := ⟨_, rfl⟩
     rw [hn', hn2] at htv hcs
     have hcs2 : ∀ q u, ((qcs (l[j]'hjl).pat.k (l[j]'hjl).pat.n (l[j]'hjl).pat.tm (.slice S' s1' s2') (.slice A' n' c') (.slice B' n2 c2)).toList ++ [.int .i64 (l[j]'hjl).goes])[q]? = some u → wr.cell? ⟨bl, off + j * 12 + q, none⟩ = some u := fun q u hu => (HO.out.cell (p := ⟨bl, off + j * 12 + q, none⟩) hbl (by simp)).trans (hcs q u hu)
     obtain ⟨r0, r1, r2, r3, r4, r5, r6, r7, r8, r9, r10, r11⟩ := acs_twelve hcs2
     have HGd := Lib.hid (HG.out _ (List.getElem_mem hjl)).1
     have HD := Lib.hid (show l.drop j = l[j]'hjl :: l.drop (j + 1) from List.drop_eq_getElem_cons hjl)
     have HTV := Lib.hid (htv.same HO.out)
     clear hcs hcs2 htv hvs hds hn' hn2
     generalize l[j]'hjl = u at HD HTV HGd r0 r1 r2 r3 r4 r5 r6 r7 r8 r9 r10 r11
     have hq2 := HQ.out
     rw [HD.out, List.all_cons] at hq2
     have HQ2 := Lib.hid hq2
     clear hq2
     obtain ⟨p, hp⟩ : ∃ p, u.pat = p := ⟨_, rfl⟩
     rw [hp] at HTV HGd HQ2 r0 r1 r2 r3 r4 r5 r6 r7
     obtain ⟨gz, hgz⟩ : ∃ gz, u.goes = gz := ⟨_, rfl⟩
     rw [hgz] at r11
     clear hp hgz HD
     have HC := Lib.hid (fun x : Cm wr => r5check_any L p HGd.out _ _ _ F x.1 (HTV.out.same x.o) (fun b hb => Nat.lt_of_lt_of_le (HF.out b hb) (Nat.le_trans HO.out.size x.o.size)))
     obtain ⟨z, hz⟩ : ∃ z, qchk L p = z := ⟨_, rfl⟩
     rw [hz] at HC HQ2
     have u0 : ∀ x : Cm wr, x.1.cell? ⟨bl, off + j * 12, none⟩ = some (.int .i64 p.k) := Cm.cell r0
     have u1 : ∀ x : Cm wr, x.1.cell? ⟨bl, off + j * 12 + 1, none⟩ = some (.int .i64 p.n) := Cm.cell r1
     have u2 : ∀ x : Cm wr, x.1.cell? ⟨bl, off + j * 12 + 2, none⟩ = some (.int .i64 p.tm.k) := Cm.cell r2
     have u3 : ∀ x : Cm wr, x.1.cell? ⟨bl, off + j * 12 + 3, none⟩ = some (.int .i64 p.tm.n) := Cm.cell r3
     have u4 : ∀ x : Cm wr, x.1.cell? ⟨bl, off + j * 12 + 4, none⟩ = some (.complex .f64 p.tm.x p.tm.y) := Cm.cell r4
     have u5 : ∀ x : Cm wr, x.1.cell? ⟨bl, off + j * 12 + 5, none⟩ = some (.string p.tm.S) := Cm.cell r5
     have u6 : ∀ x : Cm wr, x.1.cell? ⟨bl, off + j * 12 + 6, none⟩ = some (.int .i64 p.tm.a) := Cm.cell r6
     have u7 : ∀ x : Cm wr, x.1.cell? ⟨bl, off + j * 12 + 7, none⟩ = some (.int .i64 p.tm.b) := Cm.cell r7
     have u8 : ∀ x : Cm wr, x.1.cell? ⟨bl, off + j * 12 + 8, none⟩ = some (.slice S' s1' s2') := Cm.cell r8
     have u9 : ∀ x : Cm wr, x.1.cell? ⟨bl, off + j * 12 + 9, none⟩ = some (.slice A' n' c') := Cm.cell r9
     have u10 : ∀ x : Cm wr, x.1.cell? ⟨bl, off + j * 12 + 10, none⟩ = some (.slice B' n2 c2) := Cm.cell r10
     have f2 : ∀ x : Cm wr, x.1.cell? ⟨w.heap.size, 2, none⟩ = some (.int .i64 L) := Cm.cell (hbf.cell0 rfl)
     clear hz hbf r0 r1 r2 r3 r4 r5 r6 r7 r8 r9 r10 r11
     go_wp2_with fail
     refine wp_region_calm (by kernel_rfl) (by kernel_rfl) ?_
     repeat (go_big_quiet_step ((go_at_call 90; exact calmS (HC.out _))))
     refine wpQuiet_nil ?_
     rintro w2 ⟨⟨w2', o2⟩, e2⟩
     obtain rfl : w2 = w2' := e2
     have O2 := Lib.hid (HO.out.trans o2 (by simp))
     have B2 := Lib.hid (BW.out.only o2 (by simp))
     clear o2 u0 u1 u2 u3 u4 u5 u6 u7 u8 u9 u10 f2
     by_cases hz : z = 0
     ·subst hz
      have HN := Lib.hid (show ∃ j' : Nat, Value.int .i64 ((j : Int) + 1) = .int .i64 (j' : Int) ∧ j' ≤ l.length ∧ (l.drop j').all (fun a => decide (qchk L a.pat = 0)) = r ∧ Only [] w w2 ∧ Bk w2 w.heap.size 45 #[.string nm, .int .i64 pr, .int .i64 L, sc] from ⟨j + 1, by go_num, by omega, by simpa using HQ2.out, O2.out, B2.out⟩)
      go_wp2_with fail
      go_roundw
      case rel => exact HN.out
      case measure => simp [intOf]; omega
     ·have hne : (z != 0) = true := by simpa using hz
      have HE := Lib.hid (show false = r by rw [← HQ2.out, decide_eq_false hz, Bool.false_and])
      clear hz
      go_wp2_with fail
      go_ret
      exact ⟨ret_bool HE.out, O2.out⟩
   ·have hje : j = l.length := by omega
    subst hje
    have HE := Lib.hid (show true = r by rw [← HQ.out, List.drop_length]; rfl)
    clear hj
    go_wp2_with fail
    go_ret
    exact ⟨ret_bool HE.out, HO.out⟩
open Go
theorem getD_set {α : Type} (l : List α) (i j : Nat) (a d : α) (h : i < l.length) : (l.set i a).getD j d = if j = i then a else l.getD j d := by
 rw [List.getD_eq_getElem?_getD, List.getD_eq_getElem?_getD, List.getElem?_set]
 by_cases e : i = j
 ·subst e
  rw [if_pos rfl, if_pos h, if_pos rfl]
  rfl
 ·rw [if_neg e, if_neg (fun h => e h.symm)]
theorem getD_lt {α : Type} {l : List α} {i : Nat} (h : i < l.length) (d d' : α) : l.getD i d = l.getD i d' := by
 rw [List.getD_eq_getElem?_getD, List.getD_eq_getElem?_getD, List.getElem?_eq_getElem h]
 rfl
theorem getD_some {α : Type} {l : List α} {i : Nat} (h : i < l.length) (d : α) : l[i]? = some (l.getD i d) := by
 rw [List.getD_eq_getElem?_getD, List.getElem?_eq_getElem h]
 rfl
theorem set_same {l : List Int} {i : Nat} (h : i < l.length) (d : Int) : l.set i (l.getD i d) = l := by
 apply List.ext_getElem?
 intro j
 rw [List.getElem?_set]
 by_cases e : i = j
 ·subst e
  rw [if_pos rfl, if_pos h, getD_some h d]
 ·rw [if_neg e]
structure HtOk (n : Nat) (h : List Int) (g v : List Bool) (nx : Nat) : Prop where
 hl : h.length = n
 gl : g.length = n
 vl : v.length = n
 nl : nx ≤ n
 pv : ∀ i, i < n → v.getD i false = pend h g i
 lo : ∀ i, i < nx → v.getD i false = false
 gh : ∀ i, i < n → g.getD i true = true → 0 ≤ h.getD i (-1)
 bd : ∀ i, i < n → -1 ≤ h.getD i (-1) ∧ h.getD i (-1) ≤ 256
theorem HtOk.reach {n : Nat} {h : List Int} {g v : List Bool} {nx t : Nat} (s : HtOk n h g v nx) (ht : t < n) {b : Int} (hb : 0 ≤ b ∧ b ≤ 256) (hm : h.getD t (-1) = -1) : HtOk n (h.set t b) g (v.set t true) (min nx t) := by
 have h1 : t < h.length := by rw [s.hl]; exact ht
 have h2 : t < v.length := by rw [s.vl]; exact ht
 refine ⟨by rw [List.length_set]; exact s.hl, s.gl, by rw [List.length_set]; exact s.vl, by have := s.nl; omega, fun i hi => ?_, fun i hi => ?_, fun i hi hg => ?_, fun i hi => ?_⟩
 ·unfold pend
  rw [getD_set _ _ _ _ _ h1, getD_set _ _ _ _ _ h2]
  by_cases e : i = t
  ·subst e
   rw [if_pos rfl, if_pos rfl, decide_eq_true hb.1, Bool.true_and]
   cases hg : g.getD i true with
   | false => rfl
   | true =>
    have := s.gh i hi hg
    omega
  ·rw [if_neg e, if_neg e]
   exact s.pv i hi
 ·rw [getD_set _ _ _ _ _ h2, if_neg (by omega)]
  exact s.lo i (by omega)
 ·rw [getD_set _ _ _ _ _ h1]
  split
  ·exact hb.1
  ·exact s.gh i hi hg
 ·rw [getD_set _ _ _ _ _ h1]
  split
  ·omega
  ·exact s.bd i hi
theorem HtOk.next {n : Nat} {h : List Int} {g v : List Bool} {nx : Nat} (s : HtOk n h g v nx) (hn : nx < n) (hv : v.getD nx false = false) : HtOk n h g v (nx + 1) :=
 ⟨s.hl, s.gl, s.vl, hn, s.pv, fun i hi => by
  by_cases e : i = nx
  ·rw [e]; exact hv
  ·exact s.lo i (by omega), s.gh, s.bd⟩
theorem HtOk.gone {n : Nat} {h : List Int} {g v : List Bool} {nx t : Nat} (s : HtOk n h g v nx) (hn : t < n) (hp : pend h g t = true) : HtOk n h (g.set t true) (v.set t false) nx := by
 have h1 : t < g.length := by rw [s.gl]; exact hn
 have h2 : t < v.length := by rw [s.vl]; exact hn
 have hp0 : 0 ≤ h.getD t (-1) := by
  unfold pend at hp
  rw [Bool.and_eq_true] at hp
  exact of_decide_eq_true hp.1
 refine ⟨s.hl, by rw [List.length_set]; exact s.gl, by rw [List.length_set]; exact s.vl, s.nl, fun i hi => ?_, fun i hi => ?_, fun i hi hg => ?_, s.bd⟩
 ·unfold pend
  rw [getD_set _ _ _ _ _ h1, getD_set _ _ _ _ _ h2]
  by_cases e : i = t
  ·rw [if_pos e, if_pos e, Bool.not_true, Bool.and_false]
  ·rw [if_neg e, if_neg e]
   exact s.pv i hi
 ·rw [getD_set _ _ _ _ _ h2]
  split
  ·rfl
  ·exact s.lo i hi
 ·rw [getD_set _ _ _ _ _ h1] at hg
  by_cases e : i = t
  ·rw [e]; exact hp0
  ·rw [if_neg e] at hg
   exact s.gh i hi hg
theorem pend_yes {h : List Int} {g : List Bool} {t : Nat} (hp : pend h g t = true) : 0 ≤ h.getD t (-1) ∧ g.getD t true = false := by
 unfold pend at hp
 rw [Bool.and_eq_true, Bool.not_eq_true'] at hp
 exact ⟨of_decide_eq_true hp.1, hp.2⟩
theorem gone_count {g : List Bool} {t : Nat} (ht : t < g.length) (h : g.getD t true = false) : (g.set t true).count false + 1 = g.count false := by
 have e : g[t]'ht = false := by
  rw [List.getD_eq_getElem?_getD, List.getElem?_eq_getElem ht] at h
  exact h
 have h1 : 0 < g.count false := List.count_pos_iff.2 (e ▸ List.getElem_mem ht)
 rw [List.count_set ht, e]
 simp
 omega
theorem nextP_at {h : List Int} {g : List Bool} : ∀ (f k j : Nat), (∀ i, k ≤ i → i < k + j → pend h g i = false) → j ≤ f → (j = f ∨ pend h g (k + j) = true) → nextP h g f k = k + j
 | 0, k, j, _, h2, _ => by
  obtain rfl : j = 0 := by omega
  rfl
 | f + 1, k, j, h1, h2, h3 => by
  unfold nextP
  by_cases hj : j = 0
  ·subst hj
   rcases h3 with h3 | h3
   ·omega
   ·rw [Nat.add_zero] at h3; rw [if_pos h3]; rfl
  ·rw [if_neg (by rw [h1 k (Nat.le_refl _) (by omega)]; decide)]
   rw [nextP_at f (k + 1) (j - 1) (fun i hi hl => h1 i (by omega) (by omega)) (by omega) (h3.imp (fun h => by omega) (fun h => by rw [show k + 1 + (j - 1) = k + j by omega]; exact h))]
   omega
theorem next_is {n : Nat} {h : List Int} {g : List Bool} {t : Nat} (hlo : ∀ i, i < t → pend h g i = false) (ht : t ≤ n) (hp : t = n ∨ pend h g t = true) : nextP h g n 0 = t := by
 have := nextP_at (h := h) (g := g) n 0 t (fun i _ hi => hlo i (by omega)) ht (by rwa [Nat.zero_add])
 rwa [Nat.zero_add] at this
theorem HtOk.lop {n : Nat} {h : List Int} {g v : List Bool} {nx : Nat} (s : HtOk n h g v nx) : ∀ i, i < nx → pend h g i = false := fun i hi => by rw [← s.pv i (by have := s.nl; omega)]; exact s.lo i hi
theorem flow_end {fs : List Fu} {code : List In} {f : Nat} {h : List Int} {g : List Bool} (hn : nextP h g code.length 0 = code.length) : flowF fs code f h g = 0 := by
 cases f with
 | zero => rfl
 | succ f =>
  unfold flowF
  rw [hn, List.getElem?_eq_none (Nat.le_refl _)]
theorem flow_step {fs : List Fu} {code : List In} {f : Nat} {h : List Int} {g : List Bool} {t : Nat} (ht : t < code.length) (hn : nextP h g code.length 0 = t) : flowF fs code (f + 1) h g =
 if h.getD t (-1) < (eff fs (code[t]'ht)).1 ∨ 256 < h.getD t (-1) - (eff fs (code[t]'ht)).1 + (eff fs (code[t]'ht)).2 then 63
 else if (reachAll code.length (h.getD t (-1) - (eff fs (code[t]'ht)).1 + (eff fs (code[t]'ht)).2) ((code[t]'ht).leads t) h).1 ≠ 0 then (reachAll code.length (h.getD t (-1) - (eff fs (code[t]'ht)).1 + (eff fs (code[t]'ht)).2) ((code[t]'ht).leads t) h).1
 else flowF fs code f (reachAll code.length (h.getD t (-1) - (eff fs (code[t]'ht)).1 + (eff fs (code[t]'ht)).2) ((code[t]'ht).leads t) h).2 (g.set t true) := by
 conv => lhs; unfold flowF
 rw [hn, List.getElem?_eq_getElem ht]
theorem reach_nil (n : Nat) (b : Int) (h : List Int) : reachAll n b [] h = (0, h) := rfl
theorem reach_cons (n : Nat) (b z : Int) (l : List Int) (h : List Int) : reachAll n b (z :: l) h = if (n : Int) ≤ z then (64, h) else if 0 ≤ h.getD z.toNat (-1) ∧ h.getD z.toNat (-1) ≠ b then (63, h) else reachAll n b l (h.set z.toNat b) := rfl
theorem St_init {n : Nat} (hn : 0 < n) : HtOk n (0 :: List.replicate (n - 1) (-1)) (List.replicate n false) (true :: List.replicate (n - 1) false) 0 := by
 refine ⟨by simp; omega, by simp, by simp; omega, Nat.zero_le _, fun i hi => ?_, fun i hi => by omega, fun i hi hg => ?_, fun i hi => ?_⟩
 ·unfold pend
  rw [show (List.replicate n false).getD i true = false by rw [List.getD_eq_getElem?_getD, List.getElem?_replicate, if_pos hi]; rfl]
  cases i with
  | zero => rfl
  | succ i =>
   rw [List.getD_cons_succ, List.getD_cons_succ, List.getD_eq_getElem?_getD, List.getD_eq_getElem?_getD, List.getElem?_replicate, List.getElem?_replicate, if_pos (by omega), if_pos (by omega)]
   rfl
 ·rw [List.getD_eq_getElem?_getD, List.getElem?_replicate, if_pos hi] at hg
  cases hg
 ·cases i with
  | zero =>
   rw [List.getD_cons_zero]
   exact ⟨by decide, by decide⟩
  | succ i =>
   rw [List.getD_cons_succ, List.getD_eq_getElem?_getD, List.getElem?_replicate, if_pos (by omega)]
   exact ⟨by decide, by decide⟩
theorem eff_bd {fs : List Fu} {i : In} {nf : Nat} {L : Int} (hg : i.Good) (hm : mayI nf L i = true) (hp : ∀ f ∈ fs, 0 ≤ f.params ∧ f.params ≤ 32) : 0 ≤ (eff fs i).1 ∧ (eff fs i).1 ≤ 256 ∧ 0 ≤ (eff fs i).2 ∧ (eff fs i).2 ≤ 257 := by
 obtain ⟨n, ho, h1, h2⟩ := hg.op
 have ha := hg.a0
 unfold eff
 split
 ·rename_i h
  unfold mayI at hm
  rw [if_neg (by omega), if_pos h] at hm
  have := of_decide_eq_true hm
  simp only
  omega
 split
 ·rename_i h3 h
  unfold mayI at hm
  rw [if_neg (by omega), if_neg (by omega), if_neg (by omega), if_neg (by omega), if_pos h] at hm
  have := of_decide_eq_true hm
  simp only
  omega
 split
 ·simp only
  cases he : fs[i.a.toNat]? with
  | none => exact ⟨by decide, by decide, by decide, by decide⟩
  | some f =>
   have := hp f (List.mem_of_getElem? he)
   simp only [Option.map_some, Option.getD_some]
   omega
 ·rw [ho, Int.toNat_natCast]
  have key : ((List.range 47).all fun j => decide (0 ≤ tkl.getD j 0) && decide (tkl.getD j 0 ≤ 256) && decide (0 ≤ lvl.getD j 0) && decide (lvl.getD j 0 ≤ 257)) = true := by kernel_rfl
  have hk := List.all_eq_true.1 key n (List.mem_range.2 (by omega))
  simp only [Bool.and_eq_true, decide_eq_true_eq] at hk
  exact ⟨hk.1.1.1, hk.1.1.2, hk.1.2, hk.2⟩
theorem leads_bd {i : In} {n t : Nat} (ht : t < n) (h : i.to.all (fun z => decide (0 ≤ z) && decide (z < (n : Int))) = true) : ∀ z ∈ i.leads t, 0 ≤ z ∧ z ≤ (n : Int) := by
 intro z hz
 unfold In.leads at hz
 rcases List.mem_append.1 hz with hz | hz
 ·split at hz
  ·cases hz
  ·rw [List.mem_singleton.1 hz]
   omega
 ·have := List.all_eq_true.1 h z hz
  simp only [Bool.and_eq_true, decide_eq_true_eq] at this
  omega
theorem insE_ok {nf : Nat} {f : Fu} (h : insE nf f = 0) : ∀ i ∈ f.code, mayI nf f.locals i = true ∧ i.to.all (fun z => decide (0 ≤ z) && decide (z < (f.code.length : Int))) = true := by
 unfold insE at h
 have key : ∀ l : List In, firstE l (inE nf f) = 0 → ∀ i ∈ l, inE nf f i = 0 := by
  intro l
  induction l with
  | nil => intro _ i hi; cases hi
  | cons x r ih =>
   intro h i hi
   rw [show firstE (x :: r) (inE nf f) = if inE nf f x ≠ 0 then inE nf f x else firstE r (inE nf f) from rfl] at h
   by_cases hx : inE nf f x = 0
   ·rw [if_neg (by omega)] at h
    rcases List.mem_cons.1 hi with rfl | hi
    ·exact hx
    ·exact ih h i hi
   ·rw [if_pos hx] at h
    exact absurd h hx
 intro i hi
 have h0 := key f.code h i hi
 unfold inE at h0
 split at h0
 ·cases h0
 ·rename_i h1
  split at h0
  ·cases h0
  ·rename_i h2
   exact ⟨by simpa using h1, by simpa using h2⟩
end Go.Proofs.YtcdefnbehlcgeaaGreatDoor
