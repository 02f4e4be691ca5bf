/- The document's Same: of a leaf's terms, of two patterns that are one tree. The program's Match of {ping, $0} and {ping, 5}. -/
import Derived.Test.YtlilfmpikampgaaGreatDoorPH8
import Derived.Deep.RegionLaw
namespace Go.Proofs.YtlilfmpikampgaaGreatDoor
open Go.RowKit

theorem zfl : floatOfInt .f64 0 = 0 := by decide
set_option maxHeartbeats 4000000 in
theorem r3bits (n : Int) (h : okPart n = true) (w : World) : Calls Tryz.prog 26 #[.float .f64 (floatOfInt .f64 n), .float .f64 (floatOfInt .f64 n)] w fun e w' => e = .returned (.bool true) ∧ w = w' := by
  have h1 := part_me h
  by_cases h0 : n = 0
  · subst h0
    rw [zfl] at h1 ⊢
    have hq : ∀ w, (binOp .quo 71 (.float .f64 4607182418800017408) (.float .f64 0)).run Tryz.prog w = .ok (.float .f64 9218868437227405312) w := fun w => by kernel_rfl
    have hi : FloatKind.f64.format.order 9218868437227405312 9218868437227405312 = some .eq := by decide
    go_enter Tryz.func26, Tryz.ntmps26
    go_wp2_with fail
    go_ret
    exact ⟨rfl, rfl⟩
  · have h2 : FloatKind.f64.format.order (floatOfInt .f64 n) 0 = some .lt ∨ FloatKind.f64.format.order (floatOfInt .f64 n) 0 = some .gt := by
      have h3 := order_w (part_w h) isW_0
      rw [zfl] at h3
      rw [h3]
      rcases Int.lt_trichotomy n 0 with h4 | h4 | h4
      · left; rw [Int.compare_eq_ite_lt, if_pos h4]
      · exact absurd h4 h0
      · right; rw [Int.compare_eq_ite_lt, if_neg (by omega), if_pos h4]
    clear h h0
    generalize floatOfInt .f64 n = x at *
    rcases h2 with h2 | h2
    all_goals
      go_enter Tryz.func26, Tryz.ntmps26
      go_wp2_with fail
      go_ret
      exact ⟨rfl, rfl⟩
set_option maxRecDepth 20000 in
set_option maxHeartbeats 4000000 in
theorem r3same_com (a b : Int) (ha : okPart a = true) (hb : okPart b = true) (w : World) :
    Calls Tryz.prog 14 #[.agg (tcs 4 0 (floatOfInt .f64 a) (floatOfInt .f64 b) ⟨#[]⟩ 0 0 (.slice none 0 0)), .agg (tcs 4 0 (floatOfInt .f64 a) (floatOfInt .f64 b) ⟨#[]⟩ 0 0 (.slice none 0 0))] w fun e w' => e = .returned (.bool true) ∧ Only [] w w' := by
  have rs := store_com
  have HA := Lib.hid (fun w => r3bits a ha w)
  have HB := Lib.hid (fun w => r3bits b hb w)
  have e0 := eqPid 0 0 0 0
  clear ha hb
  generalize floatOfInt .f64 a = x at *
  generalize floatOfInt .f64 b = y at *
  go_enter Tryz.func14, Tryz.ntmps14
  go_wp2_with fail
  (with_reducible refine (HA.out _).mono ?_)
  rintro e w1 ⟨rfl, rfl⟩
  go_wp2_with fail
  (with_reducible refine (HB.out _).mono ?_)
  rintro e w1 ⟨rfl, rfl⟩
  go_wp2_with fail
  refine wp_loop_rounds 1 ?_
  rw [rounds_succ]
  go_wp2_with fail
  go_ret
  exact ⟨rfl, ((Only.refl [] w).alloc _).alloc _⟩
set_option maxRecDepth 20000 in
set_option maxHeartbeats 4000000 in
theorem r3same_other (k n : Int) (S : ByteArray) (a b : Int) (hk : k ≠ 4) (w : World) :
    Calls Tryz.prog 14 #[.agg (tcs k n 0 0 S a b (.slice none 0 0)), .agg (tcs k n 0 0 S a b (.slice none 0 0))] w fun e w' => e = .returned (.bool true) ∧ Only [] w w' := by
  have rs := store_com
  have z0 := z64
  have e1 := fun w => eqPid a b a b w
  simp only [beq_self_eq_true, Bool.and_self] at e1
  have h1 : (k == 4) = false := beq_eq_false_iff_ne.2 hk
  have h2 : (k != 4) = true := bne_iff_ne.2 hk
  clear hk
  go_enter Tryz.func14, Tryz.ntmps14
  go_wp2_with fail
  refine wp_loop_rounds 1 ?_
  rw [rounds_succ]
  go_wp2_with fail
  go_ret
  exact ⟨rfl, ((Only.refl [] w).alloc _).alloc _⟩
/-- Of a leaf's term, or none. -/
theorem r3same_leaf (t : T) (hf : t.Fine) (hl : ∀ k l, t ≠ .tup k l) (w : World) :
    Calls Tryz.prog 14 #[.agg #[.int .i64 t.k, .int .i64 t.n, .complex .f64 t.x t.y, .string t.S, .int .i64 t.a, .int .i64 t.b, .slice none 0 0], .agg #[.int .i64 t.k, .int .i64 t.n, .complex .f64 t.x t.y, .string t.S, .int .i64 t.a, .int .i64 t.b, .slice none 0 0]] w fun e w' => e = .returned (.bool true) ∧ Only [] w w' := by
  cases t with
  | tup k l => exact absurd rfl (hl _ _)
  | com a b =>
    rcases hf with hf | hf
    · exact r3same_com a b hf.1 hf.2 w
    · cases hf
  | zero => exact r3same_other 0 0 _ 0 0 (by decide) w
  | nil => exact r3same_other 1 0 _ 0 0 (by decide) w
  | bool b => exact r3same_other 2 _ _ 0 0 (by decide) w
  | int n => exact r3same_other 3 n _ 0 0 (by decide) w
  | atom s => exact r3same_other 5 0 s 0 0 (by decide) w
  | pid n g => exact r3same_other 6 0 _ n g (by decide) w
  | ref n => exact r3same_other 7 n _ 0 0 (by decide) w

/-! ### Patterns -/
def QSameOk (t : QT) : Prop := ∀ (sl sr sl' sr' : Value) (F F' : Nat → Prop) (w : World), QV w F t sl sr → QV w F' t sl' sr' →
  Calls Tryz.prog 6 #[.agg (pcs t.k t.n t.t sl sr), .agg (pcs t.k t.n t.t sl' sr')] w fun e w' => e = .returned (.bool true) ∧ Only [] w w'
theorem QSameOk.use {t : QT} (h : QSameOk t) {sl sr sl' sr' : Value} {F F' : Nat → Prop} {w : World} (h1 : QV w F t sl sr) (h2 : QV w F' t sl' sr') :
    Calls Tryz.prog 6 #[.agg #[.int .i64 t.k, .int .i64 t.n, .int .i64 t.t.k, .int .i64 t.t.n, .complex .f64 t.t.x t.t.y, .string t.t.S, .int .i64 t.t.a, .int .i64 t.t.b, .slice none 0 0, sl, sr], .agg #[.int .i64 t.k, .int .i64 t.n, .int .i64 t.t.k, .int .i64 t.t.n, .complex .f64 t.t.x t.t.y, .string t.t.S, .int .i64 t.t.a, .int .i64 t.t.b, .slice none 0 0, sl', sr']] w fun e w' => e = .returned (.bool true) ∧ Only [] w w' := h sl sr sl' sr' F F' w h1 h2
set_option maxRecDepth 20000 in
set_option maxHeartbeats 8000000 in
theorem qsame_all (l : List QT) (ih : ∀ u ∈ l, QSameOk u) (A A' : Option Addr) (c c' : Nat) (F F' : Nat → Prop) (w : World) (h : QL w F l (.slice A l.length c)) (h' : QL w F' l (.slice A' l.length c')) :
    Calls Tryz.prog 15 #[.slice A l.length c, .slice A' l.length c'] w fun e w' => e = .returned (.bool true) ∧ Only [] w w' := by
  have rs := store_com
  have IH := Lib.hid ih
  obtain ⟨B, cap, hv, hlc, hcap, hrows⟩ := h
  injection hv with hv1 _ hv2
  subst hv1 hv2
  obtain ⟨B', cap', hv, hlc', hcap', hrows'⟩ := h'
  injection hv with hv1 _ hv2
  subst hv1 hv2
  have HR := Lib.hid hrows
  have HR' := Lib.hid hrows'
  clear ih hrows hrows'
  go_enter Tryz.func15, Tryz.ntmps15
  go_wp2_with fail
  go_loopw [5] (fun i wr => ∃ (j : Nat), i = .int .i64 j ∧ j ≤ l.length ∧ Only [] w wr) (fun i _ => l.length - (intOf i).toNat)
  case atStart => exact ⟨0, rfl, Nat.zero_le _, Only.refl _ _⟩
  case round =>
    obtain ⟨j, rfl, hj, hor⟩ := hrel
    have HOr := Lib.hid hor
    clear hor
    by_cases hjl : j < l.length
    · rcases HR.out with h0 | ⟨bl, off, rfl, hbl, _, hvs⟩
      · rw [h0] at hjl; simp at hjl
      rcases HR'.out with h0 | ⟨bl', off', rfl, hbl', _, hvs'⟩
      · rw [h0] at hjl; simp at hjl
      obtain ⟨sl, sr, htv, hcs⟩ := (QVs.iff.1 hvs) j (l[j]'hjl) (List.getElem?_eq_getElem hjl)
      obtain ⟨sl', sr', htv', hcs'⟩ := (QVs.iff.1 hvs') j (l[j]'hjl) (List.getElem?_eq_getElem hjl)
      obtain ⟨Ac, nc, cc, Bc, nd, cd, rfl, rfl⟩ := htv.slices
      obtain ⟨Ac', nc', cc', Bc', nd', cd', rfl, rfl⟩ := htv'.slices
      have hcs2 : ∀ q u, ((l[j]'hjl).cs (.slice Ac nc cc) (.slice Bc nd cd))[q]? = some u → wr.cell? ⟨bl, off + j * 11 + q, none⟩ = some u := fun q u hu => (HOr.out.cell (p := ⟨bl, off + j * 11 + q, none⟩) hbl (by simp)).trans (by rw [Nat.mul_comm j 11]; exact hcs q u hu)
      have hcs2' : ∀ q u, ((l[j]'hjl).cs (.slice Ac' nc' cc') (.slice Bc' nd' cd'))[q]? = some u → wr.cell? ⟨bl', off' + j * 11 + q, none⟩ = some u := fun q u hu => (HOr.out.cell (p := ⟨bl', off' + j * 11 + q, none⟩) hbl' (by simp)).trans (by rw [Nat.mul_comm j 11]; exact hcs' q u hu)
      obtain ⟨r0, r1, r2, r3, r4, r5, r6, r7, r8, r9, r10⟩ := qcs_eleven hcs2
      obtain ⟨s0, s1, s2, s3, s4, s5, s6, s7, s8, s9, s10⟩ := qcs_eleven hcs2'
      have HTV := Lib.hid (QV.same HOr.out htv)
      have HTV' := Lib.hid (QV.same HOr.out htv')
      have HI := Lib.hid (IH.out _ (List.getElem_mem hjl))
      clear hcs hcs2 htv hvs hcs' hcs2' htv' hvs'
      generalize l[j]'hjl = u at HI HTV HTV' r0 r1 r2 r3 r4 r5 r6 r7 r8 r9 r10 s0 s1 s2 s3 s4 s5 s6 s7 s8 s9 s10
      go_wp2_with fail
      refine wp_region_quiet_then 8 (by kernel_rfl) (by kernel_rfl) ?_
      simp only [List.take_succ_cons, List.take_zero, List.drop_succ_cons, List.drop_zero]
      repeat (go_big_quiet_step (fail))
      refine wpQuiet_nil ?_
      intro q
      go_wp2_with fail
      (with_reducible refine (HI.out.use (HTV.out.same ((Only.refl [] wr).drewN q)) (HTV'.out.same ((Only.refl [] wr).drewN q))).mono ?_)
      rintro e w2 ⟨rfl, o2⟩
      have o3 := o2.undrew
      have HO2 := Lib.hid (HOr.out.trans o3 (by simp))
      clear o2 o3
      go_wp2_with fail
      go_roundw
      case rel => exact ⟨j + 1, by go_num, by omega, HO2.out⟩
      case measure => simp [intOf]; omega
    · have hje : j = l.length := by omega
      subst hje
      clear hj
      go_wp2_with fail
      go_ret
      exact ⟨rfl, HOr.out⟩
set_option maxRecDepth 20000 in
set_option maxHeartbeats 8000000 in
theorem qsame_one (k n : Int) (t : T) (l r : List QT) (hf : t.Fine) (hl : ∀ k l, t ≠ .tup k l) (ih : ∀ u ∈ l, QSameOk u) (ih2 : ∀ u ∈ r, QSameOk u) (A A' B B' : Option Addr) (c c' d d' : Nat) (F F' G G' : Nat → Prop) (w : World)
    (h1 : QL w F l (.slice A l.length c)) (h2 : QL w F' l (.slice A' l.length c')) (h3 : QL w G r (.slice B r.length d)) (h4 : QL w G' r (.slice B' r.length d')) :
    Calls Tryz.prog 6 #[.agg (pcs k n t (.slice A l.length c) (.slice B r.length d)), .agg (pcs k n t (.slice A' l.length c') (.slice B' r.length d'))] w fun e w' => e = .returned (.bool true) ∧ Only [] w w' := by
  have rs := store_com
  have HT := Lib.hid (fun w => r3same_leaf t hf hl w)
  have HL := Lib.hid (fun w h h' => qsame_all l ih A A' c c' F F' w h h')
  have HR := Lib.hid (fun w h h' => qsame_all r ih2 B B' d d' G G' w h h')
  have H1 := Lib.hid h1
  have H2 := Lib.hid h2
  have H3 := Lib.hid h3
  have H4 := Lib.hid h4
  have B1 := Lib.hid ((Bk.made w 30 (pcs k n t (.slice A l.length c) (.slice B r.length d))).alloc (.cells (pcs k n t (.slice A' l.length c') (.slice B' r.length d')) 30))
  have B2 := Lib.hid (Bk.madeAt (w := w.alloc (.cells (pcs k n t (.slice A l.length c) (.slice B r.length d)) 30)) (t := 30) (cs := pcs k n t (.slice A' l.length c') (.slice B' r.length d')) (b := w.heap.size + 1) (by simp))
  have O0 := Lib.hid (((Only.refl [] w).alloc (.cells (pcs k n t (.slice A l.length c) (.slice B r.length d)) 30)).alloc (.cells (pcs k n t (.slice A' l.length c') (.slice B' r.length d')) 30))
  clear h1 h2 h3 h4 ih ih2 hf hl
  go_enter Tryz.func6, Tryz.ntmps6
  go_wp2_with fail
  (with_reducible refine (HT.out _).mono ?_)
  rintro e w1 ⟨rfl, o1⟩
  have O1 := Lib.hid (O0.out.trans o1 (by simp))
  have C1 := Lib.hid (B1.out.only o1 (by simp))
  have C2 := Lib.hid (B2.out.only o1 (by simp))
  obtain ⟨z0, z1, z2, z3, z4, z5, z6, z7, z8, z9, z10⟩ := C1.out.eleven
  obtain ⟨y0, y1, y2, y3, y4, y5, y6, y7, y8, y9, y10⟩ := C2.out.eleven
  clear o1
  go_wp2_with fail
  (with_reducible refine (HL.out _ (H1.out.same O1.out) (H2.out.same O1.out)).mono ?_)
  rintro e w2 ⟨rfl, o2⟩
  have O2 := Lib.hid (O1.out.trans o2 (by simp))
  have D1 := Lib.hid (C1.out.only o2 (by simp))
  have D2 := Lib.hid (C2.out.only o2 (by simp))
  clear z0 z1 z2 z3 z4 z5 z6 z7 z8 z9 z10 y0 y1 y2 y3 y4 y5 y6 y7 y8 y9 y10 o2
  obtain ⟨z0, z1, z2, z3, z4, z5, z6, z7, z8, z9, z10⟩ := D1.out.eleven
  obtain ⟨y0, y1, y2, y3, y4, y5, y6, y7, y8, y9, y10⟩ := D2.out.eleven
  go_wp2_with fail
  (with_reducible refine (HR.out _ (H3.out.same O2.out) (H4.out.same O2.out)).mono ?_)
  rintro e w3 ⟨rfl, o3⟩
  have O3 := Lib.hid (O2.out.trans o3 (by simp))
  clear o3
  go_wp2_with fail
  go_ret
  exact ⟨rfl, O3.out⟩
theorem fine_zero : T.Fine .zero := .inr rfl
/-- What a reader makes, or none. -/
def QT.Fine (t : QT) : Prop := t.Good ∨ t = .zero
theorem qsame_any (t : QT) (hg : t.Fine) : QSameOk t := by
  revert hg
  refine QT.ind (P := fun t => t.Fine → QSameOk t) (fun t ht hg => ?_) (fun k l r ih ih2 hg => ?_) t
  · intro sl sr sl' sr' F F' w h h'
    obtain ⟨rfl, rfl⟩ := (QV.leaf ht).1 h
    obtain ⟨rfl, rfl⟩ := (QV.leaf ht).1 h'
    have hn : QL w (fun _ => False) [] (.slice none 0 0) := QL.nil _ _
    have hs : ∀ (t : T), t.Fine → (∀ k l, t ≠ .tup k l) → ∀ k n, Calls Tryz.prog 6 #[.agg (pcs k n t (.slice none 0 0) (.slice none 0 0)), .agg (pcs k n t (.slice none 0 0) (.slice none 0 0))] w fun e w' => e = .returned (.bool true) ∧ Only [] w w' := fun t hf hl k n =>
      qsame_one k n t [] [] hf hl (by simp) (by simp) none none none none 0 0 0 0 _ _ _ _ w hn hn hn hn
    cases t with
    | seq k l r => exact absurd rfl (ht _ _ _)
    | term u =>
      rcases hg with hg | hg
      · exact hs u (.inl hg.2.1) hg.1 _ _
      · cases hg
    | zero => exact hs .zero fine_zero (by simp) _ _
    | any => exact hs .zero fine_zero (by simp) _ _
    | var n => exact hs .zero fine_zero (by simp) _ _
    | kind n => exact hs .zero fine_zero (by simp) _ _
  · intro sl sr sl' sr' F F' w h h'
    obtain ⟨h1, h3⟩ := QV.seq.1 h
    obtain ⟨h2, h4⟩ := QV.seq.1 h'
    have hG : (QT.seq k l r).Good := by
      rcases hg with hg | hg
      · exact hg
      · cases hg
    obtain ⟨A, c, rfl, _⟩ := id h1
    obtain ⟨A', c', rfl, _⟩ := id h2
    obtain ⟨B, d, rfl, _⟩ := id h3
    obtain ⟨B', d', rfl, _⟩ := id h4
    exact qsame_one k 0 .zero l r fine_zero (by simp) (fun u hu => ih u hu (.inl (QGoods.iff.1 hG.2.1 u hu))) (fun u hu => ih2 u hu (.inl (QGoods.iff.1 hG.2.2 u hu))) A A' B B' c c' d d' F F' F F' w h1 h2 h3 h4
end Go.Proofs.YtlilfmpikampgaaGreatDoor

namespace Go.Proofs.YtlilfmpikampgaaGreatDoor
open Go.RowKit

def sPing : ByteArray := ⟨#[112, 105, 110, 103]⟩
abbrev tPing : T := .atom ⟨#[112, 105, 110, 103]⟩
abbrev tFive : T := .int 5
abbrev tBoth : T := .tup 8 [tPing, tFive]
abbrev pBoth : QT := .seq 5 [.term tPing, .var 0] []
theorem chk_ping : chk tPing = 0 := by kernel_rfl
theorem chk_both : chk tBoth = 0 := by kernel_rfl
theorem qchk_both : qchk pBoth = 0 := by kernel_rfl
theorem good_ping : tPing.Good := by show (⟨#[112, 105, 110, 103]⟩ : ByteArray).size ≤ 262144; decide
theorem good_both : tBoth.Good := ⟨.inl rfl, good_ping, trivial, trivial⟩
theorem qgood_both : pBoth.Good := ⟨.inl ⟨rfl, rfl⟩, ⟨⟨by simp, good_ping, by kernel_rfl⟩, ⟨by decide, by decide⟩, trivial⟩, trivial⟩
abbrev cPing : Array Value := #[.int .i64 5, .int .i64 0, .complex .f64 0 0, .string ⟨#[112, 105, 110, 103]⟩, .int .i64 0, .int .i64 0, .slice none 0 0]
abbrev pPing : Array Value := #[.int .i64 3, .int .i64 0, .int .i64 5, .int .i64 0, .complex .f64 0 0, .string ⟨#[112, 105, 110, 103]⟩, .int .i64 0, .int .i64 0, .slice none 0 0, .slice none 0 0, .slice none 0 0]
abbrev pZero : Array Value := #[.int .i64 2, .int .i64 0, .int .i64 0, .int .i64 0, .complex .f64 0 0, .string ⟨#[]⟩, .int .i64 0, .int .i64 0, .slice none 0 0, .slice none 0 0, .slice none 0 0]
abbrev cFive : Array Value := #[.int .i64 3, .int .i64 5, .complex .f64 0 0, .string ⟨#[]⟩, .int .i64 0, .int .i64 0, .slice none 0 0]
set_option maxHeartbeats 400000 in
theorem cmp_ping (w : World) : Calls Tryz.prog 113 #[.string ⟨#[112, 105, 110, 103]⟩, .string ⟨#[112, 105, 110, 103]⟩] w fun e w' => e = .returned (.int .i64 0) ∧ w = w' := by
  have hN : ∀ w, Calls Tryz.prog 128 #[.string ⟨#[112, 105, 110, 103]⟩] w fun e w' => e = .returned (.bool false) ∧ w = w' := fun w => by
    go_enter Tryz.func128, Tryz.ntmps128
    go_wp2_with fail
    go_ret
    exact ⟨rfl, rfl⟩
  go_enter Tryz.func113, Tryz.ntmps113
  go_wp2_with fail
  (with_reducible refine (hN _).mono ?_)
  rintro e w1 ⟨rfl, rfl⟩
  go_wp2_with fail
  (with_reducible refine (hN _).mono ?_)
  rintro e w1 ⟨rfl, rfl⟩
  go_wp2_with fail
  go_ret
  exact ⟨rfl, rfl⟩
theorem check_ping (w : World) : Calls Tryz.prog 27 #[.agg cPing] w fun e w' => e = .returned (.int .i64 0) ∧ Only [] w w' := by
  have := check_any tPing good_ping (.slice none 0 0) (fun _ => False) w ((TV.leaf (by simp)).2 rfl) (fun _ h => h.elim)
  rw [chk_ping] at this
  exact this
set_option maxRecDepth 20000 in
set_option maxHeartbeats 4000000 in
theorem same_ping (w : World) : Calls Tryz.prog 64 #[.agg cPing, .agg cPing] w fun e w' => e = .returned (.bool true) ∧ Only [] w w' := by
  have rs := store_com
  have HC := Lib.hid (fun w => check_ping w)
  have HB := Lib.hid (show ∀ w, Calls Tryz.prog 92 #[.agg cPing, .agg cPing] w fun e w' => e = .returned (.int .i64 0) ∧ Only [] w w' from fun w => by
    have O0 := Lib.hid (((Only.refl [] w).alloc (.cells cPing 27)).alloc (.cells cPing 27))
    have B1 := Lib.hid ((Bk.made w 27 cPing).alloc (.cells cPing 27))
    have B2 := Lib.hid (Bk.madeAt (w := w.alloc (.cells cPing 27)) (t := 27) (cs := cPing) (b := w.heap.size + 1) (by simp))
    go_enter Tryz.func92, Tryz.ntmps92
    go_wp2_with fail
    (with_reducible refine (HC.out _).mono ?_)
    rintro e w1 ⟨rfl, o1⟩
    have O1 := Lib.hid (O0.out.trans o1 (by simp))
    have C2 := Lib.hid (B2.out.only o1 (by simp))
    obtain ⟨z0, z1, z2, z3, z4, z5, z6⟩ := C2.out.seven
    clear o1
    go_wp2_with fail
    (with_reducible refine (HC.out _).mono ?_)
    rintro e w2 ⟨rfl, o2⟩
    have O2 := Lib.hid (O1.out.trans o2 (by simp))
    clear o2
    go_wp2_with fail
    go_ret
    exact ⟨rfl, O2.out⟩)
  have HO := Lib.hid (show ∀ w, Calls Tryz.prog 93 #[.agg cPing, .agg cPing] w fun e w' => e = .returned (.int .i64 0) ∧ Only [] w w' from fun w => by
    have HM := Lib.hid (fun w => cmp_ping w)
    have O0 := Lib.hid (((Only.refl [] w).alloc (.cells cPing 27)).alloc (.cells cPing 27))
    go_enter Tryz.func93, Tryz.ntmps93
    go_wp2_with fail
    (with_reducible refine (HM.out _).mono ?_)
    rintro e w1 ⟨rfl, rfl⟩
    go_wp2_with fail
    go_ret
    exact ⟨rfl, O0.out⟩)
  have HP := Lib.hid (show ∀ w, Calls Tryz.prog 78 #[.agg cPing, .agg cPing] w fun e w' => e = .returned (.tuple #[.int .i64 0, .int .i64 0]) ∧ Only [] w w' from fun w => by
    have O0 := Lib.hid (((Only.refl [] w).alloc (.cells cPing 27)).alloc (.cells cPing 27))
    have B1 := Lib.hid ((Bk.made w 27 cPing).alloc (.cells cPing 27))
    have B2 := Lib.hid (Bk.madeAt (w := w.alloc (.cells cPing 27)) (t := 27) (cs := cPing) (b := w.heap.size + 1) (by simp))
    go_enter Tryz.func78, Tryz.ntmps78
    go_wp2_with fail
    (with_reducible refine (HB.out _).mono ?_)
    rintro e w1 ⟨rfl, o1⟩
    have O1 := Lib.hid (O0.out.trans o1 (by simp))
    have C1 := Lib.hid (B1.out.only o1 (by simp))
    have C2 := Lib.hid (B2.out.only o1 (by simp))
    obtain ⟨z0, z1, z2, z3, z4, z5, z6⟩ := C1.out.seven
    obtain ⟨y0, y1, y2, y3, y4, y5, y6⟩ := C2.out.seven
    clear o1
    go_wp2_with fail
    (with_reducible refine (HO.out _).mono ?_)
    rintro e w2 ⟨rfl, o2⟩
    have O2 := Lib.hid (O1.out.trans o2 (by simp))
    clear o2
    go_wp2_with fail
    exact bodyPost_ret (v := .tuple #[.int .i64 0, .int .i64 0]) (by simp [results, Tryz.results78, go_sem]) rfl ⟨rfl, O2.out⟩)
  have O0 := Lib.hid (((Only.refl [] w).alloc (.cells cPing 27)).alloc (.cells cPing 27))
  go_enter Tryz.func64, Tryz.ntmps64
  go_wp2_with fail
  (with_reducible refine (HP.out _).mono ?_)
  rintro e w1 ⟨rfl, o1⟩
  have O1 := Lib.hid (O0.out.trans o1 (by simp))
  clear o1
  go_wp2_with fail
  go_ret
  exact ⟨rfl, O1.out⟩
abbrev bcell : Array Value := #[.int .i64 0, .int .i64 3, .int .i64 5, .complex .f64 0 0, .string ⟨#[]⟩, .int .i64 0, .int .i64 0, .slice none 0 0]
theorem info_bind : (Tryz.prog.info? 53).map (fun i => (i.zero, i.size, i.bytes)) = some (some (.agg #[.int .i64 0, .int .i64 0, .int .i64 0, .complex .f64 0 0, .string ⟨#[]⟩, .int .i64 0, .int .i64 0, .slice none 0 0]), 8, 96) := by kernel_rfl
set_option maxRecDepth 20000 in
set_option maxHeartbeats 4000000 in
theorem match_leaf (mb : Nat) (w : World) :
    Calls Tryz.prog 44 #[.pointer (some ⟨mb, 0, none⟩), .agg (pcs 3 0 tPing (.slice none 0 0) (.slice none 0 0)), .agg cPing] w fun e w' => e = .returned (.bool true) ∧ Only [] w w' := by
  have rs := store_com
  have HP := Lib.hid (fun w => same_ping w)
  have O0 := Lib.hid (((Only.refl [] w).alloc (.cells pPing 30)).alloc (.cells cPing 27))
  change Calls Tryz.prog 44 #[.pointer (some ⟨mb, 0, none⟩), .agg pPing, .agg cPing] w _
  go_enter Tryz.func44, Tryz.ntmps44
  go_wp2_with fail
  (with_reducible refine (HP.out _).mono ?_)
  rintro e w1 ⟨rfl, o1⟩
  have O1 := Lib.hid (O0.out.trans o1 (by simp))
  clear o1
  go_wp2_with fail
  go_ret
  exact ⟨rfl, O1.out⟩
/-- One local is bound: a block of its own, of eight cells. -/
def Bound (w : World) (mb : Nat) : Prop := ∃ g c, Bk w mb 91 #[.slice (some ⟨g, 0, none⟩) 1 c] ∧ w.ownsRow 0 53 8 (.slice (some ⟨g, 0, none⟩) 1 c) 1 bcell.toList ∧ g ≠ mb
set_option maxRecDepth 20000 in
set_option maxHeartbeats 4000000 in
theorem match_var (mb : Nat) (w : World) (hm : Bk w mb 91 #[.slice none 0 0]) :
    Calls Tryz.prog 44 #[.pointer (some ⟨mb, 0, none⟩), .agg (pcs 2 0 .zero (.slice none 0 0) (.slice none 0 0)), .agg cFive] w fun e w' => e = .returned (.bool true) ∧ Bound w' mb ∧ Only [mb] w w' := by
  have rs := store_com
  obtain ⟨i, hi, hz, hz1, hz2⟩ := qinfo info_bind
  have HM := Lib.hid hm
  have hl := hm.lt
  obtain ⟨W5, hW5⟩ : ∃ W5, W5 = (w.alloc (.cells pZero 30)).alloc (.cells cFive 27) := ⟨_, rfl⟩
  have O0 := Lib.hid (show Only [] w W5 from hW5 ▸ ((Only.refl [] w).alloc _).alloc _)
  have BP := Lib.hid (show Bk W5 w.heap.size 30 pZero from hW5 ▸ (Bk.made w _ _).alloc _)
  have BF := Lib.hid (show Bk W5 (w.heap.size + 1) 27 cFive from hW5 ▸ Bk.madeAt (by simp))
  have M5 := Lib.hid (show Bk W5 mb 91 #[.slice none 0 0] from HM.out.only O0.out (by simp))
  clear hm
  change Calls Tryz.prog 44 #[.pointer (some ⟨mb, 0, none⟩), .agg pZero, .agg cFive] w _
  go_enter Tryz.func44, Tryz.ntmps44
  go_wp2_with fail
  try rw [← hW5]
  obtain ⟨p0, p1, p2, p3, p4, p5, p6, p7, p8, p9, p10⟩ := BP.out.eleven
  obtain ⟨f0, f1, f2, f3, f4, f5, f6⟩ := BF.out.seven
  have m0 := M5.out.cell0 (i := 0) rfl
  have mf := M5.out.free 0
  have m0a : ∀ o, (W5.alloc o).cell? ⟨mb, 0, none⟩ = some (.slice none 0 0) := fun o => (M5.out.alloc o).cell0 rfl
  have p1a : ∀ o, (W5.alloc o).cell? ⟨w.heap.size, 1, none⟩ = some (.int .i64 0) := fun o => (BP.out.alloc o).cell0 rfl
  have hbz : ∀ o, 0 ≤ (W5.alloc o).heap.size := fun o => Nat.zero_le _
  have R5 : ∀ o, (W5.alloc o).ownsRow 0 53 8 (.slice none 0 0) 0 [] := fun o => ⟨rfl, .inl ⟨rfl, rfl⟩⟩
  clear hW5
  go_region_law ((refine step_append_lies _ (by rfl) _ _ _ (by rfl) 0 53 i _ 8 96 Tryz.underlying49 hi hz hz1 hz2 rfl (by omega) _ 0 [] (by rfl) (Row.drew (R5 _)) _ 1 1 bcell.toList (by rfl) rfl (World.news_of_block (Bk.madeAt (w := W5) (b := W5.heap.size) rfl)) (by simp [Value.oneCell']) (by omega) (by unfold maxLen; omega) (by omega) (hbz _) _ rfl ?_; intro g cap' w2 hown hgrow hat hlt2; have o2 := Only.of_grown hgrow; have k2 := (M5.out.alloc _).drew.only o2 (by simp [Value.ownBlock]); have x2 := k2.cell0 (i := 0) rfl; have xf := k2.free 0; have K2 := Lib.hid k2; have P2 := Lib.hid o2; have HO := Lib.hid hown; have HAT := Lib.hid hat; clear k2 o2 hown hgrow hat))
  all_goals
    have hg : g ≠ mb := by
      have hM5 := M5.out.lt
      rcases HAT.out with h | h
      · cases h
      · rw [h]
        simp
        omega
    go_wp2_with fail
    go_ret
    refine ⟨rfl, ⟨g, cap', K2.out.set 0 _, ?_, hg⟩, ?_⟩
    · exact Row.only HO.out ((Only.refl [mb] _).set (.inl (by simp)) _) fun b hb hm => by
        injection hb with hb
        rw [List.mem_singleton.1 hm] at hb
        exact hg hb
    · exact ((((O0.out.alloc _).drew.trans P2.out (by simp [Value.ownBlock])).more (by simp)).set (.inl (by simp)) _)
end Go.Proofs.YtlilfmpikampgaaGreatDoor
