/- The program's Links. The program's All. The program's Load. The program's ties as what the laws ask for: all but Gone. The law's question of a pid: is it one of the list? -/
import Derived.Test.YtkodblhompphjaaVz
import Derived.OwnWalk
import Derived.Test.YtkodblhompphjaaVg
import Derived.Test.YtkodblhompphjaaVy
import Derived.Test.YtkodblhompphjaaVb
namespace Go.Proofs.Ytkodblhompphjaa
open Go.RowKit Go.Maps
set_option maxRecDepth 20000

/-- What the loop of Links keeps. -/
structure LnR (w : World) (b lb : Nat) (l : List Te) (p : Pd) (v : Value) (c : List Te) (wr : World) : Prop where
  it : LkIt wr lb (w.heap.size + 1) (lks l) c
  own : OwnS KP wr (w.heap.size + 2) v (c.flatMap (lnF p))
  bp : Bk wr w.heap.size 32 p.cs
  o : Only [] w wr
  sz : w.heap.size + 2 ≤ wr.heap.size
  lt : lb < w.heap.size
theorem LnR.goes {w wr w' : World} {b lb : Nat} {l : List Te} {p : Pd} {v : Value} {c : List Te} (h : LnR w b lb l p v c wr) (o : Only [] wr w') : LnR w b lb l p v c w' ∧ w'.rangeLeft lb (w.heap.size + 1) = wr.rangeLeft lb (w.heap.size + 1) := by
  obtain ⟨h1, h2⟩ := h.it.only o (by simp) (by simp)
  exact ⟨⟨h1, h.own.only o (by simp), h.bp.only o (by simp), h.o.trans o (by simp), Nat.le_trans h.sz o.size, h.lt⟩, h2⟩
/-- An entry has come. -/
theorem LnR.come {w wr w2 : World} {b lb : Nat} {l : List Te} {p : Pd} {v : Value} {c : List Te} (h : LnR w b lb l p v c wr) (ho : Only [w.heap.size + 1] wr w2) (hsz : w2.heap.size = wr.heap.size) :
    OwnS KP w2 (w.heap.size + 2) v (c.flatMap (lnF p)) ∧ Bk w2 w.heap.size 32 p.cs ∧ Only [] w w2 ∧ w.heap.size + 2 ≤ w2.heap.size :=
  ⟨h.own.only ho (fun g hg => by have := (h.own.block hg).1; simp; omega), h.bp.only ho (by simp), h.o.trans ho (by simp), by rw [hsz]; exact h.sz⟩
theorem LnR.next {w w2 w5 : World} {b lb : Nat} {l : List Te} {p : Pd} {v : Value} {c : List Te} {t : Te} {S : List Nat} (hit : LkIt w2 lb (w.heap.size + 1) (lks l) (c ++ [t])) (hown : OwnS KP w5 (w.heap.size + 2) v (c.flatMap (lnF p) ++ lnF p t))
    (bp : Bk w2 w.heap.size 32 p.cs) (o : Only [] w w2) (hz : w.heap.size + 2 ≤ w2.heap.size) (hm : lb < w.heap.size) (g : Only S w2 w5) (hS : ∀ i ∈ S, w.heap.size + 2 ≤ i) :
    (∃ c', LnR w b lb l p v c' w5) ∧ w5.rangeLeft lb (w.heap.size + 1) = w2.rangeLeft lb (w.heap.size + 1) := by
  obtain ⟨h1, h2⟩ := hit.only g (fun hi => by have := hS _ hi; omega) (fun hi => by have := hS _ hi; omega)
  refine ⟨⟨c ++ [t], ⟨h1, ?_, bp.only g (fun hi => by have := hS _ hi; omega), o.trans g fun i hi => .inr (by have := hS _ hi; omega), Nat.le_trans hz g.size, hm⟩⟩, h2⟩
  rw [flat_snoc]
  exact hown
set_option maxHeartbeats 4000000 in
theorem plinks_any {w : World} {b lb mb : Nat} {l : List Te} (h : LRep w b lb mb l) (p : Pd) : Calls Try.prog 18 #[ptB b, .agg p.cs] w fun e w' => ∃ v, e = .returned v ∧ OwnS KP w' w.heap.size v (linksT l p) ∧ Only [] w w' := by
  have o0 := (Only.refl [] w).alloc (.cells p.cs 32)
  have H0 := Lib.hid (h.only0 o0)
  have K0 := Lib.hid (given_any H0.out)
  have B0 := Lib.hid (Bk.made w 32 p.cs)
  have HM := Lib.hid h.may
  have HL := Lib.hid h.len
  have HB := Lib.hid h.lnk.lt
  have c1 := H0.out.blk.cell0 (i := 1) (v := .map (some lb)) rfl
  have O0 := Lib.hid o0
  have es : (w.alloc (.cells p.cs 32)).heap.size = w.heap.size + 1 := by simp
  clear o0 h
  go_enter Try.func18, Try.ntmps18
  go_wp2_with fail
  (with_reducible refine K0.out.mono ?_)
  rintro e w1 ⟨rfl, rfl⟩
  go_wp2_with (first | (at_range; refine wpList_range_lk _ (by rfl) _ (by rfl) (by rfl) H0.out.lnk (lks_ok HM.out) ?_; intro w1 hit ho hsz) | fail)
  go_frame
  rw [es] at hit hsz ⊢
  have R0 : Hid (LnR w b lb l p (.slice none 0 0) [] w1) := Lib.hid ⟨hit, OwnS.nil _ _ _, B0.out.only ho (by simp), O0.out.trans ho (by simp), by omega, HB.out⟩
  clear hit ho hsz es c1 K0 H0 B0 O0
  go_loopw [5, 6] (fun ov _ wr => ∃ c, LnR w b lb l p ov c wr) (fun _ _ wr => wr.rangeLeft lb (w.heap.size + 1))
  case atStart => exact ⟨[], R0.out⟩
  case round =>
    clear R0
    obtain ⟨c, hr⟩ := hrel
    have R := Lib.hid hr
    clear hr
    have hcl := R.out.it.len
    have hml := lks_len l
    have hfl := flat_le (lnF_le p) c
    go_wp2_with (first | (at_next; refine wpList_next_lk _ (by rfl) _ (by rfl) (by rfl) R.out.it (lks_ok HM.out) (lks_nodup HM.out) ?_ ?_) | fail)
    · intro hp
      have HP := Lib.hid hp
      clear hp
      have KS := Lib.hid (sortP_any R.out.own (by have := HL.out; omega))
      clear hcl hml hfl
      go_wp2_with fail
      (with_reducible refine KS.out.mono ?_)
      rintro e w2 ⟨rfl, ys, py, sy, oy, o2⟩
      have e1 : ys = linksT l p := eq_sortedP (linksT_srt HM.out p) (py.trans ((HP.out.flatMap_right (lnF p)).trans (linksT_perm p (mayT_ok HM.out)))) sy
      subst e1
      have E := Lib.hid (oy.low (base' := w.heap.size) (by omega))
      have O2 : Hid (Only [] w w2) := Lib.hid (R.out.o.trans o2 fun i hi => .inr (by have := (R.out.own.own_ge i hi).1; omega))
      clear py sy oy o2
      go_wp2_with fail
      go_ret
      exact ⟨_, rfl, E.out, O2.out⟩
    · intro t w2 ht hit hlt ho hsz hen
      obtain ⟨ow, bp, oo, hz⟩ := R.out.come ho hsz
      have OW := Lib.hid ow
      have BP := Lib.hid bp
      have OO := Lib.hid oo
      have HZ := Lib.hid hz
      have IT := Lib.hid hit
      have LT := Lib.hid hlt
      have hb := R.out.lt
      obtain ⟨p0, p1⟩ := (bp.alloc (.cells (prC t) 75)).pid
      have hll := HL.out
      clear R ow bp oo hz hit hlt ho hsz ht
      have T0 := Bk.made w2 75 (prC t)
      have t0 := T0.cell0 (i := 0) (v := .int .i64 t.a.n) rfl
      have t1 := T0.cell0 (i := 1) (v := .int .i64 t.a.g) rfl
      have t2 := T0.cell0 (i := 2) (v := .int .i64 t.b.n) rfl
      have t3 := T0.cell0 (i := 3) (v := .int .i64 t.b.g) rfl
      clear T0
      cases hE : eqP p t.a with
      | true =>
        have hw : lnF p t = [t.b] := by unfold lnF; rw [if_pos hE]
        have HW := Lib.hid hw
        clear hw
        simp only [eqP] at hE
        have LL : ((c.flatMap (lnF p)).length + [t.b].length) * KP.by' ≤ 140737488355328 := by show ((c.flatMap (lnF p)).length + 1) * 16 ≤ _; omega
        go_wp2_with (at_builtin; refine wpList_appS KP _ (by rfl) (.tmp 24) (.tmp 27) (by rfl) (by rfl) ((OW.out.alloc _).alloc _) (some ⟨w2.heap.size + 1, 0, none⟩) [t.b] 1 1 (by rfl) rfl (RdS.one (Bk.newAt (by simp)) rfl) (by have := HZ.out; simp; omega) LL ?_; intro v' w5 hown hgrow hat; have HO := Lib.hid hown; have HG := Lib.hid ((((Only.refl u5.ownBlock.toList w2).alloc _).alloc _).trans (Only.of_grown hgrow) (fun i hi => .inl hi)); clear hown hgrow hat)
        obtain ⟨N1, N2⟩ := LnR.next (b := b) IT.out (by rw [HW.out]; exact HO.out) BP.out OO.out HZ.out hb HG.out fun i hi => (OW.out.own_ge i hi).1
        have M1 := Lib.hid N1
        have M2 := Lib.hid N2
        clear N1 N2
        go_roundw
        case rel => exact M1.out
        case measure => rw [M2.out]; exact LT.out
      | false =>
        cases hE2 : eqP p t.b with
        | true =>
          have hw : lnF p t = [t.a] := by unfold lnF; rw [if_neg (by rw [hE]; simp), if_pos hE2]
          have HW := Lib.hid hw
          clear hw
          simp only [eqP] at hE hE2
          have LL : ((c.flatMap (lnF p)).length + [t.a].length) * KP.by' ≤ 140737488355328 := by show ((c.flatMap (lnF p)).length + 1) * 16 ≤ _; omega
          go_wp2_with (at_builtin; refine wpList_appS KP _ (by rfl) (.tmp 33) (.tmp 36) (by rfl) (by rfl) ((OW.out.alloc _).alloc _) (some ⟨w2.heap.size + 1, 0, none⟩) [t.a] 1 1 (by rfl) rfl (RdS.one (Bk.newAt (by simp)) rfl) (by have := HZ.out; simp; omega) LL ?_; intro v' w5 hown hgrow hat; have HO := Lib.hid hown; have HG := Lib.hid ((((Only.refl u5.ownBlock.toList w2).alloc _).alloc _).trans (Only.of_grown hgrow) (fun i hi => .inl hi)); clear hown hgrow hat)
          obtain ⟨N1, N2⟩ := LnR.next (b := b) IT.out (by rw [HW.out]; exact HO.out) BP.out OO.out HZ.out hb HG.out fun i hi => (OW.out.own_ge i hi).1
          have M1 := Lib.hid N1
          have M2 := Lib.hid N2
          clear N1 N2
          go_roundw
          case rel => exact M1.out
          case measure => rw [M2.out]; exact LT.out
        | false =>
          have hw : lnF p t = [] := by unfold lnF; rw [if_neg (by rw [hE]; simp), if_neg (by rw [hE2]; simp)]
          simp only [eqP] at hE hE2
          obtain ⟨N1, N2⟩ := LnR.next (b := b) IT.out (v := u5) (by rw [hw, List.append_nil]; exact OW.out.alloc (.cells (prC t) 75)) BP.out OO.out HZ.out hb ((Only.refl [] w2).alloc (.cells (prC t) 75)) (by simp)
          have M1 := Lib.hid N1
          have M2 := Lib.hid N2
          clear N1 N2 hw
          go_wp2_with fail
          go_roundw
          case rel => exact M1.out
          case measure => rw [M2.out]; exact LT.out
end Go.Proofs.Ytkodblhompphjaa

namespace Go.Proofs.Ytkodblhompphjaa
open Go.RowKit Go.Maps
set_option maxRecDepth 20000

theorem own_kind {α : Type} {K : Sk α} {w : World} {base : Nat} {v : Value} {xs : List α} (h : OwnS K w base v xs) {g : Nat} (hg : ∀ cs t f, w.heap[g]? ≠ some (.cells cs t f)) : g ∉ v.ownBlock.toList := by
  intro hm
  rcases h.2 with ⟨rfl, _⟩ | ⟨g', cap, cur, rfl, _, hb, _⟩
  · simp [Value.ownBlock] at hm
  · simp [Value.ownBlock] at hm
    subst hm
    exact hg _ _ _ hb
theorem LkIt.ne {α : Type} {K : Sk α} {w : World} {g r base : Nat} {S c : List Te} {v : Value} {xs : List α} (h : LkIt w g r S c) (k : OwnS K w base v xs) : g ∉ v.ownBlock.toList ∧ r ∉ v.ownBlock.toList := by
  obtain ⟨D, n, left, cnt, ⟨es, clock, since, seen, c0, hb, _, _, _, hr, _⟩, _⟩ := h
  exact ⟨own_kind k (by simp [hb]), own_kind k (by simp [hr])⟩
theorem MnIt.ne {α : Type} {K : Sk α} {w : World} {g r base : Nat} {S c : List Te} {v : Value} {xs : List α} (h : MnIt w g r S c) (k : OwnS K w base v xs) : g ∉ v.ownBlock.toList ∧ r ∉ v.ownBlock.toList := by
  obtain ⟨D, n, left, cnt, ⟨es, clock, since, seen, c0, hb, _, _, _, hr, _⟩, _⟩ := h
  exact ⟨own_kind k (by simp [hb]), own_kind k (by simp [hr])⟩
theorem MnM.ne {α : Type} {K : Sk α} {w : World} {g base : Nat} {S : List Te} {v : Value} {xs : List α} (h : MnM w g S) (k : OwnS K w base v xs) : g ∉ v.ownBlock.toList := by
  obtain ⟨D, n, ⟨es, clock, hb, _⟩, _⟩ := h
  exact own_kind k (by simp [hb])
structure AlR (w : World) (lb mb r : Nat) (l : List Te) (v : Value) (c : List Te) (wr : World) : Prop where
  it : LkIt wr lb r (lks l) c
  own : OwnS KT wr w.heap.size v c
  o : Only [] w wr
structure AmR (w : World) (mb r : Nat) (l c1 : List Te) (v : Value) (c : List Te) (wr : World) : Prop where
  it : MnIt wr mb r (mns l) c
  own : OwnS KT wr w.heap.size v (c1 ++ c)
  o : Only [] w wr
theorem AlR.come {w wr w2 : World} {lb mb r : Nat} {l : List Te} {v : Value} {c : List Te} (h : AlR w lb mb r l v c wr) (ho : Only [r] wr w2) (hr : w.heap.size ≤ r) : OwnS KT w2 w.heap.size v c ∧ Only [] w w2 :=
  ⟨h.own.only ho (fun g hg => by
    have := (h.it.ne h.own).2
    rw [hg] at this
    simpa using fun e => this (by simp [e])), h.o.trans ho (by simp; omega)⟩
theorem AmR.come {w wr w2 : World} {mb r : Nat} {l c1 : List Te} {v : Value} {c : List Te} (h : AmR w mb r l c1 v c wr) (ho : Only [r] wr w2) (hr : w.heap.size ≤ r) : OwnS KT w2 w.heap.size v (c1 ++ c) ∧ Only [] w w2 :=
  ⟨h.own.only ho (fun g hg => by
    have := (h.it.ne h.own).2
    rw [hg] at this
    simpa using fun e => this (by simp [e])), h.o.trans ho (by simp; omega)⟩
theorem AlR.next {w w2 w5 : World} {lb mb r : Nat} {l : List Te} {v v' : Value} {c : List Te} {t : Te} (hit : LkIt w2 lb r (lks l) (c ++ [t])) (h0 : OwnS KT w2 w.heap.size v c) (hown : OwnS KT w5 w.heap.size v' (c ++ [t])) (o : Only [] w w2) (g : Only v.ownBlock.toList w2 w5) :
    (∃ c', AlR w lb mb r l v' c' w5) ∧ w5.rangeLeft lb r = w2.rangeLeft lb r := by
  obtain ⟨n1, n2⟩ := hit.ne h0
  obtain ⟨h1, h2⟩ := hit.only g n1 n2
  exact ⟨⟨c ++ [t], h1, hown, o.trans g fun i hi => .inr (h0.own_ge i hi).1⟩, h2⟩
theorem AmR.next {w w2 w5 : World} {mb r : Nat} {l c1 : List Te} {v v' : Value} {c : List Te} {t : Te} (hit : MnIt w2 mb r (mns l) (c ++ [t])) (h0 : OwnS KT w2 w.heap.size v (c1 ++ c)) (hown : OwnS KT w5 w.heap.size v' (c1 ++ c ++ [t])) (o : Only [] w w2) (g : Only v.ownBlock.toList w2 w5) :
    (∃ c', AmR w mb r l c1 v' c' w5) ∧ w5.rangeLeft mb r = w2.rangeLeft mb r := by
  obtain ⟨n1, n2⟩ := hit.ne h0
  obtain ⟨h1, h2⟩ := hit.only g n1 n2
  exact ⟨⟨c ++ [t], h1, by rw [← List.append_assoc]; exact hown, o.trans g fun i hi => .inr (h0.own_ge i hi).1⟩, h2⟩
set_option maxHeartbeats 8000000 in
theorem pall_any {w : World} {b lb mb : Nat} {l : List Te} (h : LRep w b lb mb l) : Calls Try.prog 24 #[ptB b] w fun e w' => ∃ v, e = .returned v ∧ OwnS KT w' w.heap.size v l ∧ Only [] w w' := by
  have H := Lib.hid h
  have K0 := Lib.hid (given_any h)
  have HM := Lib.hid h.may
  have HL := Lib.hid h.len
  have c1 : ∀ n, (w.drewN n).cell? ⟨b, 1, none⟩ = some (.map (some lb)) := fun n => h.blk.cell0 (i := 1) rfl
  have c2 : ∀ n, (w.drewN n).cell? ⟨b, 2, none⟩ = some (.map (some mb)) := fun n => h.blk.cell0 (i := 2) rfl
  have l1 : ∀ n ty, (Builtin.len_ #[mpL] ty #[.map (some lb)]).run Try.prog (w.drewN n) = .ok (.int .i64 ((lks l).length : Nat)) (w.drewN n) := fun n ty => (h.lnk.only ((Only.refl [] w).drewN n) (by simp)).len ty
  have l2 : ∀ n ty, (Builtin.len_ #[mpM] ty #[.map (some mb)]).run Try.prog (w.drewN n) = .ok (.int .i64 ((mns l).length : Nat)) (w.drewN n) := fun n ty => (h.mon.only ((Only.refl [] w).drewN n) (by simp)).len ty
  have hs := lks_mns l
  have hl := h.len
  generalize hx : (lks l).length = x at *
  generalize hy : (mns l).length = y at *
  have hw : wrap64 ((x : Int) + (y : Int)) = ((l.length : Nat) : Int) := by rw [wrap64_in (by omega) (by omega)]; omega
  have HW := Lib.hid (show (x : Int) + (y : Int) = ((l.length : Nat) : Int) by omega)
  clear h hx hy hw
  go_enter Try.func24, Try.ntmps24
  go_wp2_with fail
  (with_reducible refine K0.out.mono ?_)
  rintro e w1 ⟨rfl, rfl⟩
  go_wp2_with fail
  refine wp_region_quiet_then 11 (by kernel_rfl) (by kernel_rfl) ?_
  simp only [List.take_succ_cons, List.take_zero, List.drop_succ_cons, List.drop_zero]
  repeat (go_big_quiet_step (fail))
  refine wpQuiet_nil ?_
  intro q
  go_wp2_with (first | (at_make; refine wpList_make_own _ (by rfl) _ _ KT.t (by rfl) w.heap.size KT.e KT.i KT.z KT.k KT.ht KT.hi KT.hz KT.hk .i64 .i64 _ l.length (by rfl) (by rfl) HW.out (by rw [KT.hb]; show 40 * l.length ≤ _; omega) (by unfold maxLen; omega) (Nat.le_refl _) ?_; intro w2 hown hgrow; have O2 := Lib.hid (((Only.refl [] w).drewN q).trans (Only.of_grown hgrow) (by simp)); have OW : Hid (OwnS KT w2 w.heap.size (.slice (some ⟨w.heap.size, 0, none⟩) 0 l.length) []) := Lib.hid hown; have H2 := Lib.hid (H.out.only0 O2.out); have d1 := H2.out.blk.cell0 (i := 1) (v := .map (some lb)) rfl; clear c1 c2 l1 l2 hown hgrow) | (at_range; refine wpList_range_lk _ (by rfl) _ (by rfl) (by rfl) H2.out.lnk (lks_ok HM.out) ?_; intro w3 hit ho hsz) | fail)
  go_frame
  have R0 : Hid (AlR w lb mb w2.heap.size l (.slice (some ⟨w.heap.size, 0, none⟩) 0 l.length) [] w3) := Lib.hid ⟨hit, OW.out.only ho (by simp), O2.out.trans ho (by simp)⟩
  have S2 := Lib.hid O2.out.size
  clear hit ho hsz d1 H2 OW O2 K0
  generalize w2.heap.size = r at R0 S2 ⊢
  clear w2
  go_loopw [3, 4] (fun ov _ wr => ∃ c, AlR w lb mb r l ov c wr) (fun _ _ wr => wr.rangeLeft lb r)
  case atStart => exact ⟨[], R0.out⟩
  case round =>
    clear R0
    obtain ⟨c, hr⟩ := hrel
    have R := Lib.hid hr
    clear hr
    have hcl := R.out.it.len
    have hml := lks_len l
    go_wp2_with (first | (at_next; refine wpList_next_lk _ (by rfl) _ (by rfl) (by rfl) R.out.it (lks_ok HM.out) (lks_nodup HM.out) ?_ ?_) | fail)
    · intro hp
      have HP := Lib.hid hp
      clear hp hcl hml
      have H3 := Lib.hid (H.out.only0 R.out.o)
      have d2 := H3.out.blk.cell0 (i := 2) (v := .map (some mb)) rfl
      go_wp2_with (first | (at_range; refine wpList_range_mn _ (by rfl) _ (by rfl) (by rfl) H3.out.mon (mns_ok HM.out) ?_; intro w3 hit ho hsz) | fail)
      go_frame
      have R1 : Hid (AmR w mb wr.heap.size l c u3 [] w3) := Lib.hid ⟨hit, by rw [List.append_nil]; exact R.out.own.only ho (by simp), R.out.o.trans ho (by simp)⟩
      have S3 := Lib.hid R.out.o.size
      clear hit ho hsz d2 H3 R
      generalize wr.heap.size = r2 at R1 S3 ⊢
      go_loopw [3, 6] (fun ov _ wr => ∃ c', AmR w mb r2 l c ov c' wr) (fun _ _ wr => wr.rangeLeft mb r2)
      case atStart => exact ⟨[], R1.out⟩
      case round =>
        clear R1
        obtain ⟨c', hr⟩ := hrel
        have R := Lib.hid hr
        clear hr
        have hcl := R.out.it.len
        have hml := mns_len l
        have hkl := HP.out.length_eq
        have hll := lks_len l
        go_wp2_with (first | (at_next; refine wpList_next_mn _ (by rfl) _ (by rfl) (by rfl) R.out.it (mns_ok HM.out) (mns_nodup HM.out) ?_ ?_) | fail)
        · intro hp
          have HP2 := Lib.hid hp
          clear hp
          have KS := Lib.hid (sortT_any R.out.own (by rw [List.length_append]; omega))
          clear hcl hml hkl hll
          go_wp2_with fail
          (with_reducible refine KS.out.mono ?_)
          rintro e w2 ⟨rfl, ys, py, sy, oy, o2⟩
          have e1 : ys = l := eq_sortedT HM.out (py.trans ((HP.out.append HP2.out).trans (lks_app_mns l))) sy
          subst e1
          have E := Lib.hid oy
          have O2 : Hid (Only [] w w2) := Lib.hid (R.out.o.trans o2 fun i hi => .inr (R.out.own.own_ge i hi).1)
          clear py sy oy o2
          go_wp2_with fail
          go_ret
          exact ⟨_, rfl, E.out, O2.out⟩
        · intro t w2 ht hit hlt ho hsz hen
          obtain ⟨ow, oo⟩ := R.out.come ho S3.out
          have OW := Lib.hid ow
          have OO := Lib.hid oo
          have IT := Lib.hid hit
          have LT := Lib.hid hlt
          clear R ow oo hit hlt ho hsz ht
          have T0 := Bk.made w2 45 t.cs
          obtain ⟨t0, t1, t2, t3, t4⟩ := T0.tie
          clear T0
          have LL : ((c ++ c').length + [t].length) * KT.by' ≤ 140737488355328 := by show ((c ++ c').length + 1) * 40 ≤ _; rw [List.length_append]; omega
          have Z := Lib.hid OO.out.size
          go_wp2_with (at_builtin; refine wpList_appS KT _ (by rfl) (.tmp 48) (.tmp 50) (by rfl) (by rfl) ((OW.out.alloc _).alloc _) (some ⟨w2.heap.size + 1, 0, none⟩) [t] 1 1 (by rfl) rfl (RdS.one (Bk.newAt (by simp)) rfl) (by have := Z.out; simp; omega) LL ?_; intro v' w5 hown hgrow hat; have HO := Lib.hid hown; have HG := Lib.hid ((((Only.refl u3.ownBlock.toList w2).alloc _).alloc _).trans (Only.of_grown hgrow) (fun i hi => .inl hi)); clear hown hgrow hat)
          obtain ⟨N1, N2⟩ := AmR.next IT.out OW.out HO.out OO.out HG.out
          have M1 := Lib.hid N1
          have M2 := Lib.hid N2
          clear N1 N2
          go_roundw
          case rel => exact M1.out
          case measure => rw [M2.out]; exact LT.out
    · intro t w2 ht hit hlt ho hsz hen
      obtain ⟨ow, oo⟩ := R.out.come ho S2.out
      have OW := Lib.hid ow
      have OO := Lib.hid oo
      have IT := Lib.hid hit
      have LT := Lib.hid hlt
      have et : (⟨0, t.a, t.b⟩ : Te) = t := by
        have := (lks_ok HM.out t ht).2
        obtain ⟨tr, ta, tb⟩ := t
        simp only at this
        rw [this]
      have ET := Lib.hid et
      clear R ow oo hit hlt ho hsz ht et
      have T0 := Bk.made w2 75 (prC t)
      have t0 := T0.cell0 (i := 0) (v := .int .i64 t.a.n) rfl
      have t1 := T0.cell0 (i := 1) (v := .int .i64 t.a.g) rfl
      have t2 := T0.cell0 (i := 2) (v := .int .i64 t.b.n) rfl
      have t3 := T0.cell0 (i := 3) (v := .int .i64 t.b.g) rfl
      clear T0
      have LL : (c.length + [(⟨0, t.a, t.b⟩ : Te)].length) * KT.by' ≤ 140737488355328 := by show (c.length + 1) * 40 ≤ _; omega
      have Z := Lib.hid OO.out.size
      go_wp2_with (at_builtin; refine wpList_appS KT _ (by rfl) (.tmp 31) (.tmp 37) (by rfl) (by rfl) ((OW.out.alloc _).alloc _) (some ⟨w2.heap.size + 1, 0, none⟩) [⟨0, t.a, t.b⟩] 1 1 (by rfl) rfl (RdS.one (Bk.newAt (by simp)) rfl) (by have := Z.out; simp; omega) LL ?_; intro v' w5 hown hgrow hat; have HO := Lib.hid hown; have HG := Lib.hid ((((Only.refl u3.ownBlock.toList w2).alloc _).alloc _).trans (Only.of_grown hgrow) (fun i hi => .inl hi)); clear hown hgrow hat)
      have HO2 : OwnS KT w5 w.heap.size v' (c ++ [t]) := by
        have := HO.out
        rw [ET.out] at this
        exact this
      obtain ⟨N1, N2⟩ := AlR.next (mb := mb) IT.out OW.out HO2 OO.out HG.out
      have M1 := Lib.hid N1
      have M2 := Lib.hid N2
      clear N1 N2 HO2
      go_roundw
      case rel => exact M1.out
      case measure => rw [M2.out]; exact LT.out
end Go.Proofs.Ytkodblhompphjaa

namespace Go.Proofs.Ytkodblhompphjaa
open Go.RowKit Go.Maps
set_option maxRecDepth 20000

/-- The program's test of two ties that stand one behind the other. -/
theorem cfT_ge {x y : Te} (hx : 0 ≤ x.r) (hy : 0 ≤ y.r) : decide (0 ≤ cfT x y) = !aheadT x y := by
  have h := ltT_ahead hx hy
  unfold ltT at h
  rw [← h]
  by_cases h1 : cfT x y < 0
  · rw [decide_eq_true h1, decide_eq_false (by omega)]; rfl
  · rw [decide_eq_false h1, decide_eq_true (by omega)]; rfl
/-- What Load's second loop has laid of a list's first i. -/
structure LdR (w : World) (b lb mb : Nat) (xs : List Te) (i : Nat) (wr : World) : Prop where
  le : i ≤ xs.length
  blk : Bk wr b 61 (tiesC b lb mb)
  ne : lb ≠ mb
  lnk : LkM wr lb (lks (xs.take i))
  mon : MnM wr mb (mns (xs.take i))
  new : w.heap.size ≤ b ∧ w.heap.size ≤ lb ∧ w.heap.size ≤ mb
  o : Only [] w wr
theorem take_snoc {xs : List Te} {i : Nat} {x : Te} (hx : xs[i]? = some x) : xs.take (i + 1) = xs.take i ++ [x] := by
  rw [List.take_add_one, hx]; rfl
theorem lks_snoc (l : List Te) (x : Te) : lks (l ++ [x]) = lks l ++ if (x.r == 0) = true then [x] else [] := by
  unfold lks
  rw [List.filter_append]
  congr 1
  split <;> simp_all
theorem mns_snoc (l : List Te) (x : Te) : mns (l ++ [x]) = mns l ++ if (x.r == 0) = true then [] else [x] := by
  unfold mns
  rw [List.filter_append]
  congr 1
  split <;> simp_all
theorem snoc_perm {α : Type} (l : List α) (x : α) : (x :: l).Perm (l ++ [x]) := (List.perm_append_comm (l₁ := [x]) (l₂ := l))
theorem mayT_take {l : List Te} (h : MayT l) (i : Nat) : MayT (l.take i) := fun j x hj hx => by
  rw [List.length_take] at hj
  have hji : j < i := by omega
  rw [List.getElem?_take_of_lt hji] at hx
  obtain ⟨h1, h2⟩ := h j x (by omega) hx
  refine ⟨h1, fun y h0 hy => h2 y h0 ?_⟩
  rw [List.getElem?_take_of_lt (by omega)] at hy
  exact hy
theorem not_take {xs : List Te} (h : MayT xs) {i : Nat} {x : Te} (hx : xs[i]? = some x) : x ∉ xs.take i := by
  have hn := mayT_nodup (mayT_take h (i + 1))
  rw [take_snoc hx, List.nodup_append] at hn
  exact fun hm => hn.2.2 x hm x (by simp) rfl
theorem LdR.put0 {w wr w1 w2 : World} {b lb mb : Nat} {xs : List Te} {i : Nat} {x : Te} (h : LdR w b lb mb xs i wr) (hx : xs[i]? = some x) (h0 : (x.r == 0) = true) (o : Only [] wr w1) (m : LkM w2 lb (x :: lks (xs.take i))) (o2 : Only [lb] w1 w2) : LdR w b lb mb xs (i + 1) w2 := by
  have hlb := h.lnk.apart h.blk
  have o3 : Only [lb] wr w2 := (o.more (by simp)).trans o2 (by simp)
  refine ⟨(List.getElem?_eq_some_iff.1 hx).1, h.blk.only o3 (by simp; omega), h.ne, ?_, ?_, h.new, h.o.trans o3 (by have := h.new; simp; omega)⟩
  · rw [take_snoc hx, lks_snoc, if_pos h0]
    exact m.perm (snoc_perm _ _)
  · rw [take_snoc hx, mns_snoc, if_pos h0, List.append_nil]
    exact h.mon.only o3 (by have := h.ne; simp; omega)
theorem LdR.put1 {w wr w1 w2 : World} {b lb mb : Nat} {xs : List Te} {i : Nat} {x : Te} (h : LdR w b lb mb xs i wr) (hx : xs[i]? = some x) (h0 : (x.r == 0) = false) (o : Only [] wr w1) (m : MnM w2 mb (x :: mns (xs.take i))) (o2 : Only [mb] w1 w2) : LdR w b lb mb xs (i + 1) w2 := by
  have hmb := h.mon.apart h.blk
  have o3 : Only [mb] wr w2 := (o.more (by simp)).trans o2 (by simp)
  refine ⟨(List.getElem?_eq_some_iff.1 hx).1, h.blk.only o3 (by simp; omega), h.ne, ?_, ?_, h.new, h.o.trans o3 (by have := h.new; simp; omega)⟩
  · rw [take_snoc hx, lks_snoc, if_neg (by rw [h0]; simp), List.append_nil]
    exact h.lnk.only o3 (by have := h.ne; simp; omega)
  · rw [take_snoc hx, mns_snoc, if_neg (by rw [h0]; simp)]
    exact m.perm (snoc_perm _ _)
/-- What Load answers. -/
def LoadP (w : World) (xs : List Te) (e : Ending) (w' : World) : Prop :=
  (loadE xs = 0 ∧ ∃ b lb mb, e = .returned (.tuple #[ptB b, .int .i64 0]) ∧ LRep w' b lb mb xs ∧ (w.heap.size ≤ b ∧ w.heap.size ≤ lb ∧ w.heap.size ≤ mb) ∧ Only [] w w') ∨
  (loadE xs ≠ 0 ∧ e = .returned (.tuple #[.pointer none, .int .i64 (loadE xs)]) ∧ Only [] w w')
theorem LoadP.no {w w' : World} {xs : List Te} (h : ¬ MayT xs) (o : Only [] w w') : LoadP w xs (.returned (.tuple #[.pointer none, .int .i64 1])) w' := .inr ⟨by rw [loadE_no h]; simp, by rw [loadE_no h], o⟩
theorem LoadP.big {w w' : World} {xs : List Te} (h : MayT xs) (hl : 1024 < xs.length) (o : Only [] w w') : LoadP w xs (.returned (.tuple #[.pointer none, .int .i64 150])) w' := .inr ⟨by rw [loadE_big h hl]; simp, by rw [loadE_big h hl], o⟩
set_option maxHeartbeats 16000000 in
theorem pload_any (A : Option Addr) (xs : List Te) (cap : Nat) (w : World) (h : RdS KT w A xs) (hl : xs.length * 40 + 4096 ≤ 140737488355328) : Calls Try.prog 13 #[.slice A xs.length cap] w (LoadP w xs) := by
  have H := Lib.hid h
  have KT' := fun x w => tieMay_any x w
  have KC := Lib.hid (fun x y w => cmpTies_any x y w)
  have KN := Lib.hid (fun w => new_any w)
  clear h
  go_enter Try.func13, Try.ntmps13
  go_wp2_with fail
  go_loopw [11] (fun iv wr => ∃ i : Nat, iv = .int .i64 i ∧ i ≤ xs.length ∧ MayTo xs i ∧ Only [] w wr) (fun iv _ => xs.length - (intOf iv).toNat)
  case atStart => exact ⟨0, rfl, Nat.zero_le _, fun j _ hj => absurd hj (by omega), Only.refl _ _⟩
  case round =>
    obtain ⟨i, rfl, hi, hm, o⟩ := hrel
    have O := Lib.hid o
    by_cases hlt : i < xs.length
    · obtain ⟨bl, off, rfl, hb, hc⟩ := RdT.at5 (H.out.only o (by simp)) (by omega)
      obtain ⟨x, hx⟩ := some_at hlt
      obtain ⟨x0, x1, x2, x3, x4⟩ := hc i x hx
      have HX := Lib.hid hx
      have HM := Lib.hid hm
      have OB := Lib.hid (o.alloc (.cells x.cs 45))
      have BX := Bk.made wr 45 x.cs
      have bt := BX.tie
      have k0 : ∀ z : Cm (wr.alloc (.cells x.cs 45)), z.1.cell? ⟨wr.heap.size, 0, none⟩ = some (.int .i64 x.r) := Cm.cell bt.1
      have k1 : ∀ z : Cm (wr.alloc (.cells x.cs 45)), z.1.cell? ⟨wr.heap.size, 1, none⟩ = some (.int .i64 x.a.n) := Cm.cell bt.2.1
      have k2 : ∀ z : Cm (wr.alloc (.cells x.cs 45)), z.1.cell? ⟨wr.heap.size, 2, none⟩ = some (.int .i64 x.a.g) := Cm.cell bt.2.2.1
      have k3 : ∀ z : Cm (wr.alloc (.cells x.cs 45)), z.1.cell? ⟨wr.heap.size, 3, none⟩ = some (.int .i64 x.b.n) := Cm.cell bt.2.2.2.1
      have k4 : ∀ z : Cm (wr.alloc (.cells x.cs 45)), z.1.cell? ⟨wr.heap.size, 4, none⟩ = some (.int .i64 x.b.g) := Cm.cell bt.2.2.2.2
      clear hc hx hm o bt BX
      cases ht : okTie x with
      | false =>
        have K1 : Hid (∀ w, Calls Try.prog 37 #[.agg x.cs] w fun e w' => e = .returned (.bool false) ∧ Only [] w w') := Lib.hid (fun w => ht ▸ KT' x w)
        have E := Lib.hid (MayT.no HX.out ht)
        clear KT'
        go_wp2_with fail
        refine wp_region_calm (by kernel_rfl) (by kernel_rfl) ?_
        repeat (go_big_quiet_step ((go_at_call 37; exact calmS (K1.out _))))
        refine wpQuiet_nil ?_
        rintro w5 ⟨⟨w5', o5⟩, e5⟩
        obtain rfl : w5 = w5' := e5
        have O5 := Lib.hid (OB.out.trans o5 (by simp))
        clear o5
        go_wp2_with fail
        go_ret2
        exact LoadP.no E.out O5.out
      | true =>
        have K1 : Hid (∀ w, Calls Try.prog 37 #[.agg x.cs] w fun e w' => e = .returned (.bool true) ∧ Only [] w w') := Lib.hid (fun w => ht ▸ KT' x w)
        by_cases hi0 : 0 < i
        · obtain ⟨y, hy⟩ := some_at (show i - 1 < xs.length by omega)
          obtain ⟨b2, o2', e2, -, hc⟩ := RdT.at5 (H.out.only OB.out (by simp)) (by omega)
          injection e2 with e2
          injection e2 with e2 e3
          subst e2 e3
          have hyc := hc (i - 1) y hy
          obtain ⟨k, rfl⟩ : ∃ k, i = k + 1 := ⟨i - 1, by omega⟩
          rw [Nat.add_sub_cancel] at hyc hy
          have y0 : ∀ z : Cm (wr.alloc (.cells x.cs 45)), z.1.cell? ⟨bl, off + k * 5, none⟩ = some (.int .i64 y.r) := Cm.cell hyc.1
          have y1 : ∀ z : Cm (wr.alloc (.cells x.cs 45)), z.1.cell? ⟨bl, off + k * 5 + 1, none⟩ = some (.int .i64 y.a.n) := Cm.cell hyc.2.1
          have y2 : ∀ z : Cm (wr.alloc (.cells x.cs 45)), z.1.cell? ⟨bl, off + k * 5 + 2, none⟩ = some (.int .i64 y.a.g) := Cm.cell hyc.2.2.1
          have y3 : ∀ z : Cm (wr.alloc (.cells x.cs 45)), z.1.cell? ⟨bl, off + k * 5 + 3, none⟩ = some (.int .i64 y.b.n) := Cm.cell hyc.2.2.2.1
          have y4 : ∀ z : Cm (wr.alloc (.cells x.cs 45)), z.1.cell? ⟨bl, off + k * 5 + 4, none⟩ = some (.int .i64 y.b.g) := Cm.cell hyc.2.2.2.2
          have m1 : IntKind.i64.wrap (((k + 1 : Nat) : Int) - 1) = (k : Int) := by rw [IntWalk.i64_in _ (by omega)]; omega
          have m2 : (((k + 1 : Nat) : Int) - 1) = (k : Int) := by omega
          have p0 : 0 ≤ (k : Int) := by omega
          have p1 : (k : Int) < (xs.length : Int) := by omega
          have p2 : decide (0 < ((k + 1 : Nat) : Int)) = true := decide_eq_true (by omega)
          have HY := Lib.hid hy
          have hyr : 0 ≤ y.r := okTie_r (HM.out k y (by omega) hy).1
          have hge := cfT_ge (x := y) (y := x) hyr (okTie_r ht)
          have K4 : Hid (∀ (z : Cm (wr.alloc (.cells x.cs 45))), Calls Try.prog 38 #[.agg y.cs, .agg x.cs] z.1 fun e w' => e = .returned (.int .i64 (cfT y x)) ∧ Only [] z.1 w') := Lib.hid (fun z => (KC.out y x z.1).mono fun _ _ ⟨h1, h2⟩ => ⟨h1, h2.o⟩)
          generalize cfT y x = cc at K4 hge
          clear hc hy hyc KT' hyr
          cases hah : aheadT y x with
          | true =>
            rw [hah, Bool.not_true] at hge
            go_wp2_with fail
            refine wp_region_calm (by kernel_rfl) (by kernel_rfl) ?_
            repeat (go_big_quiet_step ((first | (go_at_call 37; exact calmS (K1.out _)) | (go_at_call 38; exact calmS (K4.out _)))))
            refine wpQuiet_nil ?_
            rintro w5 ⟨⟨w5', o5⟩, e5⟩
            obtain rfl : w5 = w5' := e5
            have O5 := Lib.hid (OB.out.trans o5 (by simp))
            clear o5
            go_wp2_with fail
            go_roundw
            case rel => exact ⟨k + 1 + 1, by go_num, by omega, HM.out.step HX.out ht (fun z _ hz => by rw [Nat.add_sub_cancel, HY.out] at hz; injection hz with hz; rw [← hz]; exact hah), O5.out⟩
            case measure => simp [intOf]; omega
          | false =>
            rw [hah, Bool.not_false] at hge
            have E := Lib.hid (MayT.no2 HX.out hi0 (by rw [Nat.add_sub_cancel]; exact HY.out) hah)
            go_wp2_with fail
            refine wp_region_calm (by kernel_rfl) (by kernel_rfl) ?_
            repeat (go_big_quiet_step ((first | (go_at_call 37; exact calmS (K1.out _)) | (go_at_call 38; exact calmS (K4.out _)))))
            refine wpQuiet_nil ?_
            rintro w5 ⟨⟨w5', o5⟩, e5⟩
            obtain rfl : w5 = w5' := e5
            have O5 := Lib.hid (OB.out.trans o5 (by simp))
            clear o5
            go_wp2_with fail
            go_ret2
            exact LoadP.no E.out O5.out
        · have e0 : i = 0 := by omega
          subst e0
          simp only [Nat.zero_mul, Nat.add_zero] at x0 x1 x2 x3 x4
          clear KT'
          go_wp2_with fail
          refine wp_region_calm (by kernel_rfl) (by kernel_rfl) ?_
          repeat (go_big_quiet_step ((go_at_call 37; exact calmS (K1.out _))))
          refine wpQuiet_nil ?_
          rintro w5 ⟨⟨w5', o5⟩, e5⟩
          obtain rfl : w5 = w5' := e5
          have O5 := Lib.hid (OB.out.trans o5 (by simp))
          clear o5
          go_wp2_with fail
          go_roundw
          case rel => exact ⟨1, by go_num, by omega, HM.out.step HX.out ht (fun z h0 _ => by omega), O5.out⟩
          case measure => simp [intOf]; omega
    · have hM := hm.whole (by omega)
      have HM := Lib.hid hM
      clear hm hM o
      by_cases hb : 1024 < xs.length
      · have q1 : decide (1024 < (xs.length : Int)) = true := decide_eq_true (by omega)
        have E := Lib.hid (fun w' (o : Only [] w w') => LoadP.big HM.out hb o)
        clear hb
        go_wp2_with fail
        go_ret2
        exact E.out _ O.out
      · have q1 : decide (1024 < (xs.length : Int)) = false := decide_eq_false (by omega)
        have HL := Lib.hid hb
        clear hb
        go_wp2_with fail
        (with_reducible refine (KN.out _).mono ?_)
        rintro e w2 ⟨b, lb, mb, rfl, hr, hn, o2⟩
        have R0 : Hid (LdR w b lb mb xs 0 w2) := Lib.hid ⟨Nat.zero_le _, hr.blk, hr.ne, hr.lnk, hr.mon, ⟨Nat.le_trans O.out.size hn.1, Nat.le_trans O.out.size hn.2.1, Nat.le_trans O.out.size hn.2.2⟩, O.out.trans o2 (by simp)⟩
        clear hr hn o2
        go_wp2_with fail
        go_loopw [40] (fun iv wr => ∃ i : Nat, iv = .int .i64 i ∧ LdR w b lb mb xs i wr) (fun iv _ => xs.length - (intOf iv).toNat)
        case atStart => exact ⟨0, rfl, R0.out⟩
        case round =>
          clear R0
          obtain ⟨i, rfl, hr⟩ := hrel
          have R := Lib.hid hr
          clear hr
          by_cases hlt : i < xs.length
          · obtain ⟨bl, off, rfl, hb, hc⟩ := RdT.at5 (H.out.only R.out.o (by simp)) (by omega)
            obtain ⟨x, hx⟩ := some_at hlt
            obtain ⟨x0, x1, x2, x3, x4⟩ := hc i x hx
            have HX := Lib.hid hx
            have BX := Lib.hid (Bk.made wr 45 x.cs)
            have OX := Lib.hid ((Only.refl [] wr).alloc (.cells x.cs 45))
            have BB := Lib.hid (R.out.blk.alloc (.cells x.cs 45))
            have hok := mayT_ok HM.out x (List.mem_of_getElem? hx)
            have HO := Lib.hid hok
            have hsz := R.out.le
            obtain ⟨z0, z1, z2, z3, z4⟩ := BX.out.tie
            clear hc hx hb hok
            cases h0 : x.r == 0 with
            | true =>
              have H0 := Lib.hid h0
              have c1 := BB.out.cell0 (i := 1) (v := .map (some lb)) rfl
              go_wp2_with fail
              refine wp_region_quiet_then 10 (by kernel_rfl) (by kernel_rfl) ?_
              simp only [List.take_succ_cons, List.take_zero, List.drop_succ_cons, List.drop_zero]
              repeat (go_big_quiet_step (fail))
              refine wpQuiet_nil ?_
              intro q
              obtain ⟨w7, hd, m7, o7⟩ := (R.out.lnk.only (OX.out.drewN q) (by simp)).put (lks_ok (mayT_take HM.out i)) ⟨HO.out, by simpa using H0.out⟩ (fun hm => not_take HM.out HX.out (List.mem_filter.1 hm).1) (by have := lks_len (xs.take i); rw [List.length_take] at this; simp only [maxLen]; omega)
              have N := Lib.hid (R.out.put0 HX.out H0.out (OX.out.drewN q) m7 o7)
              clear m7 o7 x0 x1 x2 x3 x4 z0 z1 z2 z3 z4 c1
              go_wp2_with fail
              go_roundw
              case rel => exact ⟨i + 1, by go_num, N.out⟩
              case measure => simp [intOf]; omega
            | false =>
              have H0 := Lib.hid h0
              have c2 := BB.out.cell0 (i := 2) (v := .map (some mb)) rfl
              go_wp2_with fail
              refine wp_region_quiet_then 7 (by kernel_rfl) (by kernel_rfl) ?_
              simp only [List.take_succ_cons, List.take_zero, List.drop_succ_cons, List.drop_zero]
              repeat (go_big_quiet_step (fail))
              refine wpQuiet_nil ?_
              intro q
              have hu : ∀ y ∈ mns (xs.take i), y.r ≠ x.r := fun y hy e => by
                have hm := mns_ok (mayT_take HM.out (i + 1))
                rw [take_snoc HX.out, mns_snoc, if_neg (by rw [H0.out]; simp)] at hm
                obtain rfl := hm.2 y (by simp [hy]) x (by simp) e
                exact not_take HM.out HX.out (List.mem_filter.1 hy).1
              obtain ⟨w7, hd, m7, o7⟩ := (R.out.mon.only (OX.out.drewN q) (by simp)).put ⟨HO.out, by have := H0.out; simpa using this⟩ hu (by have := mns_len (xs.take i); rw [List.length_take] at this; simp only [maxLen]; omega)
              have N := Lib.hid (R.out.put1 HX.out H0.out (OX.out.drewN q) m7 o7)
              clear m7 o7 x0 x1 x2 x3 x4 z0 z1 z2 z3 z4 c2 hu
              go_wp2_with fail
              go_roundw
              case rel => exact ⟨i + 1, by go_num, N.out⟩
              case measure => simp [intOf]; omega
          · have e : i = xs.length := by have := R.out.le; omega
            subst e
            have E : Hid (∀ w', Only [] wr w' → LoadP w xs (.returned (.tuple #[ptB b, .int .i64 0])) w') := Lib.hid (fun w' o => .inl ⟨loadE_yes HM.out HL.out, b, lb, mb, rfl, by
              have r := R.out
              exact (LRep.mk HM.out (by have := HL.out; omega) r.blk r.ne (by have := r.lnk; rw [List.take_length] at this; exact this) (by have := r.mon; rw [List.take_length] at this; exact this)).only0 o, R.out.new, R.out.o.trans o (by simp)⟩)
            go_wp2_with fail
            go_ret2
            exact E.out _ (Only.refl _ _)
end Go.Proofs.Ytkodblhompphjaa

namespace Go.Proofs.Ytkodblhompphjaa
open Go.RowKit

def tRep : TiesRep where
  rep w b F l := ∃ lb mb, F = [b, lb, mb] ∧ LRep w b lb mb l
  lt := fun {w b F l} ⟨lb, mb, e, h⟩ g hg => by
    subst e
    simp only [List.mem_cons, List.not_mem_nil, or_false] at hg
    rcases hg with rfl | rfl | rfl
    · exact h.blk.lt
    · exact h.lnk.lt
    · exact h.mon.lt
  only := fun {w w' b F l S} ⟨lb, mb, e, h⟩ o hS => by
    subst e
    exact ⟨lb, mb, rfl, h.only o (hS _ (by simp)) (hS _ (by simp)) (hS _ (by simp))⟩
  all := fun {w b F l} ⟨_, _, _, h⟩ => pall_any h
  links := fun {w b F l} p ⟨_, _, _, h⟩ => plinks_any h p
  watchers := fun {w b F l} p ⟨_, _, _, h⟩ => pwatch_any h p
theorem tLoad : LoadOk tRep := fun A xs cap w h hl => (pload_any A xs cap w h hl).mono fun e w' hp => by
  rcases hp with ⟨h0, b, lb, mb, he, hr, hn, o⟩ | h
  · refine .inl ⟨h0, b, [b, lb, mb], he, ⟨lb, mb, rfl, hr⟩, fun g hg => ?_, o⟩
    simp only [List.mem_cons, List.not_mem_nil, or_false] at hg
    rcases hg with rfl | rfl | rfl
    · exact hn.1
    · exact hn.2.1
    · exact hn.2.2
  · exact .inr h
theorem tAwake : AwakeOk15 := awake15_any
end Go.Proofs.Ytkodblhompphjaa

namespace Go.Proofs.Ytkodblhompphjaa
open Go.RowKit

set_option maxHeartbeats 1000000 in
theorem in_any (A : Option Addr) (xs : List Pd) (cap : Nat) (y : Pd) (w : World) (h : RdS KP w A xs) (hl : xs.length ≤ 17592186044416) :
    Calls Try.prog 17 #[.slice A xs.length cap, .agg y.cs] w fun e w' => e = .returned (.bool (decide (y ∈ xs))) ∧ Only [] w w' := by
  have H := Lib.hid h
  have BY := Lib.hid (Bk.made w 32 y.cs)
  have O := Lib.hid ((Only.refl [] w).alloc (.cells y.cs 32))
  clear h
  go_enter Try.func17, Try.ntmps17
  go_wp2_with fail
  go_loopw [5] (fun iv wr => ∃ i : Nat, iv = .int .i64 i ∧ (∀ j z, j < i → xs[j]? = some z → z ≠ y) ∧ i ≤ xs.length ∧ Bk wr w.heap.size 32 y.cs ∧ Only [] w wr) (fun iv _ => xs.length - (intOf iv).toNat)
  case atStart => exact ⟨0, rfl, fun j _ hj => absurd hj (by omega), Nat.zero_le _, BY.out, O.out⟩
  case round =>
    clear BY O
    obtain ⟨i, rfl, hall, hi, by', o⟩ := hrel
    obtain ⟨y0, y1⟩ := by'.pid
    have BY := Lib.hid by'
    have O := Lib.hid o
    clear by' o
    by_cases hlt : i < xs.length
    · obtain ⟨bl, off, rfl, hb, hc⟩ := RdP.at2 (H.out.only O.out (by simp)) (by omega)
      obtain ⟨x, hx⟩ := some_at hlt
      obtain ⟨x0, x1⟩ := hc i x hx
      have HX := Lib.hid hx
      have HA := Lib.hid hall
      clear hc hx hall
      cases ht : eqP x y with
      | true =>
        have HE := Lib.hid (eqP_iff.1 ht)
        simp only [eqP] at ht
        go_wp2_with fail
        go_quiet (fail)
        go_wp2
        go_ret
        exact ⟨retB (decide_eq_true (List.mem_iff_getElem?.2 ⟨i, by rw [HX.out, HE.out]⟩)).symm, O.out.drewN _⟩
      | false =>
        have hn : x ≠ y := fun h => by rw [eqP_iff.2 h] at ht; cases ht
        simp only [eqP] at ht
        have HN := Lib.hid hn
        clear hn
        go_wp2_with fail
        go_quiet (fail)
        go_wp2
        go_roundw
        case rel => exact ⟨i + 1, by go_num, fun j z hj hz => by
          by_cases e : j = i
          · subst e
            rw [HX.out] at hz
            injection hz with hz
            rw [← hz]
            exact HN.out
          · exact HA.out j z (by omega) hz, by omega, BY.out.drewN _, O.out.drewN _⟩
        case measure => simp [intOf]; omega
    · have hno : ¬ y ∈ xs := fun hm => by
        obtain ⟨j, hj⟩ := List.mem_iff_getElem?.1 hm
        exact hall j y (by have := (List.getElem?_eq_some_iff.1 hj).1; omega) hj rfl
      go_wp2_with fail
      go_ret
      exact ⟨retB (decide_eq_false hno).symm, O.out⟩
end Go.Proofs.Ytkodblhompphjaa
