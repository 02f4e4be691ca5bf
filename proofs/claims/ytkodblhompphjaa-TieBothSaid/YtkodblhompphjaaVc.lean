/- The document's ties: without one. Are two lists of ties, of pids the same? The document. The document's ties: the monitor of a ref. The document's ties: links of one, watchers of one. The document's ties: the watchers of one. -/
import Derived.Test.YtkodblhompphjaaVb
namespace Go.Proofs.Ytkodblhompphjaa
open Go.RowKit

def lessT (l : List Te) (y : Te) : List Te := l.filter (fun x => !eqT x y)
abbrev tiC (f : Bool) (v : Value) : Array Value := #[.bool f, v]
theorem lessT_take {l : List Te} {i : Nat} {x y : Te} (h : l[i]? = some x) : lessT (l.take (i + 1)) y = if eqT x y then lessT (l.take i) y else lessT (l.take i) y ++ [x] := by
  unfold lessT
  rw [List.take_add_one, h, List.filter_append]
  cases hx : eqT x y <;> simp [hx]
set_option maxHeartbeats 4000000 in
theorem rless_any (f : Bool) (A : Option Addr) (xs : List Te) (cap : Nat) (y : Te) (w : World) (h : RdS KT w A xs) (hl : xs.length * 40 + 4096 ≤ 140737488355328) :
    Calls Try.prog 55 #[.agg (tiC f (.slice A xs.length cap)), .agg y.cs] w fun e w' => ∃ v, e = .returned (.agg (tiC true v)) ∧ OwnS KT w' w.heap.size v (lessT xs y) ∧ Only [] w w' := by
  have H := Lib.hid h
  have s1 : (w.alloc (.cells (tiC f (.slice A xs.length cap)) 27)).heap.size = w.heap.size + 1 := by simp
  have bt := (((Bk.made w 27 (tiC f (.slice A xs.length cap))).alloc (.cells y.cs 45)).alloc (.cells (tiC false (.slice none 0 0)) 27)).alloc (.cells (tiC true (.slice none 0 0)) 27)
  have by' := ((Bk.newAt (w := w.alloc (.cells (tiC f (.slice A xs.length cap)) 27)) (t := 45) (cs := y.cs) (b := w.heap.size + 1) (by simp)).alloc (.cells (tiC false (.slice none 0 0)) 27)).alloc (.cells (tiC true (.slice none 0 0)) 27)
  have br := (Bk.newAt (w := (w.alloc (.cells (tiC f (.slice A xs.length cap)) 27)).alloc (.cells y.cs 45)) (t := 27) (cs := tiC false (.slice none 0 0)) (b := w.heap.size + 1 + 1) (by simp)).alloc (.cells (tiC true (.slice none 0 0)) 27)
  have bo := Bk.newAt (w := ((w.alloc (.cells (tiC f (.slice A xs.length cap)) 27)).alloc (.cells y.cs 45)).alloc (.cells (tiC false (.slice none 0 0)) 27)) (t := 27) (cs := tiC true (.slice none 0 0)) (b := w.heap.size + 1 + 1 + 1) (by simp)
  have o := ((((Only.refl [] w).alloc (.cells (tiC f (.slice A xs.length cap)) 27)).alloc (.cells y.cs 45)).alloc (.cells (tiC false (.slice none 0 0)) 27)).alloc (.cells (tiC true (.slice none 0 0)) 27)
  have hs : w.heap.size + 1 + 1 + 1 + 1 ≤ ((((w.alloc (.cells (tiC f (.slice A xs.length cap)) 27)).alloc (.cells y.cs 45)).alloc (.cells (tiC false (.slice none 0 0)) 27)).alloc (.cells (tiC true (.slice none 0 0)) 27)).heap.size := by simp
  have BT := Lib.hid bt
  have BY := Lib.hid by'
  have BR := Lib.hid br
  have BO := Lib.hid bo
  have O := Lib.hid o
  have HS := Lib.hid hs
  clear bt by' br bo o hs h s1
  go_enter Try.func55, Try.ntmps55
  go_wp2_with fail
  go_loopw [6] (fun iv wr => ∃ (i : Nat) (v : Value), iv = .int .i64 i ∧ i ≤ xs.length ∧ OwnS KT wr (w.heap.size + 4) v (lessT (xs.take i) y) ∧
    Bk wr w.heap.size 27 (tiC f (.slice A xs.length cap)) ∧ Bk wr (w.heap.size + 1) 45 y.cs ∧ Bk wr (w.heap.size + 1 + 1) 27 (tiC false (.slice none 0 0)) ∧ Bk wr (w.heap.size + 1 + 1 + 1) 27 (tiC true v) ∧ Only [] w wr ∧ w.heap.size + 1 + 1 + 1 + 1 ≤ wr.heap.size) (fun iv _ => xs.length - (intOf iv).toNat)
  case atStart => exact ⟨0, _, rfl, Nat.zero_le _, OwnS.nil _ _ _, BT.out, BY.out, BR.out, BO.out, O.out, HS.out⟩
  case round =>
    clear BT BY BR BO O HS
    obtain ⟨i, v, rfl, hi, hv, bt, by', br, bo, o, hs⟩ := hrel
    have c1 := bt.cell0 (i := 1) rfl
    obtain ⟨y0, y1, y2, y3, y4⟩ := by'.tie
    have d1 := bo.cell0 (i := 1) rfl
    have df := bo.free
    have BT := Lib.hid bt
    have BY := Lib.hid by'
    have BR := Lib.hid br
    have BO := Lib.hid bo
    have O := Lib.hid o
    have HS := Lib.hid hs
    have HV := Lib.hid hv
    clear bt by' br bo o hs hv
    by_cases hlt : i < xs.length
    · obtain ⟨bl, off, rfl, hb, hc⟩ := RdT.at5 (H.out.only O.out (by simp)) (by omega)
      obtain ⟨x, hx⟩ := some_at hlt
      obtain ⟨x0, x1, x2, x3, x4⟩ := hc i x hx
      have ht := lessT_take (y := y) hx
      have hli : (lessT (xs.take i) y).length ≤ i := Nat.le_trans (List.length_filter_le _ _) (by simp; omega)
      clear hc hx
      cases hE : eqT x y with
      | true =>
        rw [if_pos hE] at ht
        simp only [eqT] at hE
        have HT := Lib.hid ht
        clear ht
        go_wp2_with fail
        go_quiet (fail)
        go_wp2
        go_roundw
        case rel => exact ⟨i + 1, v, by go_num, by omega, by rw [HT.out]; exact HV.out.drewN _, BT.out.drewN _, BY.out.drewN _, BR.out.drewN _, BO.out.drewN _, O.out.drewN _, HS.out⟩
        case measure => simp [intOf]; omega
      | false =>
        rw [if_neg (by rw [hE]; simp)] at ht
        simp only [eqT] at hE
        have HT := Lib.hid ht
        clear ht
        go_wp2_with fail
        go_quiet (fail)
        go_wp2
        have d1' : ∀ o, ((wr.drewN (nq + 1)).alloc o).cell? ⟨w.heap.size + 1 + 1 + 1, 1, none⟩ = some v := fun o => ((BO.out.drewN _).alloc o).cell0 rfl
        have LV : ∀ o, OwnS KT ((wr.drewN (nq + 1)).alloc o) (w.heap.size + 4) v (lessT (xs.take i) y) := fun o => (HV.out.drewN _).alloc o
        have LO : ∀ o, Bk ((wr.drewN (nq + 1)).alloc o) (w.heap.size + 1 + 1 + 1) 27 (tiC true v) := fun o => (BO.out.drewN _).alloc o
        have LL : ((lessT (xs.take i) y).length + 1) * KT.by' ≤ 140737488355328 := by show ((lessT (xs.take i) y).length + 1) * 40 ≤ _; omega
        have LB : ∀ o, w.heap.size + 4 ≤ ((wr.drewN (nq + 1)).alloc o).heap.size := fun o => by have := HS.out; simp; omega
        have LT : ∀ o, Bk ((wr.drewN (nq + 1)).alloc o) w.heap.size 27 (tiC f (.slice (some ⟨bl, off, none⟩) xs.length cap)) := fun o => (BT.out.drewN _).alloc o
        have LY : ∀ o, Bk ((wr.drewN (nq + 1)).alloc o) (w.heap.size + 1) 45 y.cs := fun o => (BY.out.drewN _).alloc o
        have LR : ∀ o, Bk ((wr.drewN (nq + 1)).alloc o) (w.heap.size + 1 + 1) 27 (tiC false (.slice none 0 0)) := fun o => (BR.out.drewN _).alloc o
        have LW : ∀ o, Only [] w ((wr.drewN (nq + 1)).alloc o) := fun o => (O.out.drewN _).alloc o
        go_region_law ((refine step_appS KT (by rfl) _ _ (by rfl) (base := w.heap.size + 4) (v := v) (by rfl) (LV _) _ x (by rfl) (RdS.one (Bk.newAt (by simp)) rfl) (LB _) LL _ rfl ?_; intro g cap' w1 hown hgrow hat hlt1; have k0 := (LV _).keep hgrow (LO _) (by omega); have k1 := k0.cell0 (i := 1) rfl; have kf := k0.free; have K0 := Lib.hid k0; have G0 := Lib.hid ((LV _).keep hgrow (LT _) (by omega)); have G1 := Lib.hid ((LV _).keep hgrow (LY _) (by omega)); have G2 := Lib.hid ((LV _).keep hgrow (LR _) (by omega)); have G3 := Lib.hid ((LV _).goes hgrow (LW _) (by omega)); have G4 := Lib.hid (Nat.le_trans (LB _) hgrow.size); have HO := Lib.hid hown; clear hgrow hown hat k0))
        all_goals
          go_wp2_with fail
          go_roundw
          case rel =>
            have S3 : ∀ u, Only [w.heap.size + 1 + 1 + 1] w1 (w1.setCell ⟨w.heap.size + 1 + 1 + 1, 1, none⟩ u) := fun u => (Only.refl _ _).set (.inl (by simp)) u
            exact ⟨i + 1, _, by go_num, by omega, by rw [HT.out]; exact HO.out.only (S3 _) (fun g' hg' => by have := (HO.out.block hg').1; simp; omega), G0.out.only (S3 _) (by simp; omega), G1.out.only (S3 _) (by simp), G2.out.only (S3 _) (by simp), K0.out.set 1 _, G3.out.trans (S3 _) (by simp; omega), Nat.le_trans G4.out (by simp [World.setCell])⟩
          case measure => simp [intOf]; omega
    · have e : i = xs.length := by omega
      subst e
      obtain ⟨A', cap', hv', -⟩ := HV.out.form
      subst hv'
      have h0 := BO.out.cell0 (i := 0) rfl
      have z0 := BR.out.cell0 (i := 0) rfl
      have z1 := BR.out.cell0 (i := 1) rfl
      have zf := BR.out.free
      go_wp2_with fail
      have L : w.heap.size ≤ w.heap.size + 1 + 1 := by omega
      have oo := ((Only.refl [w.heap.size + 1 + 1] wr).set (p := ⟨w.heap.size + 1 + 1, 0, none⟩) (.inl (by simp)) (.bool true)).set (p := ⟨w.heap.size + 1 + 1, 1, none⟩) (.inl (by simp)) (.slice A' (lessT (xs.take xs.length) y).length cap')
      refine bodyPost_ret (v := .agg (tiC true (.slice A' (lessT (xs.take xs.length) y).length cap'))) (by simp [results, Try.results55, go_sem, z0, z1]) rfl ⟨_, rfl, ?_, ((O.out.set (.inr L) _).set (.inr L) _)⟩
      have hv := HV.out
      rw [List.take_length] at hv oo
      simp only [List.take_length]
      exact (hv.low (by omega)).only oo (fun g' hg' => by have := (hv.block hg').1; simp; omega)
end Go.Proofs.Ytkodblhompphjaa

namespace Go.Proofs.Ytkodblhompphjaa
open Go.RowKit

theorem rsame_any_step {xs ys : List Te} {i : Nat} {x y : Te} (hx : xs[i]? = some x) (hy : ys[i]? = some y) (h : ∀ j, j < i → xs[j]? = ys[j]?) (he : eqT x y = true) : ∀ j, j < i + 1 → xs[j]? = ys[j]? := fun j hj => by
  by_cases e : j = i
  · subst e
    rw [hx, hy, eqT_iff.1 he]
  · exact h j (by omega)
set_option maxHeartbeats 1000000 in
theorem rsame_any (A B : Option Addr) (xs ys : List Te) (ca cb : Nat) (w : World) (ha : RdS KT w A xs) (hb : RdS KT w B ys) (h1 : xs.length ≤ 17592186044416) (h2 : ys.length ≤ 17592186044416) :
    Calls Try.prog 15 #[.slice A xs.length ca, .slice B ys.length cb] w fun e w' => e = .returned (.bool (decide (xs = ys))) ∧ ∃ k, w' = w.drewN k := by
  by_cases hlen : xs.length = ys.length
  · have e1 : (((xs.length : Int)) != (ys.length : Int)) = false := by simp; omega
    have HA := Lib.hid ha
    have HB := Lib.hid hb
    have HL := Lib.hid hlen
    clear ha hb hlen
    go_enter Try.func15, Try.ntmps15
    go_wp2_with fail
    go_loopw [5] (fun v wr => ∃ k q : Nat, v = .int .i64 k ∧ k ≤ xs.length ∧ (∀ j, j < k → xs[j]? = ys[j]?) ∧ wr = w.drewN q) (fun v _ => xs.length - (intOf v).toNat)
    case atStart => exact ⟨0, 0, rfl, Nat.zero_le _, fun j hj => absurd hj (Nat.not_lt_zero j), rfl⟩
    case round =>
      obtain ⟨k, q, rfl, hk, hall, rfl⟩ := hrel
      by_cases hlt : k < xs.length
      · have hk2 : k < ys.length := by rw [← HL.out]; exact hlt
        obtain ⟨b1, o1, rfl, -, f1⟩ := RdT.at5 HA.out (by omega)
        obtain ⟨b2, o2, rfl, -, f2⟩ := RdT.at5 HB.out (by omega)
        obtain ⟨x, hx⟩ := some_at hlt
        obtain ⟨y, hy⟩ := some_at hk2
        obtain ⟨x0, x1, x2, x3, x4⟩ := f1 k x hx
        obtain ⟨y0, y1, y2, y3, y4⟩ := f2 k y hy
        have HS := Lib.hid (fun he => rsame_any_step hx hy hall he)
        have HX := Lib.hid hx
        have HY := Lib.hid hy
        clear f1 f2 hall hx hy
        cases hE : eqT x y with
        | true =>
          have HN := Lib.hid (HS.out hE)
          clear HS
          simp only [eqT] at hE
          go_wp2_with fail
          go_quiet (fail)
          go_wp2
          go_roundw
          case rel => exact ⟨k + 1, _, by go_num, by omega, HN.out, rfl⟩
          case measure => simp [intOf]; omega
        | false =>
          have HN := Lib.hid (show ¬ xs = ys from fun e => by
            have hy' := HY.out
            rw [← e, HX.out] at hy'
            injection hy' with hy'
            subst hy'
            rw [eqT_iff.2 rfl] at hE
            cases hE)
          simp only [eqT] at hE
          go_wp2_with fail
          go_quiet (fail)
          go_wp2
          go_ret
          exact ⟨retB (decide_eq_false HN.out).symm, q + nq, by simp [World.drewN, Nat.add_assoc]⟩
      · have hE : xs = ys := List.ext_getElem? fun j => by
          by_cases hj : j < k
          · exact hall j hj
          · rw [List.getElem?_eq_none (by omega), List.getElem?_eq_none (by have := HL.out; omega)]
        have HE := Lib.hid hE
        clear hE
        go_wp2_with fail
        go_ret
        exact ⟨retB (decide_eq_true HE.out).symm, q, rfl⟩
  · have e1 : (((xs.length : Int)) != (ys.length : Int)) = true := by simp; omega
    have hne : ¬ xs = ys := fun h => hlen (by rw [h])
    go_enter Try.func15, Try.ntmps15
    go_wp2_with fail
    go_ret
    exact ⟨retB (decide_eq_false hne).symm, 0, rfl⟩

theorem rpids_any_step {xs ys : List Pd} {i : Nat} {x y : Pd} (hx : xs[i]? = some x) (hy : ys[i]? = some y) (h : ∀ j, j < i → xs[j]? = ys[j]?) (he : eqP x y = true) : ∀ j, j < i + 1 → xs[j]? = ys[j]? := fun j hj => by
  by_cases e : j = i
  · subst e
    rw [hx, hy, eqP_iff.1 he]
  · exact h j (by omega)
set_option maxHeartbeats 1000000 in
theorem rpids_any (A B : Option Addr) (xs ys : List Pd) (ca cb : Nat) (w : World) (ha : RdS KP w A xs) (hb : RdS KP w B ys) (h1 : xs.length ≤ 17592186044416) (h2 : ys.length ≤ 17592186044416) :
    Calls Try.prog 22 #[.slice A xs.length ca, .slice B ys.length cb] w fun e w' => e = .returned (.bool (decide (xs = ys))) ∧ ∃ k, w' = w.drewN k := by
  by_cases hlen : xs.length = ys.length
  · have e1 : (((xs.length : Int)) != (ys.length : Int)) = false := by simp; omega
    have HA := Lib.hid ha
    have HB := Lib.hid hb
    have HL := Lib.hid hlen
    clear ha hb hlen
    go_enter Try.func22, Try.ntmps22
    go_wp2_with fail
    go_loopw [5] (fun v wr => ∃ k q : Nat, v = .int .i64 k ∧ k ≤ xs.length ∧ (∀ j, j < k → xs[j]? = ys[j]?) ∧ wr = w.drewN q) (fun v _ => xs.length - (intOf v).toNat)
    case atStart => exact ⟨0, 0, rfl, Nat.zero_le _, fun j hj => absurd hj (Nat.not_lt_zero j), rfl⟩
    case round =>
      obtain ⟨k, q, rfl, hk, hall, rfl⟩ := hrel
      by_cases hlt : k < xs.length
      · have hk2 : k < ys.length := by rw [← HL.out]; exact hlt
        obtain ⟨b1, o1, rfl, -, f1⟩ := RdP.at2 HA.out (by omega)
        obtain ⟨b2, o2, rfl, -, f2⟩ := RdP.at2 HB.out (by omega)
        obtain ⟨x, hx⟩ := some_at hlt
        obtain ⟨y, hy⟩ := some_at hk2
        obtain ⟨x0, x1⟩ := f1 k x hx
        obtain ⟨y0, y1⟩ := f2 k y hy
        have HS := Lib.hid (fun he => rpids_any_step hx hy hall he)
        have HX := Lib.hid hx
        have HY := Lib.hid hy
        clear f1 f2 hall hx hy
        cases hE : eqP x y with
        | true =>
          have HN := Lib.hid (HS.out hE)
          clear HS
          simp only [eqP] at hE
          go_wp2_with fail
          go_quiet (fail)
          go_wp2
          go_roundw
          case rel => exact ⟨k + 1, _, by go_num, by omega, HN.out, rfl⟩
          case measure => simp [intOf]; omega
        | false =>
          have HN := Lib.hid (show ¬ xs = ys from fun e => by
            have hy' := HY.out
            rw [← e, HX.out] at hy'
            injection hy' with hy'
            subst hy'
            rw [eqP_iff.2 rfl] at hE
            cases hE)
          simp only [eqP] at hE
          go_wp2_with fail
          go_quiet (fail)
          go_wp2
          go_ret
          exact ⟨retB (decide_eq_false HN.out).symm, q + nq, by simp [World.drewN, Nat.add_assoc]⟩
      · have hE : xs = ys := List.ext_getElem? fun j => by
          by_cases hj : j < k
          · exact hall j hj
          · rw [List.getElem?_eq_none (by omega), List.getElem?_eq_none (by have := HL.out; omega)]
        have HE := Lib.hid hE
        clear hE
        go_wp2_with fail
        go_ret
        exact ⟨retB (decide_eq_true HE.out).symm, q, rfl⟩
  · have e1 : (((xs.length : Int)) != (ys.length : Int)) = true := by simp; omega
    have hne : ¬ xs = ys := fun h => hlen (by rw [h])
    go_enter Try.func22, Try.ntmps22
    go_wp2_with fail
    go_ret
    exact ⟨retB (decide_eq_false hne).symm, 0, rfl⟩
end Go.Proofs.Ytkodblhompphjaa

namespace Go.Proofs.Ytkodblhompphjaa
open Go.RowKit

abbrev zT : Te := ⟨0, ⟨0, 0⟩, ⟨0, 0⟩⟩
def findT (l : List Te) (ref : Int) : Option Te := if 0 < ref then l.find? (fun x => x.r == ref) else none
def findV (o : Option Te) : Value := match o with | some x => .tuple #[.agg x.cs, .bool true] | none => .tuple #[.agg zT.cs, .bool false]
theorem findT_hit {l : List Te} {ref : Int} {i : Nat} {x : Te} (h0 : 0 < ref) (hx : l[i]? = some x) (he : x.r = ref) (h : ∀ j z, j < i → l[j]? = some z → z.r ≠ ref) : findT l ref = some x := by
  unfold findT
  rw [if_pos h0, List.find?_eq_some_iff_append]
  refine ⟨by simpa using he, l.take i, l.drop (i + 1), ?_, fun z hz => ?_⟩
  · have := List.take_append_drop i l
    rw [List.drop_eq_getElem_cons (List.getElem?_eq_some_iff.1 hx).1, (List.getElem?_eq_some_iff.1 hx).2] at this
    exact this.symm
  · obtain ⟨j, hj⟩ := List.mem_iff_getElem?.1 hz
    rw [List.getElem?_take] at hj
    split at hj
    · rename_i hlt
      simpa using h j z hlt hj
    · cases hj
theorem findT_none {l : List Te} {ref : Int} (h : 0 < ref → ∀ (j : Nat) z, l[j]? = some z → z.r ≠ ref) : findT l ref = none := by
  unfold findT
  split
  · rename_i h0
    rw [List.find?_eq_none]
    intro z hz
    obtain ⟨j, hj⟩ := List.mem_iff_getElem?.1 hz
    simpa using h h0 j z hj
  · rfl
set_option maxHeartbeats 2000000 in
theorem rfind_any (f : Bool) (A : Option Addr) (xs : List Te) (cap : Nat) (ref : Int) (w : World) (h : RdS KT w A xs) (hl : xs.length ≤ 17592186044416) :
    Calls Try.prog 56 #[.agg (tiC f (.slice A xs.length cap)), .int .i64 ref] w fun e w' => e = .returned (findV (findT xs ref)) ∧ Only [] w w' := by
  have H := Lib.hid h
  have BT := Lib.hid ((Bk.made w 27 (tiC f (.slice A xs.length cap))).alloc (.cells zT.cs 45))
  have BR := Lib.hid (Bk.newAt (w := w.alloc (.cells (tiC f (.slice A xs.length cap)) 27)) (t := 45) (cs := zT.cs) (b := w.heap.size + 1) (by simp))
  have O := Lib.hid (((Only.refl [] w).alloc (.cells (tiC f (.slice A xs.length cap)) 27)).alloc (.cells zT.cs 45))
  clear h
  go_enter Try.func56, Try.ntmps56
  go_wp2_with fail
  go_loopw [6] (fun iv wr => ∃ i : Nat, iv = .int .i64 i ∧ (0 < ref → ∀ j z, j < i → xs[j]? = some z → z.r ≠ ref) ∧ i ≤ xs.length ∧ Bk wr w.heap.size 27 (tiC f (.slice A xs.length cap)) ∧ Bk wr (w.heap.size + 1) 45 zT.cs ∧ Only [] w wr) (fun iv _ => xs.length - (intOf iv).toNat)
  case atStart => exact ⟨0, rfl, fun _ j _ hj => absurd hj (by omega), Nat.zero_le _, BT.out, BR.out, O.out⟩
  case round =>
    clear BT BR O
    obtain ⟨i, rfl, hall, hi, bt, br, o⟩ := hrel
    have c1 := bt.cell0 (i := 1) rfl
    obtain ⟨z0, z1, z2, z3, z4⟩ := Bk.tie (x := zT) br
    have zf := br.free
    have BT := Lib.hid bt
    have BR := Lib.hid br
    have O := Lib.hid o
    have L : w.heap.size ≤ w.heap.size + 1 := by omega
    clear bt br o
    by_cases hlt : i < xs.length
    · obtain ⟨bl, off, rfl, hb, hc⟩ := RdT.at5 (H.out.only O.out (by simp)) (by omega)
      obtain ⟨x, hx⟩ := some_at hlt
      obtain ⟨x0, x1, x2, x3, x4⟩ := hc i x hx
      by_cases h0 : 0 < ref
      · by_cases hr : x.r = ref
        · have hf := findT_hit h0 hx hr (hall h0)
          have HF := Lib.hid hf
          have t : (x.r == ref) = true := by simpa using hr
          clear hc hx hall hf hr
          go_wp2_with fail
          refine bodyPost_ret (v := .tuple #[.agg x.cs, .bool true]) (by simp [results, Try.results56, go_sem, z0, z1, z2, z3, z4]) rfl ⟨by rw [HF.out]; rfl, ((((O.out.set (.inr L) _).set (.inr L) _).set (.inr L) _).set (.inr L) _).set (.inr L) _⟩
        · have HN := Lib.hid (show 0 < ref → ∀ j z, j < i + 1 → xs[j]? = some z → z.r ≠ ref from fun h0 j z hj hz => by
            by_cases e : j = i
            · subst e
              rw [hx] at hz
              injection hz with hz
              rw [← hz]
              exact hr
            · exact hall h0 j z (by omega) hz)
          have t : (x.r == ref) = false := by simpa using hr
          clear hc hx hall hr
          go_wp2_with fail
          go_roundw
          case rel => exact ⟨i + 1, by go_num, HN.out, by omega, BT.out, BR.out, O.out⟩
          case measure => simp [intOf]; omega
      · have d : decide (0 < ref) = false := decide_eq_false h0
        clear hc hx hall
        go_wp2_with fail
        go_roundw
        case rel => exact ⟨i + 1, by go_num, fun h => absurd h h0, by omega, BT.out, BR.out, O.out⟩
        case measure => simp [intOf]; omega
    · have HF := Lib.hid (findT_none (l := xs) (ref := ref) (fun h0 j z hj => hall h0 j z (by have := (List.getElem?_eq_some_iff.1 hj).1; omega) hj))
      clear hall
      go_wp2_with fail
      refine bodyPost_ret (v := .tuple #[.agg zT.cs, .bool false]) (by simp [results, Try.results56, go_sem, z0, z1, z2, z3, z4]) rfl ⟨by rw [HF.out]; rfl, ((((O.out.set (.inr L) _).set (.inr L) _).set (.inr L) _).set (.inr L) _).set (.inr L) _⟩
end Go.Proofs.Ytkodblhompphjaa

namespace Go.Proofs.Ytkodblhompphjaa
open Go.RowKit

def l1T (l : List Te) (p : Pd) : List Pd := l.flatMap fun x => if (x.r == 0 && eqP x.b p) = true then [x.a] else []
theorem l1T_take {l : List Te} {i : Nat} {x : Te} {p : Pd} (h : l[i]? = some x) : l1T (l.take (i + 1)) p = l1T (l.take i) p ++ if (x.r == 0 && eqP x.b p) = true then [x.a] else [] := by
  unfold l1T
  rw [List.take_add_one, h, List.flatMap_append]
  simp
theorem l1T_len (l : List Te) (p : Pd) : (l1T l p).length ≤ l.length := by
  unfold l1T
  induction l with
  | nil => simp
  | cons x r ih =>
    rw [List.flatMap_cons, List.length_append, List.length_cons]
    split
    · simp only [List.length_singleton]; omega
    · simp only [List.length_nil]; omega
def l2T (l : List Te) (p : Pd) : List Pd := l.flatMap fun x => if (x.r == 0 && eqP x.a p) = true then [x.b] else []
theorem l2T_take {l : List Te} {i : Nat} {x : Te} {p : Pd} (h : l[i]? = some x) : l2T (l.take (i + 1)) p = l2T (l.take i) p ++ if (x.r == 0 && eqP x.a p) = true then [x.b] else [] := by
  unfold l2T
  rw [List.take_add_one, h, List.flatMap_append]
  simp
theorem l2T_len (l : List Te) (p : Pd) : (l2T l p).length ≤ l.length := by
  unfold l2T
  induction l with
  | nil => simp
  | cons x r ih =>
    rw [List.flatMap_cons, List.length_append, List.length_cons]
    split
    · simp only [List.length_singleton]; omega
    · simp only [List.length_nil]; omega
def linksT (l : List Te) (p : Pd) : List Pd := l1T l p ++ l2T l p
set_option maxHeartbeats 4000000 in
theorem rlinks_any (f : Bool) (A : Option Addr) (xs : List Te) (cap : Nat) (p : Pd) (w : World) (h : RdS KT w A xs) (hl : xs.length * 40 + 4096 ≤ 140737488355328) :
    Calls Try.prog 32 #[.agg (tiC f (.slice A xs.length cap)), .agg p.cs] w fun e w' => ∃ v, e = .returned v ∧ OwnS KP w' w.heap.size v (linksT xs p) ∧ Only [] w w' := by
  have H := Lib.hid h
  have BT := Lib.hid ((Bk.made w 27 (tiC f (.slice A xs.length cap))).alloc (.cells p.cs 32))
  have BP := Lib.hid (Bk.newAt (w := w.alloc (.cells (tiC f (.slice A xs.length cap)) 27)) (t := 32) (cs := p.cs) (b := w.heap.size + 1) (by simp))
  have O := Lib.hid (((Only.refl [] w).alloc (.cells (tiC f (.slice A xs.length cap)) 27)).alloc (.cells p.cs 32))
  have HS := Lib.hid (show w.heap.size + 2 ≤ ((w.alloc (.cells (tiC f (.slice A xs.length cap)) 27)).alloc (.cells p.cs 32)).heap.size by simp)
  clear h
  go_enter Try.func32, Try.ntmps32
  go_wp2_with fail
  go_loopw [5, 6] (fun ov iv wr => ∃ i : Nat, iv = .int .i64 i ∧ i ≤ xs.length ∧ OwnS KP wr (w.heap.size + 2) ov (l1T (xs.take i) p) ∧ Bk wr w.heap.size 27 (tiC f (.slice A xs.length cap)) ∧ Bk wr (w.heap.size + 1) 32 p.cs ∧ Only [] w wr ∧ w.heap.size + 2 ≤ wr.heap.size) (fun _ iv _ => xs.length - (intOf iv).toNat)
  case atStart => exact ⟨0, rfl, Nat.zero_le _, OwnS.nil _ _ _, BT.out, BP.out, O.out, HS.out⟩
  case round =>
    clear BT BP O HS
    obtain ⟨i, rfl, hi, hv, bt, bp, o, hs⟩ := hrel
    have c1 := bt.cell0 (i := 1) rfl
    obtain ⟨p0, p1⟩ := bp.pid
    have BT := Lib.hid bt
    have BP := Lib.hid bp
    have O := Lib.hid o
    have HS := Lib.hid hs
    have HV := Lib.hid hv
    clear bt bp o hs hv
    by_cases hlt : i < xs.length
    · obtain ⟨bl, off, rfl, hb, hc⟩ := RdT.at5 (H.out.only O.out (by simp)) (by omega)
      obtain ⟨x, hx⟩ := some_at hlt
      obtain ⟨x0, x1, x2, x3, x4⟩ := hc i x hx
      have ht := l1T_take (p := p) hx
      have hle := l1T_len (xs.take i) p
      have hl0 := l1T_len xs p
      rw [List.length_take] at hle
      clear hc hx
      by_cases hr : x.r = 0
      · have tr : (x.r == 0) = true := by simpa using hr
        cases hE : eqP x.b p with
        | true =>
          rw [if_pos (by rw [tr, hE]; rfl)] at ht
          simp only [eqP] at hE
          have HT := Lib.hid ht
          clear ht hr
          have LL : ((l1T (xs.take i) p).length + [x.a].length) * KP.by' ≤ 140737488355328 := by show ((l1T (xs.take i) p).length + 1) * 16 ≤ _; omega
          go_wp2_with fail
          go_quiet (fail)
          go_wp2_with (at_builtin; refine wpList_appS KP _ (by rfl) (.tmp 32) (.tmp 39) (by rfl) (by rfl) ((HV.out.drewN nq).alloc _) (some ⟨wr.heap.size, 0, none⟩) [x.a] 1 1 (by rfl) rfl (RdS.one (Bk.newAt (by simp)) rfl) (by have := HS.out; simp; omega) LL ?_; intro v' w1 hown hgrow hat; have G0 := Lib.hid (((HV.out.drewN nq).alloc _).keep hgrow ((BT.out.drewN nq).alloc _) (by omega)); have G1 := Lib.hid (((HV.out.drewN nq).alloc _).keep hgrow ((BP.out.drewN nq).alloc _) (by omega)); have G3 := Lib.hid (((HV.out.drewN nq).alloc _).goes hgrow ((O.out.drewN nq).alloc _) (by omega)); have G4 := Lib.hid (Nat.le_trans (show w.heap.size + 2 ≤ ((wr.drewN nq).alloc _).heap.size by have := HS.out; simp; omega) hgrow.size); have HO := Lib.hid hown; clear hgrow hown hat)
          go_roundw
          case rel => exact ⟨i + 1, by go_num, by omega, by rw [HT.out]; exact HO.out, G0.out, G1.out, G3.out, G4.out⟩
          case measure => simp [intOf]; omega
        | false =>
          rw [if_neg (by rw [tr, hE]; simp), List.append_nil] at ht
          simp only [eqP] at hE
          have HT := Lib.hid ht
          clear ht hr
          go_wp2_with fail
          go_quiet (fail)
          go_wp2
          go_roundw
          case rel => exact ⟨i + 1, by go_num, by omega, by rw [HT.out]; exact HV.out.drewN _, BT.out.drewN _, BP.out.drewN _, O.out.drewN _, HS.out⟩
          case measure => simp [intOf]; omega
      · have tr : (x.r == 0) = false := by simpa using hr
        rw [if_neg (by rw [tr]; simp), List.append_nil] at ht
        have HT := Lib.hid ht
        clear ht hr
        go_wp2_with fail
        go_quiet (fail)
        go_wp2
        go_roundw
        case rel => exact ⟨i + 1, by go_num, by omega, by rw [HT.out]; exact HV.out.drewN _, BT.out.drewN _, BP.out.drewN _, O.out.drewN _, HS.out⟩
        case measure => simp [intOf]; omega
    · have e : i = xs.length := by omega
      subst e
      rw [List.take_length] at HV
      go_wp2_with fail
      go_loopw [5, 7] (fun ov iv wr => ∃ i : Nat, iv = .int .i64 i ∧ i ≤ xs.length ∧ OwnS KP wr (w.heap.size + 2) ov (l1T xs p ++ l2T (xs.take i) p) ∧ Bk wr w.heap.size 27 (tiC f (.slice A xs.length cap)) ∧ Bk wr (w.heap.size + 1) 32 p.cs ∧ Only [] w wr ∧ w.heap.size + 2 ≤ wr.heap.size) (fun _ iv _ => xs.length - (intOf iv).toNat)
      case atStart => exact ⟨0, rfl, Nat.zero_le _, by show OwnS KP _ _ _ (l1T xs p ++ []); rw [List.append_nil]; exact HV.out, BT.out, BP.out, O.out, HS.out⟩
      case round =>
        clear BT BP O HS HV
        obtain ⟨i, rfl, hi, hv, bt, bp, o, hs⟩ := hrel
        have c1 := bt.cell0 (i := 1) rfl
        obtain ⟨p0, p1⟩ := bp.pid
        have BT := Lib.hid bt
        have BP := Lib.hid bp
        have O := Lib.hid o
        have HS := Lib.hid hs
        have HV := Lib.hid hv
        clear bt bp o hs hv
        by_cases hlt : i < xs.length
        · obtain ⟨bl, off, rfl, hb, hc⟩ := RdT.at5 (H.out.only O.out (by simp)) (by omega)
          obtain ⟨x, hx⟩ := some_at hlt
          obtain ⟨x0, x1, x2, x3, x4⟩ := hc i x hx
          have ht := l2T_take (p := p) hx
          have hle := l2T_len (xs.take i) p
          have hl0 := l1T_len xs p
          rw [List.length_take] at hle
          clear hc hx
          by_cases hr : x.r = 0
          · have tr : (x.r == 0) = true := by simpa using hr
            cases hE : eqP x.a p with
            | true =>
              rw [if_pos (by rw [tr, hE]; rfl)] at ht
              simp only [eqP] at hE
              have HT := Lib.hid ht
              clear ht hr
              have LL : ((l1T xs p ++ l2T (xs.take i) p).length + [x.b].length) * KP.by' ≤ 140737488355328 := by show ((l1T xs p ++ l2T (xs.take i) p).length + 1) * 16 ≤ _; rw [List.length_append]; omega
              go_wp2_with fail
              go_quiet (fail)
              go_wp2_with (at_builtin; refine wpList_appS KP _ (by rfl) (.tmp 65) (.tmp 72) (by rfl) (by rfl) ((HV.out.drewN nq).alloc _) (some ⟨wr.heap.size, 0, none⟩) [x.b] 1 1 (by rfl) rfl (RdS.one (Bk.newAt (by simp)) rfl) (by have := HS.out; simp; omega) LL ?_; intro v' w1 hown hgrow hat; have G0 := Lib.hid (((HV.out.drewN nq).alloc _).keep hgrow ((BT.out.drewN nq).alloc _) (by omega)); have G1 := Lib.hid (((HV.out.drewN nq).alloc _).keep hgrow ((BP.out.drewN nq).alloc _) (by omega)); have G3 := Lib.hid (((HV.out.drewN nq).alloc _).goes hgrow ((O.out.drewN nq).alloc _) (by omega)); have G4 := Lib.hid (Nat.le_trans (show w.heap.size + 2 ≤ ((wr.drewN nq).alloc _).heap.size by have := HS.out; simp; omega) hgrow.size); have HO := Lib.hid hown; clear hgrow hown hat)
              go_roundw
              case rel => exact ⟨i + 1, by go_num, by omega, by rw [HT.out, ← List.append_assoc]; exact HO.out, G0.out, G1.out, G3.out, G4.out⟩
              case measure => simp [intOf]; omega
            | false =>
              rw [if_neg (by rw [tr, hE]; simp), List.append_nil] at ht
              simp only [eqP] at hE
              have HT := Lib.hid ht
              clear ht hr
              go_wp2_with fail
              go_quiet (fail)
              go_wp2
              go_roundw
              case rel => exact ⟨i + 1, by go_num, by omega, by rw [HT.out]; exact HV.out.drewN _, BT.out.drewN _, BP.out.drewN _, O.out.drewN _, HS.out⟩
              case measure => simp [intOf]; omega
          · have tr : (x.r == 0) = false := by simpa using hr
            rw [if_neg (by rw [tr]; simp), List.append_nil] at ht
            have HT := Lib.hid ht
            clear ht hr
            go_wp2_with fail
            go_quiet (fail)
            go_wp2
            go_roundw
            case rel => exact ⟨i + 1, by go_num, by omega, by rw [HT.out]; exact HV.out.drewN _, BT.out.drewN _, BP.out.drewN _, O.out.drewN _, HS.out⟩
            case measure => simp [intOf]; omega
        · have e : i = xs.length := by omega
          subst e
          rw [List.take_length] at HV
          go_wp2_with fail
          go_ret
          exact ⟨_, rfl, HV.out.low (by omega), O.out⟩
end Go.Proofs.Ytkodblhompphjaa

namespace Go.Proofs.Ytkodblhompphjaa
open Go.RowKit

def waT (l : List Te) (p : Pd) : List Te := l.flatMap fun x => if (decide (0 < x.r) && eqP x.b p) = true then [x] else []
theorem waT_take {l : List Te} {i : Nat} {x : Te} {p : Pd} (h : l[i]? = some x) : waT (l.take (i + 1)) p = waT (l.take i) p ++ if (decide (0 < x.r) && eqP x.b p) = true then [x] else [] := by
  unfold waT
  rw [List.take_add_one, h, List.flatMap_append]
  simp
theorem waT_len (l : List Te) (p : Pd) : (waT l p).length ≤ l.length := by
  unfold waT
  induction l with
  | nil => simp
  | cons x r ih =>
    rw [List.flatMap_cons, List.length_append, List.length_cons]
    split
    · simp only [List.length_singleton]; omega
    · simp only [List.length_nil]; omega
set_option maxHeartbeats 4000000 in
theorem rwatch_any (f : Bool) (A : Option Addr) (xs : List Te) (cap : Nat) (p : Pd) (w : World) (h : RdS KT w A xs) (hl : xs.length * 40 + 4096 ≤ 140737488355328) :
    Calls Try.prog 33 #[.agg (tiC f (.slice A xs.length cap)), .agg p.cs] w fun e w' => ∃ v, e = .returned v ∧ OwnS KT w' w.heap.size v (waT xs p) ∧ Only [] w w' := by
  have H := Lib.hid h
  have BT := Lib.hid ((Bk.made w 27 (tiC f (.slice A xs.length cap))).alloc (.cells p.cs 32))
  have BP := Lib.hid (Bk.newAt (w := w.alloc (.cells (tiC f (.slice A xs.length cap)) 27)) (t := 32) (cs := p.cs) (b := w.heap.size + 1) (by simp))
  have O := Lib.hid (((Only.refl [] w).alloc (.cells (tiC f (.slice A xs.length cap)) 27)).alloc (.cells p.cs 32))
  have HS := Lib.hid (show w.heap.size + 2 ≤ ((w.alloc (.cells (tiC f (.slice A xs.length cap)) 27)).alloc (.cells p.cs 32)).heap.size by simp)
  clear h
  go_enter Try.func33, Try.ntmps33
  go_wp2_with fail
  go_loopw [5, 6] (fun ov iv wr => ∃ i : Nat, iv = .int .i64 i ∧ i ≤ xs.length ∧ OwnS KT wr (w.heap.size + 2) ov (waT (xs.take i) p) ∧ Bk wr w.heap.size 27 (tiC f (.slice A xs.length cap)) ∧ Bk wr (w.heap.size + 1) 32 p.cs ∧ Only [] w wr ∧ w.heap.size + 2 ≤ wr.heap.size) (fun _ iv _ => xs.length - (intOf iv).toNat)
  case atStart => exact ⟨0, rfl, Nat.zero_le _, OwnS.nil _ _ _, BT.out, BP.out, O.out, HS.out⟩
  case round =>
    clear BT BP O HS
    obtain ⟨i, rfl, hi, hv, bt, bp, o, hs⟩ := hrel
    have c1 := bt.cell0 (i := 1) rfl
    obtain ⟨p0, p1⟩ := bp.pid
    have BT := Lib.hid bt
    have BP := Lib.hid bp
    have O := Lib.hid o
    have HS := Lib.hid hs
    have HV := Lib.hid hv
    clear bt bp o hs hv
    by_cases hlt : i < xs.length
    · obtain ⟨bl, off, rfl, hb, hc⟩ := RdT.at5 (H.out.only O.out (by simp)) (by omega)
      obtain ⟨x, hx⟩ := some_at hlt
      obtain ⟨x0, x1, x2, x3, x4⟩ := hc i x hx
      have ht := waT_take (p := p) hx
      have hle := waT_len (xs.take i) p
      have hl0 := waT_len xs p
      rw [List.length_take] at hle
      clear hc hx
      by_cases hr : 0 < x.r
      · have tr : decide (0 < x.r) = true := decide_eq_true hr
        cases hE : eqP x.b p with
        | true =>
          rw [if_pos (by rw [tr, hE]; rfl)] at ht
          simp only [eqP] at hE
          have HT := Lib.hid ht
          clear ht hr
          have LL : ((waT (xs.take i) p).length + [x].length) * KT.by' ≤ 140737488355328 := by show ((waT (xs.take i) p).length + 1) * 40 ≤ _; omega
          go_wp2_with fail
          go_quiet (fail)
          go_wp2_with (at_builtin; refine wpList_appS KT _ (by rfl) (.tmp 31) (.tmp 37) (by rfl) (by rfl) ((HV.out.drewN nq).alloc _) (some ⟨wr.heap.size, 0, none⟩) [x] 1 1 (by rfl) rfl (RdS.one (Bk.newAt (by simp)) rfl) (by have := HS.out; simp; omega) LL ?_; intro v' w1 hown hgrow hat; have G0 := Lib.hid (((HV.out.drewN nq).alloc _).keep hgrow ((BT.out.drewN nq).alloc _) (by omega)); have G1 := Lib.hid (((HV.out.drewN nq).alloc _).keep hgrow ((BP.out.drewN nq).alloc _) (by omega)); have G3 := Lib.hid (((HV.out.drewN nq).alloc _).goes hgrow ((O.out.drewN nq).alloc _) (by omega)); have G4 := Lib.hid (Nat.le_trans (show w.heap.size + 2 ≤ ((wr.drewN nq).alloc _).heap.size by have := HS.out; simp; omega) hgrow.size); have HO := Lib.hid hown; clear hgrow hown hat)
          go_roundw
          case rel => exact ⟨i + 1, by go_num, by omega, by rw [HT.out]; exact HO.out, G0.out, G1.out, G3.out, G4.out⟩
          case measure => simp [intOf]; omega
        | false =>
          rw [if_neg (by rw [tr, hE]; simp), List.append_nil] at ht
          simp only [eqP] at hE
          have HT := Lib.hid ht
          clear ht hr
          go_wp2_with fail
          go_quiet (fail)
          go_wp2
          go_roundw
          case rel => exact ⟨i + 1, by go_num, by omega, by rw [HT.out]; exact HV.out.drewN _, BT.out.drewN _, BP.out.drewN _, O.out.drewN _, HS.out⟩
          case measure => simp [intOf]; omega
      · have tr : decide (0 < x.r) = false := decide_eq_false hr
        rw [if_neg (by rw [tr]; simp), List.append_nil] at ht
        have HT := Lib.hid ht
        clear ht
        go_wp2_with fail
        go_quiet (fail)
        go_wp2
        go_roundw
        case rel => exact ⟨i + 1, by go_num, by omega, by rw [HT.out]; exact HV.out.drewN _, BT.out.drewN _, BP.out.drewN _, O.out.drewN _, HS.out⟩
        case measure => simp [intOf]; omega
    · have e : i = xs.length := by omega
      subst e
      rw [List.take_length] at HV
      go_wp2_with fail
      go_ret
      exact ⟨_, rfl, HV.out.low (by omega), O.out⟩
end Go.Proofs.Ytkodblhompphjaa
