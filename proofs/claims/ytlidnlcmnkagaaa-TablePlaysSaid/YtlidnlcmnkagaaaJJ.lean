/- The document's table: copied, Is. -/
import Derived.Test.YtlidnlcmnkagaaaJI
namespace Go.Proofs.Ytlidnlcmnkagaaa
open Go.RowKit
set_option maxRecDepth 20000

theorem OwnS.setOther {α : Type} {K : Sk α} {w : World} {base : Nat} {v : Value} {xs : List α} (h : OwnS K w base v xs) {g : Nat} {t : TypeId} {cs : Array Value} (k : Bk w g t cs) (hne : K.e ≠ t) (i : Nat) (u : Value) : OwnS K (w.setCell ⟨g, i, none⟩ u) base v xs :=
  h.only ((Only.refl [g] w).set (.inl (by simp)) u) (fun g' e hm => by
    have : g' = g := by simpa using hm
    subst this
    exact h.apartB k hne (by simp [e]))
theorem OwnS.onlyB {α : Type} {K : Sk α} {w w' : World} {base : Nat} {v : Value} {xs : List α} (h : OwnS K w base v xs) {g : Nat} {t : TypeId} {cs : Array Value} (k : Bk w g t cs) (hne : K.e ≠ t) (o : Only [g] w w') : OwnS K w' base v xs :=
  h.only o (fun g' e hm => by
    have : g' = g := by simpa using hm
    subst this
    exact h.apartB k hne (by simp [e]))
theorem only4 (w : World) (g : Nat) (a b c d : Value) : Only [g] w ((((w.setCell ⟨g, 0, none⟩ a).setCell ⟨g, 1, none⟩ b).setCell ⟨g, 2, none⟩ c).setCell ⟨g, 3, none⟩ d) :=
  ((((Only.refl [g] w).set (.inl (by simp)) a).set (.inl (by simp)) b).set (.inl (by simp)) c).set (.inl (by simp)) d
theorem ki3 : KI.e ≠ 30 := by decide +kernel
theorem kb3 : KB.e ≠ 30 := by decide +kernel
theorem ks3 : KS.e ≠ 30 := by decide +kernel
def CopE (w : World) (n : Int) (l1 : List Int) (l2 : List Bool) (l3 : List ByteArray) (e : Ending) (w' : World) : Prop :=
  ∃ u1 u2 u3, e = .returned (.agg (rtC n u1 u2 u3)) ∧ (OwnS KI w' w.heap.size u1 l1 ∧ OwnS KB w' w.heap.size u2 l2 ∧ OwnS KS w' w.heap.size u3 l3) ∧ Only [] w w'
set_option maxHeartbeats 8000000 in
theorem rcopied_any {w : World} {v1 v2 v3 : Value} {l1 : List Int} {l2 : List Bool} {l3 : List ByteArray} (n : Int) (h1 : OwnS KI w 0 v1 l1) (h2 : OwnS KB w 0 v2 l2) (h3 : OwnS KS w 0 v3 l3) (b1 : l1.length ≤ 256) (b2 : l2.length ≤ 256) (b3 : l3.length ≤ 256) :
    Calls Try.prog 39 #[.agg (rtC n v1 v2 v3)] w (CopE w n l1 l2 l3) := by
  obtain ⟨A1, c1, rfl, -, -, r1, -⟩ := h1.form
  obtain ⟨A2, c2, rfl, -, -, r2, -⟩ := h2.form
  obtain ⟨A3, c3, rfl, -, -, r3, -⟩ := h3.form
  have R1 := Lib.hid r1
  have R2 := Lib.hid r2
  have R3 := Lib.hid r3
  have LI : (([] : List Int).length + l1.length) * KI.by' ≤ 140737488355328 := by show (0 + l1.length) * 8 ≤ _; omega
  have LB : (([] : List Bool).length + l2.length) * KB.by' ≤ 140737488355328 := by show (0 + l2.length) * 1 ≤ _; omega
  have LS : (([] : List ByteArray).length + l3.length) * KS.by' ≤ 140737488355328 := by show (0 + l3.length) * 16 ≤ _; omega
  clear h1 h2 h3 r1 r2 r3
  go_enter Try.func39, Try.ntmps39
  have BX := Lib.hid (((Bk.made w 30 (rtC n (.slice A1 l1.length c1) (.slice A2 l2.length c2) (.slice A3 l3.length c3))).alloc (.cells rt0 30)).alloc (.cells (rtC n (.slice none 0 0) (.slice none 0 0) (.slice none 0 0)) 30))
  have BR := Lib.hid ((Bk.newAt (w := w.alloc (.cells (rtC n (.slice A1 l1.length c1) (.slice A2 l2.length c2) (.slice A3 l3.length c3)) 30)) (t := 30) (cs := rt0) (b := w.heap.size + 1) (by simp)).alloc (.cells (rtC n (.slice none 0 0) (.slice none 0 0) (.slice none 0 0)) 30))
  have BO := Lib.hid (Bk.newAt (w := (w.alloc (.cells (rtC n (.slice A1 l1.length c1) (.slice A2 l2.length c2) (.slice A3 l3.length c3)) 30)).alloc (.cells rt0 30)) (t := 30) (cs := rtC n (.slice none 0 0) (.slice none 0 0) (.slice none 0 0)) (b := w.heap.size + 1 + 1) (by simp))
  have O3 := Lib.hid ((((Only.refl [] w).alloc (.cells (rtC n (.slice A1 l1.length c1) (.slice A2 l2.length c2) (.slice A3 l3.length c3)) 30)).alloc (.cells rt0 30)).alloc (.cells (rtC n (.slice none 0 0) (.slice none 0 0) (.slice none 0 0)) 30))
  have L2 : w.heap.size ≤ w.heap.size + 1 + 1 := by omega
  go_wp2_with (first
    | (at_builtin; refine wpList_appS KI _ (by rfl) (.tmp 8) (.tmp 10) (by rfl) (base := w.heap.size) (v := .slice none 0 0) (xs := []) (by rfl) (OwnS.nil _ _ _) A1 l1 l1.length c1 (by rfl) rfl (R1.out.only0 O3.out) O3.out.size LI ?_; intro u1 w4 hown hgrow hat; rw [List.nil_append] at hown; obtain ⟨D1, e1, rfl, -, -, -, -⟩ := hown.form; have o4 : Only [] _ w4 := Only.of_grown hgrow; have T4 := BO.out.only o4 (by simp); have c40 := T4.cell0 (i := 1) rfl; have c4f := T4.free; have O5 := Lib.hid ((O3.out.trans o4 (by simp)).set (p := ⟨w.heap.size + 1 + 1, 1, none⟩) (.inr L2) (.slice D1 l1.length e1)); have T5 := Lib.hid (T4.set 1 (.slice D1 l1.length e1)); have X5 := Lib.hid ((BX.out.only o4 (by simp)).away (p := ⟨w.heap.size + 1 + 1, 1, none⟩) (by show w.heap.size ≠ w.heap.size + 1 + 1; omega) (.slice D1 l1.length e1)); have Y5 := Lib.hid ((BR.out.only o4 (by simp)).away (p := ⟨w.heap.size + 1 + 1, 1, none⟩) (by show w.heap.size + 1 ≠ w.heap.size + 1 + 1; omega) (.slice D1 l1.length e1)); have U5 := Lib.hid (hown.setOther T4 ki3 1 (.slice D1 l1.length e1)); have d52 := T5.out.cell0 (i := 2) (v := .slice none 0 0) rfl; have x52 := X5.out.cell0 (i := 2) (v := .slice A2 l2.length c2) rfl; clear hown hgrow hat o4 T4)
    | (at_builtin; refine wpList_appS KB _ (by rfl) (.tmp 14) (.tmp 16) (by rfl) (base := w.heap.size) (v := .slice none 0 0) (xs := []) (by rfl) (OwnS.nil _ _ _) A2 l2 l2.length c2 (by rfl) rfl (R2.out.only0 O5.out) O5.out.size LB ?_; intro u2 w6 hown hgrow hat; rw [List.nil_append] at hown; obtain ⟨D2, e2, rfl, -, -, -, -⟩ := hown.form; have o6 : Only [] _ w6 := Only.of_grown hgrow; have T6 := T5.out.only o6 (by simp); have c60 := T6.cell0 (i := 2) (v := .slice none 0 0) rfl; have c6f := T6.free; have O7 := Lib.hid ((O5.out.trans o6 (by simp)).set (p := ⟨w.heap.size + 1 + 1, 2, none⟩) (.inr L2) (.slice D2 l2.length e2)); have T7 := Lib.hid (T6.set 2 (.slice D2 l2.length e2)); have X7 := Lib.hid ((X5.out.only o6 (by simp)).away (p := ⟨w.heap.size + 1 + 1, 2, none⟩) (by show w.heap.size ≠ w.heap.size + 1 + 1; omega) (.slice D2 l2.length e2)); have Y7 := Lib.hid ((Y5.out.only o6 (by simp)).away (p := ⟨w.heap.size + 1 + 1, 2, none⟩) (by show w.heap.size + 1 ≠ w.heap.size + 1 + 1; omega) (.slice D2 l2.length e2)); have U7 := Lib.hid ((U5.out.only o6 (by simp)).setOther T6 ki3 2 (.slice D2 l2.length e2)); have V7 := Lib.hid (hown.setOther T6 kb3 2 (.slice D2 l2.length e2)); have d73 := T7.out.cell0 (i := 3) (v := .slice none 0 0) rfl; have x73 := X7.out.cell0 (i := 3) (v := .slice A3 l3.length c3) rfl; clear hown hgrow hat o6 T6)
    | (at_builtin; refine wpList_appS KS _ (by rfl) (.tmp 20) (.tmp 22) (by rfl) (base := w.heap.size) (v := .slice none 0 0) (xs := []) (by rfl) (OwnS.nil _ _ _) A3 l3 l3.length c3 (by rfl) rfl (R3.out.only0 O7.out) O7.out.size LS ?_; intro u3 w8 hown hgrow hat; rw [List.nil_append] at hown; obtain ⟨D3, e3, rfl, -, -, -, -⟩ := hown.form; have o8 : Only [] _ w8 := Only.of_grown hgrow; have T8 := T7.out.only o8 (by simp); have c80 := T8.cell0 (i := 3) (v := .slice none 0 0) rfl; have c8f := T8.free; have O9 := Lib.hid ((O7.out.trans o8 (by simp)).set (p := ⟨w.heap.size + 1 + 1, 3, none⟩) (.inr L2) (.slice D3 l3.length e3)); have T9 := Lib.hid (T8.set 3 (.slice D3 l3.length e3)); have Y9 := Lib.hid ((Y7.out.only o8 (by simp)).away (p := ⟨w.heap.size + 1 + 1, 3, none⟩) (by show w.heap.size + 1 ≠ w.heap.size + 1 + 1; omega) (.slice D3 l3.length e3)); have U9 := Lib.hid ((U7.out.only o8 (by simp)).setOther T8 ki3 3 (.slice D3 l3.length e3)); have V9 := Lib.hid ((V7.out.only o8 (by simp)).setOther T8 kb3 3 (.slice D3 l3.length e3)); have Z9 := Lib.hid (hown.setOther T8 ks3 3 (.slice D3 l3.length e3)); have t0 := T9.out.cell0 (i := 0) (v := .int .i64 n) rfl; have t1 := T9.out.cell0 (i := 1) (v := .slice D1 l1.length e1) rfl; have t2 := T9.out.cell0 (i := 2) (v := .slice D2 l2.length e2) rfl; have t3 := T9.out.cell0 (i := 3) (v := .slice D3 l3.length e3) rfl; have y0 := Y9.out.cell0 (i := 0) (v := .int .i64 0) rfl; have y1 := Y9.out.cell0 (i := 1) (v := .slice none 0 0) rfl; have y2 := Y9.out.cell0 (i := 2) (v := .slice none 0 0) rfl; have y3 := Y9.out.cell0 (i := 3) (v := .slice none 0 0) rfl; have yf := Y9.out.free; clear hown hgrow hat o8 T8)
    | fail)
  have L1 : w.heap.size ≤ w.heap.size + 1 := by omega
  refine bodyPost_ret (v := .agg (rtC n (.slice D1 l1.length e1) (.slice D2 l2.length e2) (.slice D3 l3.length e3))) (by simp [results, Try.results39, go_sem, y0, y1, y2, y3]) rfl ?_
  have o10 := only4 (w8.setCell ⟨w.heap.size + 1 + 1, 3, none⟩ (.slice D3 l3.length e3)) (w.heap.size + 1) (.int .i64 n) (.slice D1 l1.length e1) (.slice D2 l2.length e2) (.slice D3 l3.length e3)
  exact ⟨_, _, _, rfl, ⟨U9.out.onlyB Y9.out ki3 o10, V9.out.onlyB Y9.out kb3 o10, Z9.out.onlyB Y9.out ks3 o10⟩, O9.out.trans o10 (by simp)⟩

/-! ### Is -/
theorem had_at {T : List Pl} {k : Nat} {x : Pl} (h : T[k]? = some x) : (hads T)[k]? = some x.had := by simp [h]
theorem al_at {T : List Pl} {k : Nat} {x : Pl} (h : T[k]? = some x) : (als T)[k]? = some x.al := by simp [h]
theorem nm_at {T : List Pl} {k : Nat} {x : Pl} (h : T[k]? = some x) : (nms T)[k]? = some x.nm := by simp [h]
theorem OwnS.some_ {α : Type} {K : Sk α} {w : World} {base : Nat} {v : Value} {xs : List α} (h : OwnS K w base v xs) (h0 : 0 < xs.length) : ∃ g cap, v = .slice (some ⟨g, 0, none⟩) xs.length cap := by
  obtain ⟨A, c, e, -, -, hr, ha⟩ := h.form
  obtain ⟨bl, off, e2, -, -⟩ := hr.form h0
  obtain ⟨-, -, e3, -⟩ := ha bl off e2
  subst e2 e3
  exact ⟨bl, c, e⟩
theorem RT.forms {w : World} {v1 v2 v3 : Value} {T : List Pl} (r : RT w v1 v2 v3 T) (h0 : 0 < T.length) : ∃ g1 c1 g2 c2 g3 c3, v1 = .slice (some ⟨g1, 0, none⟩) T.length c1 ∧ v2 = .slice (some ⟨g2, 0, none⟩) T.length c2 ∧ v3 = .slice (some ⟨g3, 0, none⟩) T.length c3 := by
  obtain ⟨g1, c1, e1⟩ := r.h.some_ (by simpa using h0)
  obtain ⟨g2, c2, e2⟩ := r.a.some_ (by simpa using h0)
  obtain ⟨g3, c3, e3⟩ := r.n.some_ (by simpa using h0)
  rw [List.length_map] at e1 e2 e3
  exact ⟨g1, c1, g2, c2, g3, c3, e1, e2, e3⟩
set_option maxHeartbeats 8000000 in
theorem ris_any {w : World} {v1 v2 v3 : Value} {T : List Pl} (r : RT w v1 v2 v3 T) (p : Pd) : Calls Try.prog 46 #[.agg (rtC T.length v1 v2 v3), .agg p.cs] w fun e w' => e = .returned (.bool (isF T p)) ∧ Only [] w w' := by
  have bt := (Bk.made w 30 (rtC T.length v1 v2 v3)).alloc (.cells p.cs 38)
  have t0 := bt.cell0 (i := 0) rfl
  have bp := Bk.newAt (w := w.alloc (.cells (rtC T.length v1 v2 v3) 30)) (t := 38) (cs := p.cs) (b := w.heap.size + 1) (by simp)
  obtain ⟨p0, p1⟩ := bp.pid
  have O : Hid (∀ n, Only [] w (((w.alloc (.cells (rtC T.length v1 v2 v3) 30)).alloc (.cells p.cs 38)).drewN n)) := Lib.hid (fun n => (((Only.refl [] w).alloc _).alloc _).drewN n)
  obtain ⟨pn, pg⟩ := p
  dsimp only at p0 p1
  by_cases hn : 0 ≤ pn
  · obtain ⟨k, rfl⟩ := Int.eq_ofNat_of_zero_le hn
    have q0 : decide ((0 : Int) ≤ (k : Int)) = true := decide_eq_true hn
    by_cases hk : k < T.length
    · obtain ⟨x, hx⟩ := some_at hk
      have q1 : decide (k < T.length) = true := decide_eq_true hk
      have hE : isF T ⟨(k : Nat), pg⟩ = (x.al && x.had == pg) := isF_at hn (Int.toNat_natCast k) hx
      obtain ⟨g1, c1, g2, c2, g3, c3, rfl, rfl, rfl⟩ := r.forms (by omega)
      have rr := (r.alloc (.cells (rtC T.length (.slice (some ⟨g1, 0, none⟩) T.length c1) (.slice (some ⟨g2, 0, none⟩) T.length c2) (.slice (some ⟨g3, 0, none⟩) T.length c3)) 30)).alloc (.cells (⟨(k : Int), pg⟩ : Pd).cs 38)
      have t1 := bt.cell0 (i := 1) rfl
      have t2 := bt.cell0 (i := 2) rfl
      have y1 := rr.h.at_ (had_at hx) (j := 0) rfl (q := k) (by show k = k * 1 + 0; omega)
      have y2 := rr.a.at_ (al_at hx) (j := 0) rfl (q := k) (by show k = k * 1 + 0; omega)
      have p2 : (k : Int) < (T.length : Int) := by omega
      obtain ⟨xh, xa, xn⟩ := x
      dsimp only at y1 y2 hE
      rw [hE]
      clear hE hx rr r bt bp
      cases xa with
      | false =>
        simp only [Bool.false_and]
        go_enter Try.func46, Try.ntmps46
        go_wp2_with fail
        go_quiet (fail)
        go_wp2
        go_ret
        exact ⟨rfl, O.out _⟩
      | true =>
        simp only [Bool.true_and]
        go_enter Try.func46, Try.ntmps46
        go_wp2_with fail
        go_quiet (fail)
        go_wp2
        go_ret
        exact ⟨rfl, O.out _⟩
    · have q1 : decide (k < T.length) = false := decide_eq_false hk
      rw [show isF T ⟨(k : Nat), pg⟩ = false from by
        unfold isF findF
        rw [if_pos hn]
        dsimp only
        rw [Int.toNat_natCast, List.getElem?_eq_none (by omega)]
        rfl]
      clear r bt bp
      go_enter Try.func46, Try.ntmps46
      go_wp2_with fail
      go_quiet (fail)
      go_wp2
      go_ret
      exact ⟨rfl, O.out _⟩
  · have q0 : decide (0 ≤ pn) = false := decide_eq_false hn
    rw [show isF T ⟨pn, pg⟩ = false from by
      unfold isF findF
      rw [if_neg hn]
      rfl]
    clear r bt bp
    go_enter Try.func46, Try.ntmps46
    go_wp2_with fail
    go_quiet (fail)
    go_wp2
    go_ret
    exact ⟨rfl, O.out _⟩
end Go.Proofs.Ytlidnlcmnkagaaa
