/- The document's ties: which stands ahead. How the program compares ties. The document's ties: one more. -/
import Derived.Test.YtkodblhompphjaaVc
import Derived.Test.YtkodblhompphjaaVb
namespace Go.Proofs.Ytkodblhompphjaa
open Go.RowKit

def aheadT (x y : Te) : Bool := if ((x.r == 0) != (y.r == 0)) = true then x.r == 0 else if (x.r != 0) = true then decide (x.r < y.r) else befP x.a y.a || (eqP x.a y.a && befP x.b y.b)
theorem aheadT_diff {x y : Te} {b : Bool} (h1 : (x.r == 0) = b) (h2 : (y.r == 0) = !b) : aheadT x y = b := by
  unfold aheadT
  rw [h1, h2]
  cases b <;> rfl
theorem aheadT_ref {x y : Te} (h1 : (x.r == 0) = false) (h2 : (y.r == 0) = false) : aheadT x y = decide (x.r < y.r) := by
  unfold aheadT
  rw [h1, h2, if_neg (by simp), if_pos (by rw [bne, h1]; rfl)]
theorem aheadT_link {x y : Te} (h1 : (x.r == 0) = true) (h2 : (y.r == 0) = true) : aheadT x y = (befP x.a y.a || (eqP x.a y.a && befP x.b y.b)) := by
  unfold aheadT
  rw [h1, h2, if_neg (by simp), if_neg (by rw [bne, h1]; simp)]
set_option maxHeartbeats 4000000 in
theorem rahead_any (x y : Te) (w : World) : Calls Try.prog 62 #[.agg x.cs, .agg y.cs] w fun e w' => e = .returned (.bool (aheadT x y)) ∧ Only [] w w' := by
  have BX := Lib.hid ((Bk.made w 45 x.cs).alloc (.cells y.cs 45))
  have BY := Lib.hid (Bk.newAt (w := w.alloc (.cells x.cs 45)) (t := 45) (cs := y.cs) (b := w.heap.size + 1) (by simp))
  have O := Lib.hid (((Only.refl [] w).alloc (.cells x.cs 45)).alloc (.cells y.cs 45))
  have K := Lib.hid (fun a b w => rbefore_any a b w)
  cases h1 : x.r == 0 with
  | true =>
    cases h2 : y.r == 0 with
    | false =>
      rw [aheadT_diff h1 (by rw [h2]; rfl)]
      go_enter Try.func62, Try.ntmps62
      go_wp2_with fail
      go_ret
      exact ⟨rfl, O.out⟩
    | true =>
      have ha := aheadT_link h1 h2
      have hn : (x.r != 0) = false := by rw [bne, h1]; rfl
      cases hb : befP x.a y.a with
      | true =>
        rw [hb, Bool.true_or] at ha
        rw [ha]
        have K1 := Lib.hid (fun w => hb ▸ K.out x.a y.a w)
        go_enter Try.func62, Try.ntmps62
        go_wp2_with fail
        (with_reducible refine (K1.out _).mono ?_)
        rintro e w1 ⟨rfl, o1⟩
        go_wp2_with fail
        go_ret
        exact ⟨rfl, O.out.trans o1 (by simp)⟩
      | false =>
        rw [hb, Bool.false_or] at ha
        have K1 := Lib.hid (fun w => hb ▸ K.out x.a y.a w)
        cases hE : eqP x.a y.a with
        | false =>
          rw [hE, Bool.false_and] at ha
          rw [ha]
          simp only [eqP] at hE
          go_enter Try.func62, Try.ntmps62
          go_wp2_with fail
          (with_reducible refine (K1.out _).mono ?_)
          rintro e w1 ⟨rfl, o1⟩
          obtain ⟨x0, x1, x2, x3, x4⟩ := (BX.out.only o1 (by simp)).tie
          obtain ⟨y0, y1, y2, y3, y4⟩ := (BY.out.only o1 (by simp)).tie
          go_wp2_with fail
          go_ret
          exact ⟨rfl, O.out.trans o1 (by simp)⟩
        | true =>
          rw [hE, Bool.true_and] at ha
          rw [ha]
          simp only [eqP] at hE
          have K2 := Lib.hid (fun w => K.out x.b y.b w)
          go_enter Try.func62, Try.ntmps62
          go_wp2_with fail
          (with_reducible refine (K1.out _).mono ?_)
          rintro e w1 ⟨rfl, o1⟩
          obtain ⟨x0, x1, x2, x3, x4⟩ := (BX.out.only o1 (by simp)).tie
          obtain ⟨y0, y1, y2, y3, y4⟩ := (BY.out.only o1 (by simp)).tie
          have O1 := Lib.hid (O.out.trans o1 (by simp))
          clear o1
          go_wp2_with fail
          (with_reducible refine (K2.out _).mono ?_)
          rintro e w2 ⟨rfl, o2⟩
          go_wp2_with fail
          go_ret
          exact ⟨rfl, O1.out.trans o2 (by simp)⟩
  | false =>
    cases h2 : y.r == 0 with
    | true =>
      rw [aheadT_diff h1 (by rw [h2]; rfl)]
      go_enter Try.func62, Try.ntmps62
      go_wp2_with fail
      go_ret
      exact ⟨rfl, O.out⟩
    | false =>
      have hn : (x.r != 0) = true := by rw [bne, h1]; rfl
      rw [aheadT_ref h1 h2]
      go_enter Try.func62, Try.ntmps62
      go_wp2_with fail
      go_ret
      exact ⟨rfl, O.out⟩
end Go.Proofs.Ytkodblhompphjaa

namespace Go.Proofs.Ytkodblhompphjaa
open Go.RowKit

def cfT (x y : Te) : Int := if (x.r != 0 || y.r != 0) = true then cmpI x.r y.r else orI (cfP x.a y.a) (cfP x.b y.b)
set_option maxHeartbeats 2000000 in
theorem cmpTies_any (x y : Te) (w : World) : Calls Try.prog 38 #[.agg x.cs, .agg y.cs] w fun e w' => e = .returned (.int .i64 (cfT x y)) ∧ Gr w w' := by
  have e : cfT x y = if (x.r != 0 || y.r != 0) = true then cmpI x.r y.r else orI (cfP x.a y.a) (cfP x.b y.b) := rfl
  generalize cfT x y = r at *
  obtain ⟨xr, ⟨a, b⟩, ⟨c, d⟩⟩ := x
  obtain ⟨yr, ⟨a', b'⟩, ⟨c', d'⟩⟩ := y
  dsimp only at e
  have BX := Lib.hid ((Bk.made w 45 (⟨xr, ⟨a, b⟩, ⟨c, d⟩⟩ : Te).cs).alloc (.cells (⟨yr, ⟨a', b'⟩, ⟨c', d'⟩⟩ : Te).cs 45))
  have BY := Lib.hid (Bk.newAt (w := w.alloc (.cells (⟨xr, ⟨a, b⟩, ⟨c, d⟩⟩ : Te).cs 45)) (t := 45) (cs := (⟨yr, ⟨a', b'⟩, ⟨c', d'⟩⟩ : Te).cs) (b := w.heap.size + 1) (by simp))
  have O := Lib.hid (((Gr.refl w).alloc (.cells (⟨xr, ⟨a, b⟩, ⟨c, d⟩⟩ : Te).cs 45)).alloc (.cells (⟨yr, ⟨a', b'⟩, ⟨c', d'⟩⟩ : Te).cs 45))
  have HC := Lib.hid (fun w => cmp_any xr yr w)
  have fin1 : (xr != 0 || yr != 0) = true → r = cmpI xr yr := fun h => by rw [e, if_pos h]
  have fin2 : (xr != 0 || yr != 0) = false → r = orI (cfP ⟨a, b⟩ ⟨a', b'⟩) (cfP ⟨c, d⟩ ⟨c', d'⟩) := fun h => by rw [e, if_neg (by rw [h]; simp)]
  have F1 := Lib.hid fin1
  have F2 := Lib.hid fin2
  clear e fin1 fin2
  cases hx : xr != 0 with
  | true =>
    go_enter Try.func38, Try.ntmps38
    go_wp2_with (go_at_call 59; refine (HC.out _).mono ?_; rintro e w' ⟨rfl, rfl⟩)
    go_ret
    exact ⟨retI (F1.out (by rw [hx]; rfl)).symm, O.out⟩
  | false =>
    cases hy : yr != 0 with
    | true =>
      go_enter Try.func38, Try.ntmps38
      go_wp2_with (go_at_call 59; refine (HC.out _).mono ?_; rintro e w' ⟨rfl, rfl⟩)
      go_ret
      exact ⟨retI (F1.out (by rw [hx, hy]; rfl)).symm, O.out⟩
    | false =>
      go_enter Try.func38, Try.ntmps38
      go_upto_region 3 with fail
      generalize ((w.alloc (.cells (⟨xr, ⟨a, b⟩, ⟨c, d⟩⟩ : Te).cs 45)).alloc (.cells (⟨yr, ⟨a', b'⟩, ⟨c', d'⟩⟩ : Te).cs 45)) = w0 at *
      have k0 : ∀ x : Gw w0, x.1.cell? ⟨w.heap.size, 1, none⟩ = some (.int .i64 a) := Gw.cell (BX.out.cell0 rfl)
      have k1 : ∀ x : Gw w0, x.1.cell? ⟨w.heap.size, 2, none⟩ = some (.int .i64 b) := Gw.cell (BX.out.cell0 rfl)
      have k2 : ∀ x : Gw w0, x.1.cell? ⟨w.heap.size, 3, none⟩ = some (.int .i64 c) := Gw.cell (BX.out.cell0 rfl)
      have k3 : ∀ x : Gw w0, x.1.cell? ⟨w.heap.size, 4, none⟩ = some (.int .i64 d) := Gw.cell (BX.out.cell0 rfl)
      have j0 : ∀ x : Gw w0, x.1.cell? ⟨w.heap.size + 1, 1, none⟩ = some (.int .i64 a') := Gw.cell (BY.out.cell0 rfl)
      have j1 : ∀ x : Gw w0, x.1.cell? ⟨w.heap.size + 1, 2, none⟩ = some (.int .i64 b') := Gw.cell (BY.out.cell0 rfl)
      have j2 : ∀ x : Gw w0, x.1.cell? ⟨w.heap.size + 1, 3, none⟩ = some (.int .i64 c') := Gw.cell (BY.out.cell0 rfl)
      have j3 : ∀ x : Gw w0, x.1.cell? ⟨w.heap.size + 1, 4, none⟩ = some (.int .i64 d') := Gw.cell (BY.out.cell0 rfl)
      have KP : Hid (∀ (x : Gw w0) (a b a' b' : Int), Calls Try.prog 44 #[.agg #[.int .i64 a, .int .i64 b], .agg #[.int .i64 a', .int .i64 b']] x.1 fun e w' => e = .returned (.int .i64 (cfP ⟨a, b⟩ ⟨a', b'⟩)) ∧ Gr x.1 w') := Lib.hid (fun x a b a' b' => cmpPids_any ⟨a, b⟩ ⟨a', b'⟩ x.1)
      refine wp_region_grown_then 10 (by kernel_rfl) (by kernel_rfl) ?_
      simp only [List.take_succ_cons, List.take_zero, List.drop_succ_cons, List.drop_zero]
      repeat (go_big_quiet_step ((go_at_call 44; exact grownS (KP.out _ _ _ _ _))))
      refine wpQuiet_nil ?_
      rintro w3 ⟨⟨w3', o3⟩, e3⟩
      obtain rfl : w3 = w3' := e3
      have OO := Lib.hid (O.out.trans o3)
      clear O o3 k0 k1 k2 k3 j0 j1 j2 j3
      generalize cfP ⟨a, b⟩ ⟨a', b'⟩ = pa at F2 ⊢
      generalize cfP ⟨c, d⟩ ⟨c', d'⟩ = pb at F2 ⊢
      clear KP
      have KO := Lib.hid (or_any w3.heap.size pa pb 3 _ (Bk.made w3 3 #[.int .i64 pa, .int .i64 pb]))
      go_wp2_with fail
      (with_reducible refine KO.out.mono ?_)
      rintro e w4 ⟨rfl, rfl⟩
      go_wp2_with fail
      go_ret
      exact ⟨retI (F2.out (by rw [hx, hy]; rfl)).symm, OO.out.alloc _⟩
theorem cfP_zero (a b : Pd) : cfP a b = 0 ↔ eqP a b = true := by
  unfold cfP orI cmpI eqP eq2
  by_cases h1 : a.n < b.n
  · simp [h1]; omega
  · by_cases h2 : b.n < a.n
    · simp [h1, h2]; omega
    · have h3 : a.n = b.n := by omega
      by_cases h4 : a.g < b.g
      · simp [h3, h4]; omega
      · by_cases h5 : b.g < a.g
        · simp [h3, h4, h5]; omega
        · simp [h3, h4, h5]; omega
theorem orI_lt (u v : Int) : decide (orI u v < 0) = (decide (u < 0) || (decide (u = 0) && decide (v < 0))) := by
  unfold orI
  by_cases h : u = 0
  · simp [h]
  · simp [h]
theorem cmpI_lt (x y : Int) : decide (cmpI x y < 0) = decide (x < y) := by
  unfold cmpI
  by_cases h1 : x < y
  · simp [h1]
  · by_cases h2 : y < x <;> simp [h1, h2]
theorem cfT_lt {x y : Te} : cfT x y < 0 ↔ if (x.r != 0 || y.r != 0) = true then x.r < y.r else (befP x.a y.a = true ∨ (x.a = y.a ∧ befP x.b y.b = true)) := by
  unfold cfT
  split
  · rw [← decide_eq_true_iff (p := cmpI x.r y.r < 0), cmpI_lt, decide_eq_true_eq]
  · have := orI_lt (cfP x.a y.a) (cfP x.b y.b)
    rw [cfP_lt, cfP_lt] at this
    rw [← decide_eq_true_iff (p := orI (cfP x.a y.a) (cfP x.b y.b) < 0), this]
    simp only [Bool.or_eq_true, Bool.and_eq_true, decide_eq_true_eq]
    rw [cfP_zero, eqP_iff]
end Go.Proofs.Ytkodblhompphjaa

namespace Go.Proofs.Ytkodblhompphjaa
open Go.RowKit

def putStep (y : Te) (s : List Te × Bool) (x : Te) : List Te × Bool := if (!s.2 && aheadT y x) = true then ((s.1 ++ [y]) ++ [x], true) else (s.1 ++ [x], s.2)
def stT (l : List Te) (y : Te) : List Te × Bool := l.foldl (putStep y) ([], false)
def putT (l : List Te) (y : Te) : List Te := if (stT l y).2 = true then (stT l y).1 else (stT l y).1 ++ [y]
theorem stT_take {l : List Te} {i : Nat} {x y : Te} (h : l[i]? = some x) : stT (l.take (i + 1)) y = putStep y (stT (l.take i) y) x := by
  unfold stT
  rw [List.take_add_one, h, List.foldl_append]
  rfl
theorem stT_len (y : Te) : ∀ (l : List Te) (s : List Te × Bool), (l.foldl (putStep y) s).1.length ≤ s.1.length + l.length + 1 ∧ ((l.foldl (putStep y) s).2 = false → (l.foldl (putStep y) s).1.length = s.1.length + l.length) ∧ (s.2 = true → (l.foldl (putStep y) s).1.length = s.1.length + l.length)
  | [], s => by simp
  | x :: r, s => by
    obtain ⟨h1, h2, h3⟩ := stT_len y r (putStep y s x)
    rw [List.foldl_cons, List.length_cons]
    unfold putStep at h1 h2 h3 ⊢
    split
    · rename_i hc
      rw [if_pos hc] at h1 h2 h3
      have := h3 rfl
      simp only [List.length_append, List.length_singleton] at this
      refine ⟨by omega, fun h => ?_, fun h => ?_⟩
      · have := h2 h
        exfalso
        have h4 : ∀ (r : List Te) (s : List Te × Bool), s.2 = true → (r.foldl (putStep y) s).2 = true := fun r => by
          induction r with
          | nil => exact fun s h => h
          | cons z r ih =>
            intro s hs
            rw [List.foldl_cons]
            refine ih _ ?_
            unfold putStep
            rw [hs]
            simp
        have h5 := h4 r ((s.1 ++ [y]) ++ [x], true) rfl
        unfold putStep at h5
        rw [h5] at h
        cases h
      · rw [h] at hc
        simp at hc
    · rename_i hc
      rw [if_neg hc] at h1 h2 h3
      simp only [List.length_append, List.length_singleton] at h1 h2 h3
      exact ⟨by omega, fun h => by have := h2 h; omega, fun h => by have := h3 h; omega⟩
theorem stT_le (l : List Te) (y : Te) : (stT l y).1.length ≤ l.length + 1 := by
  have := (stT_len y l ([], false)).1
  simpa [stT] using this
theorem stT_no {l : List Te} {y : Te} (h : (stT l y).2 = false) : (stT l y).1.length = l.length := by
  have := (stT_len y l ([], false)).2.1 h
  simpa [stT] using this
set_option maxHeartbeats 8000000 in
theorem rput_any (f : Bool) (A : Option Addr) (xs : List Te) (cap : Nat) (y : Te) (w : World) (h : RdS KT w A xs) (hl : xs.length * 40 + 4096 ≤ 140737488355328) :
    Calls Try.prog 54 #[.agg (tiC f (.slice A xs.length cap)), .agg y.cs] w fun e w' => ∃ v, e = .returned (.agg (tiC true v)) ∧ OwnS KT w' w.heap.size v (putT xs y) ∧ Only [] w w' := by
  have H := Lib.hid h
  have s1 : (w.alloc (.cells (tiC f (.slice A xs.length cap)) 27)).heap.size = w.heap.size + 1 := by simp
  have bt := (((Bk.made w 27 (tiC f (.slice A xs.length cap))).alloc (.cells y.cs 45)).alloc (.cells (tiC false (.slice none 0 0)) 27)).alloc (.cells (tiC true (.slice none 0 0)) 27)
  have by' := ((Bk.newAt (w := w.alloc (.cells (tiC f (.slice A xs.length cap)) 27)) (t := 45) (cs := y.cs) (b := w.heap.size + 1) (by simp)).alloc (.cells (tiC false (.slice none 0 0)) 27)).alloc (.cells (tiC true (.slice none 0 0)) 27)
  have br := (Bk.newAt (w := (w.alloc (.cells (tiC f (.slice A xs.length cap)) 27)).alloc (.cells y.cs 45)) (t := 27) (cs := tiC false (.slice none 0 0)) (b := w.heap.size + 1 + 1) (by simp)).alloc (.cells (tiC true (.slice none 0 0)) 27)
  have bo := Bk.newAt (w := ((w.alloc (.cells (tiC f (.slice A xs.length cap)) 27)).alloc (.cells y.cs 45)).alloc (.cells (tiC false (.slice none 0 0)) 27)) (t := 27) (cs := tiC true (.slice none 0 0)) (b := w.heap.size + 1 + 1 + 1) (by simp)
  have o := ((((Only.refl [] w).alloc (.cells (tiC f (.slice A xs.length cap)) 27)).alloc (.cells y.cs 45)).alloc (.cells (tiC false (.slice none 0 0)) 27)).alloc (.cells (tiC true (.slice none 0 0)) 27)
  have hs : w.heap.size + 1 + 1 + 1 + 1 ≤ ((((w.alloc (.cells (tiC f (.slice A xs.length cap)) 27)).alloc (.cells y.cs 45)).alloc (.cells (tiC false (.slice none 0 0)) 27)).alloc (.cells (tiC true (.slice none 0 0)) 27)).heap.size := by simp
  have BT := Lib.hid bt
  have BY := Lib.hid by'
  have BR := Lib.hid br
  have BO := Lib.hid bo
  have O := Lib.hid o
  have HS := Lib.hid hs
  clear bt by' br bo o hs h s1
  go_enter Try.func54, Try.ntmps54
  go_wp2_with fail
  go_loopw [6, 7] (fun dv iv wr => ∃ (i : Nat) (v : Value) (d : Bool), iv = .int .i64 i ∧ i ≤ xs.length ∧ (stT (xs.take i) y).2 = d ∧ OwnS KT wr (w.heap.size + 4) v (stT (xs.take i) y).1 ∧
    Bk wr w.heap.size 27 (tiC f (.slice A xs.length cap)) ∧ Bk wr (w.heap.size + 1) 45 y.cs ∧ Bk wr (w.heap.size + 1 + 1) 27 (tiC false (.slice none 0 0)) ∧ Bk wr (w.heap.size + 1 + 1 + 1) 27 (tiC true v) ∧ Only [] w wr ∧ w.heap.size + 1 + 1 + 1 + 1 ≤ wr.heap.size ∧ dv = .bool d) (fun _ iv _ => xs.length - (intOf iv).toNat)
  case atStart => exact ⟨0, _, false, rfl, Nat.zero_le _, rfl, OwnS.nil _ _ _, BT.out, BY.out, BR.out, BO.out, O.out, HS.out, rfl⟩
  case round =>
    clear BT BY BR BO O HS
    obtain ⟨i, v, d, rfl, hi, hd, hv, bt, by', br, bo, o, hs, rfl⟩ := hrel
    have BT := Lib.hid bt
    have BY := Lib.hid by'
    have BR := Lib.hid br
    have BO := Lib.hid bo
    have O := Lib.hid o
    have HS := Lib.hid hs
    have HV := Lib.hid hv
    clear bt by' br bo o hs hv
    by_cases hlt : i < xs.length
    · obtain ⟨bl, off, rfl, hb, -⟩ := RdT.at5 (H.out.only O.out (by simp)) (by omega)
      obtain ⟨x, hx⟩ := some_at hlt
      have HC : Hid (∀ (W : World), Only [] w W → W.cell? ⟨bl, off + i * 5, none⟩ = some (.int .i64 x.r) ∧ W.cell? ⟨bl, off + i * 5 + 1, none⟩ = some (.int .i64 x.a.n) ∧ W.cell? ⟨bl, off + i * 5 + 2, none⟩ = some (.int .i64 x.a.g) ∧ W.cell? ⟨bl, off + i * 5 + 3, none⟩ = some (.int .i64 x.b.n) ∧ W.cell? ⟨bl, off + i * 5 + 4, none⟩ = some (.int .i64 x.b.g)) := Lib.hid (fun W oW => by
        obtain ⟨b2, o2, e2, -, hc⟩ := RdT.at5 (H.out.only oW (by simp)) (by omega)
        injection e2 with e2
        injection e2 with e2 e3
        subst e2 e3
        exact hc i x hx)
      have hst := stT_take (y := y) hx
      have HL := Lib.hid (show (stT (xs.take i) y).1.length ≤ i + 1 ∧ ((stT (xs.take i) y).2 = false → (stT (xs.take i) y).1.length ≤ i) ∧ i < xs.length from ⟨by have := stT_le (xs.take i) y; rw [List.length_take] at this; omega, fun h => by have := stT_no h; rw [List.length_take] at this; omega, hlt⟩)
      clear hx hb
      generalize hS : stT (xs.take i) y = st at *
      clear hS
      obtain ⟨acc, d'⟩ := st
      simp only at hd HV HL
      subst hd
      cases d' with
      | true =>
        simp only [putStep, Bool.not_true, Bool.false_and, Bool.false_eq_true, if_false] at hst
        have HT := Lib.hid (show (stT (xs.take (i + 1)) y).2 = true by rw [hst])
        have HA := Lib.hid (show (stT (xs.take (i + 1)) y).1 = acc ++ [x] by rw [hst])
        clear hst
        obtain ⟨y0, y1, y2, y3, y4⟩ := BY.out.tie
        have c1 := BT.out.cell0 (i := 1) rfl
        have d1 := BO.out.cell0 (i := 1) rfl
        have df := BO.out.free
        obtain ⟨x0, x1, x2, x3, x4⟩ := HC.out _ O.out
        go_wp2_with fail
        go_quiet (fail)
        go_wp2
        have BT' := Lib.hid (BT.out.drewN nq)
        have BY' := Lib.hid (BY.out.drewN nq)
        have BR' := Lib.hid (BR.out.drewN nq)
        have BO' := Lib.hid (BO.out.drewN nq)
        have HV' := Lib.hid (HV.out.drewN nq)
        have O' := Lib.hid (O.out.drewN nq)
        have HS' : Hid (w.heap.size + 1 + 1 + 1 + 1 ≤ (wr.drewN nq).heap.size) := Lib.hid (HS.out)
        clear x0 x1 x2 x3 x4 y0 y1 y2 y3 y4 c1 d1 df BT BY BR BO HV O HS
        generalize hW : wr.drewN nq = W at *
        clear hW
        obtain ⟨y0, y1, y2, y3, y4⟩ := BY'.out.tie
        have c1 := BT'.out.cell0 (i := 1) rfl
        have d1 := BO'.out.cell0 (i := 1) rfl
        have df := BO'.out.free
        obtain ⟨x0, x1, x2, x3, x4⟩ := HC.out _ O'.out
        have LV : ∀ o, OwnS KT ((W.alloc o).drew) (w.heap.size + 4) v (acc) := fun o => (HV'.out.alloc o).drewN 1
        have LT : ∀ o, Bk ((W.alloc o).drew) w.heap.size 27 (tiC f (.slice (some ⟨bl, off, none⟩) xs.length cap)) := fun o => (BT'.out.alloc o).drewN 1
        have LY : ∀ o, Bk ((W.alloc o).drew) (w.heap.size + 1) 45 y.cs := fun o => (BY'.out.alloc o).drewN 1
        have LR : ∀ o, Bk ((W.alloc o).drew) (w.heap.size + 1 + 1) 27 (tiC false (.slice none 0 0)) := fun o => (BR'.out.alloc o).drewN 1
        have LO : ∀ o, Bk ((W.alloc o).drew) (w.heap.size + 1 + 1 + 1) 27 (tiC true v) := fun o => (BO'.out.alloc o).drewN 1
        have LW : ∀ o, Only [] w ((W.alloc o).drew) := fun o => (O'.out.alloc o).drewN 1
        have LB : ∀ o, w.heap.size + 4 ≤ ((W.alloc o).drew).heap.size := fun o => by have := HS'.out; show _ ≤ (W.alloc o).heap.size; simp; omega
        have d1' : ∀ o, (W.alloc o).cell? ⟨w.heap.size + 1 + 1 + 1, 1, none⟩ = some v := fun o => (BO'.out.alloc o).cell0 rfl
        have LL : ((acc).length + 1) * KT.by' ≤ 140737488355328 := by have := HL.out; show ((acc).length + 1) * 40 ≤ _; omega
        go_region_law ((refine step_appS KT (by rfl) _ _ (by rfl) (base := w.heap.size + 4) (v := v) (by rfl) (LV _) _ x (by rfl) (RdS.one (Bk.newAt (by simp)) rfl) (LB _) LL _ rfl ?_; intro g cap' w1 hown hgrow hat hlt1; have k0 := (LV _).keep hgrow (LO _) (by omega); have k1 := k0.cell0 (i := 1) rfl; have kf := k0.free; have K0 := Lib.hid k0; have G0 := Lib.hid ((LV _).keep hgrow (LT _) (by omega)); have G1 := Lib.hid ((LV _).keep hgrow (LY _) (by omega)); have G2 := Lib.hid ((LV _).keep hgrow (LR _) (by omega)); have G3 := Lib.hid ((LV _).goes hgrow (LW _) (by omega)); have G4 := Lib.hid (Nat.le_trans (LB _) hgrow.size); have HO := Lib.hid hown; clear hgrow hown hat k0))
        all_goals
          go_wp2_with fail
          go_roundw
          case rel =>
            have S3 : ∀ u, Only [w.heap.size + 1 + 1 + 1] w1 (w1.setCell ⟨w.heap.size + 1 + 1 + 1, 1, none⟩ u) := fun u => (Only.refl _ _).set (.inl (by simp)) u
            exact ⟨i + 1, _, _, by go_num, by omega, HT.out, by rw [HA.out]; exact HO.out.only (S3 _) (fun g' hg' => by have := (HO.out.block hg').1; simp; omega), G0.out.only (S3 _) (by simp; omega), G1.out.only (S3 _) (by simp), G2.out.only (S3 _) (by simp), K0.out.set 1 _, G3.out.trans (S3 _) (by simp; omega), Nat.le_trans G4.out (by simp [World.setCell]), rfl⟩
          case measure => simp [intOf]; omega
      | false =>
        have HLF := Lib.hid (HL.out.2.1 rfl)
        obtain ⟨y0, y1, y2, y3, y4⟩ := BY.out.tie
        have c1 := BT.out.cell0 (i := 1) rfl
        have d1 := BO.out.cell0 (i := 1) rfl
        have df := BO.out.free
        obtain ⟨x0, x1, x2, x3, x4⟩ := HC.out _ O.out
        have KA := Lib.hid (fun w => rahead_any y x w)
        cases hah : aheadT y x with
        | false =>
          simp only [putStep, hah, Bool.and_false, Bool.false_eq_true, if_false] at hst
          have HT := Lib.hid (show (stT (xs.take (i + 1)) y).2 = false by rw [hst])
          have HA := Lib.hid (show (stT (xs.take (i + 1)) y).1 = acc ++ [x] by rw [hst])
          rw [hah] at KA
          clear hst hah
          go_wp2_with fail
          refine wp_region_quiet_then 9 (by kernel_rfl) (by kernel_rfl) ?_
          simp only [List.take_succ_cons, List.take_zero, List.drop_succ_cons, List.drop_zero]
          repeat (go_big_quiet_step (fail))
          refine wpQuiet_nil ?_
          intro q
          go_wp2_with fail
          (with_reducible refine (KA.out _).mono ?_)
          rintro e w5 ⟨rfl, o5⟩
          have C0 := Lib.hid ((BT.out.drewN q).only o5 (by simp))
          have C1 := Lib.hid ((BY.out.drewN q).only o5 (by simp))
          have C2 := Lib.hid ((BR.out.drewN q).only o5 (by simp))
          have C3 := Lib.hid ((BO.out.drewN q).only o5 (by simp))
          have CV := Lib.hid ((HV.out.drewN q).only o5 (by simp))
          have CO := Lib.hid ((O.out.drewN q).trans o5 (by simp))
          have CS := Lib.hid (Nat.le_trans HS.out (show wr.heap.size ≤ w5.heap.size from o5.size))
          clear x0 x1 x2 x3 x4 y0 y1 y2 y3 y4 c1 d1 df o5
          obtain ⟨y0, y1, y2, y3, y4⟩ := C1.out.tie
          have c1 := C0.out.cell0 (i := 1) rfl
          have d1 := C3.out.cell0 (i := 1) rfl
          have df := C3.out.free
          obtain ⟨x0, x1, x2, x3, x4⟩ := HC.out _ CO.out
          go_wp2_with fail
          have BT' := Lib.hid (C0.out)
          have BY' := Lib.hid (C1.out)
          have BR' := Lib.hid (C2.out)
          have BO' := Lib.hid (C3.out)
          have HV' := Lib.hid (CV.out)
          have O' := Lib.hid (CO.out)
          have HS' : Hid (w.heap.size + 1 + 1 + 1 + 1 ≤ (w5).heap.size) := Lib.hid (CS.out)
          clear x0 x1 x2 x3 x4 y0 y1 y2 y3 y4 c1 d1 df BT BY BR BO HV O HS C0 C1 C2 C3 CV CO CS
          generalize hW : w5 = W at *
          clear hW
          obtain ⟨y0, y1, y2, y3, y4⟩ := BY'.out.tie
          have c1 := BT'.out.cell0 (i := 1) rfl
          have d1 := BO'.out.cell0 (i := 1) rfl
          have df := BO'.out.free
          obtain ⟨x0, x1, x2, x3, x4⟩ := HC.out _ O'.out
          have LV : ∀ o, OwnS KT ((W.alloc o).drew) (w.heap.size + 4) v (acc) := fun o => (HV'.out.alloc o).drewN 1
          have LT : ∀ o, Bk ((W.alloc o).drew) w.heap.size 27 (tiC f (.slice (some ⟨bl, off, none⟩) xs.length cap)) := fun o => (BT'.out.alloc o).drewN 1
          have LY : ∀ o, Bk ((W.alloc o).drew) (w.heap.size + 1) 45 y.cs := fun o => (BY'.out.alloc o).drewN 1
          have LR : ∀ o, Bk ((W.alloc o).drew) (w.heap.size + 1 + 1) 27 (tiC false (.slice none 0 0)) := fun o => (BR'.out.alloc o).drewN 1
          have LO : ∀ o, Bk ((W.alloc o).drew) (w.heap.size + 1 + 1 + 1) 27 (tiC true v) := fun o => (BO'.out.alloc o).drewN 1
          have LW : ∀ o, Only [] w ((W.alloc o).drew) := fun o => (O'.out.alloc o).drewN 1
          have LB : ∀ o, w.heap.size + 4 ≤ ((W.alloc o).drew).heap.size := fun o => by have := HS'.out; show _ ≤ (W.alloc o).heap.size; simp; omega
          have d1' : ∀ o, (W.alloc o).cell? ⟨w.heap.size + 1 + 1 + 1, 1, none⟩ = some v := fun o => (BO'.out.alloc o).cell0 rfl
          have LL : ((acc).length + 1) * KT.by' ≤ 140737488355328 := by have := HL.out; show ((acc).length + 1) * 40 ≤ _; omega
          go_region_law ((refine step_appS KT (by rfl) _ _ (by rfl) (base := w.heap.size + 4) (v := v) (by rfl) (LV _) _ x (by rfl) (RdS.one (Bk.newAt (by simp)) rfl) (LB _) LL _ rfl ?_; intro g cap' w1 hown hgrow hat hlt1; have k0 := (LV _).keep hgrow (LO _) (by omega); have k1 := k0.cell0 (i := 1) rfl; have kf := k0.free; have K0 := Lib.hid k0; have G0 := Lib.hid ((LV _).keep hgrow (LT _) (by omega)); have G1 := Lib.hid ((LV _).keep hgrow (LY _) (by omega)); have G2 := Lib.hid ((LV _).keep hgrow (LR _) (by omega)); have G3 := Lib.hid ((LV _).goes hgrow (LW _) (by omega)); have G4 := Lib.hid (Nat.le_trans (LB _) hgrow.size); have HO := Lib.hid hown; clear hgrow hown hat k0))
          all_goals
            go_wp2_with fail
            go_roundw
            case rel =>
              have S3 : ∀ u, Only [w.heap.size + 1 + 1 + 1] w1 (w1.setCell ⟨w.heap.size + 1 + 1 + 1, 1, none⟩ u) := fun u => (Only.refl _ _).set (.inl (by simp)) u
              exact ⟨i + 1, _, _, by go_num, by omega, HT.out, by rw [HA.out]; exact HO.out.only (S3 _) (fun g' hg' => by have := (HO.out.block hg').1; simp; omega), G0.out.only (S3 _) (by simp; omega), G1.out.only (S3 _) (by simp), G2.out.only (S3 _) (by simp), K0.out.set 1 _, G3.out.trans (S3 _) (by simp; omega), Nat.le_trans G4.out (by simp [World.setCell]), rfl⟩
            case measure => simp [intOf]; omega
        | true =>
          simp only [putStep, hah, Bool.not_false, Bool.and_self, if_true] at hst
          have HT := Lib.hid (show (stT (xs.take (i + 1)) y).2 = true by rw [hst])
          have HA := Lib.hid (show (stT (xs.take (i + 1)) y).1 = (acc ++ [y]) ++ [x] by rw [hst])
          rw [hah] at KA
          clear hst hah
          have LL0 : (acc.length + [y].length) * KT.by' ≤ 140737488355328 := by have := HL.out; have := HLF.out; show (acc.length + 1) * 40 ≤ _; omega
          go_wp2_with fail
          refine wp_region_quiet_then 9 (by kernel_rfl) (by kernel_rfl) ?_
          simp only [List.take_succ_cons, List.take_zero, List.drop_succ_cons, List.drop_zero]
          repeat (go_big_quiet_step (fail))
          refine wpQuiet_nil ?_
          intro q
          go_wp2_with fail
          (with_reducible refine (KA.out _).mono ?_)
          rintro e w5 ⟨rfl, o5⟩
          have C0 := Lib.hid ((BT.out.drewN q).only o5 (by simp))
          have C1 := Lib.hid ((BY.out.drewN q).only o5 (by simp))
          have C2 := Lib.hid ((BR.out.drewN q).only o5 (by simp))
          have C3 := Lib.hid ((BO.out.drewN q).only o5 (by simp))
          have CV := Lib.hid ((HV.out.drewN q).only o5 (by simp))
          have CO := Lib.hid ((O.out.drewN q).trans o5 (by simp))
          have CS := Lib.hid (Nat.le_trans HS.out (show wr.heap.size ≤ w5.heap.size from o5.size))
          clear x0 x1 x2 x3 x4 y0 y1 y2 y3 y4 c1 d1 df o5
          obtain ⟨y0, y1, y2, y3, y4⟩ := C1.out.tie
          have c1 := C0.out.cell0 (i := 1) rfl
          have d1 := C3.out.cell0 (i := 1) rfl
          have df := C3.out.free
          obtain ⟨x0, x1, x2, x3, x4⟩ := HC.out _ CO.out
          go_wp2_with (at_builtin; refine wpList_appS KT _ (by rfl) (.tmp 28) (.tmp 30) (by rfl) (by rfl) (CV.out.alloc _) (some ⟨w5.heap.size, 0, none⟩) [y] 1 1 (by rfl) rfl (RdS.one (Bk.newAt rfl) rfl) (by have := CS.out; simp; omega) LL0 ?_; intro v' w6 hown hgrow hat; have E0 := Lib.hid ((CV.out.alloc _).keep hgrow (C0.out.alloc _) (by omega)); have E1 := Lib.hid ((CV.out.alloc _).keep hgrow (C1.out.alloc _) (by omega)); have E2 := Lib.hid ((CV.out.alloc _).keep hgrow (C2.out.alloc _) (by omega)); have e3 := (CV.out.alloc _).keep hgrow (C3.out.alloc _) (by omega); have E4 := Lib.hid ((CV.out.alloc _).goes hgrow (CO.out.alloc _) (by omega)); have E5 := Lib.hid (Nat.le_trans (show w.heap.size + 1 + 1 + 1 + 1 ≤ (w5.alloc _).heap.size by have := CS.out; simp; omega) hgrow.size); obtain ⟨A', c', hv', -⟩ := hown.form; subst hv'; have k1 := e3.cell0 (i := 1) rfl; have kf := e3.free; have EO : Hid (OwnS KT w6 (w.heap.size + 4) (.slice A' (acc.length + 1) c') (acc ++ [y])) := Lib.hid (by simpa using hown); have E3 := Lib.hid e3; clear hgrow hown hat e3)
          have S3 : Only [w.heap.size + 1 + 1 + 1] w6 (w6.setCell ⟨w.heap.size + 1 + 1 + 1, 1, none⟩ (.slice A' (acc.length + 1) c')) := (Only.refl _ _).set (.inl (by simp)) _
          have X0 := Lib.hid (E0.out.only S3 (by simp; omega))
          have X1 := Lib.hid (E1.out.only S3 (by simp))
          have X2 := Lib.hid (E2.out.only S3 (by simp))
          have e3 := E3.out.set 1 (.slice A' (acc.length + 1) c')
          have X3 : Hid (Bk (w6.setCell ⟨w.heap.size + 1 + 1 + 1, 1, none⟩ (.slice A' (acc.length + 1) c')) (w.heap.size + 1 + 1 + 1) 27 (tiC true (.slice A' (acc.length + 1) c'))) := Lib.hid e3
          have XV := Lib.hid (EO.out.only S3 (fun g' hg' => by have := (EO.out.block hg').1; simp; omega))
          have XO := Lib.hid (E4.out.trans S3 (by simp; omega))
          have XS : Hid (w.heap.size + 1 + 1 + 1 + 1 ≤ (w6.setCell ⟨w.heap.size + 1 + 1 + 1, 1, none⟩ (.slice A' (acc.length + 1) c')).heap.size) := Lib.hid (Nat.le_trans E5.out S3.size)
          clear x0 x1 x2 x3 x4 y0 y1 y2 y3 y4 c1 d1 df k1 kf S3 e3 BT BY BR BO HV O HS C0 C1 C2 C3 CV CO CS E0 E1 E2 E3 E4 E5 EO
          generalize hW : w6.setCell ⟨w.heap.size + 1 + 1 + 1, 1, none⟩ (.slice A' (acc.length + 1) c') = W at *
          clear hW
          generalize hv2 : Value.slice A' (acc.length + 1) c' = v2 at *
          clear hv2
          obtain ⟨y0, y1, y2, y3, y4⟩ := X1.out.tie
          have c1 := X0.out.cell0 (i := 1) rfl
          have d1 := X3.out.cell0 (i := 1) rfl
          have df := X3.out.free
          obtain ⟨x0, x1, x2, x3, x4⟩ := HC.out _ XO.out
          have LV : ∀ o, OwnS KT ((W.alloc o).drew) (w.heap.size + 4) v2 (acc ++ [y]) := fun o => (XV.out.alloc o).drewN 1
          have LT : ∀ o, Bk ((W.alloc o).drew) w.heap.size 27 (tiC f (.slice (some ⟨bl, off, none⟩) xs.length cap)) := fun o => (X0.out.alloc o).drewN 1
          have LY : ∀ o, Bk ((W.alloc o).drew) (w.heap.size + 1) 45 y.cs := fun o => (X1.out.alloc o).drewN 1
          have LR : ∀ o, Bk ((W.alloc o).drew) (w.heap.size + 1 + 1) 27 (tiC false (.slice none 0 0)) := fun o => (X2.out.alloc o).drewN 1
          have LO : ∀ o, Bk ((W.alloc o).drew) (w.heap.size + 1 + 1 + 1) 27 (tiC true v2) := fun o => (X3.out.alloc o).drewN 1
          have LW : ∀ o, Only [] w ((W.alloc o).drew) := fun o => (XO.out.alloc o).drewN 1
          have LB : ∀ o, w.heap.size + 4 ≤ ((W.alloc o).drew).heap.size := fun o => by have := XS.out; show _ ≤ (W.alloc o).heap.size; simp; omega
          have d1' : ∀ o, (W.alloc o).cell? ⟨w.heap.size + 1 + 1 + 1, 1, none⟩ = some v2 := fun o => (X3.out.alloc o).cell0 rfl
          have LL : ((acc ++ [y]).length + 1) * KT.by' ≤ 140737488355328 := by have := HL.out; have := HLF.out; show ((acc ++ [y]).length + 1) * 40 ≤ _; rw [List.length_append]; simp only [List.length_singleton]; omega
          go_region_law ((refine step_appS KT (by rfl) _ _ (by rfl) (base := w.heap.size + 4) (v := v2) (by rfl) (LV _) _ x (by rfl) (RdS.one (Bk.newAt (by simp)) rfl) (LB _) LL _ rfl ?_; intro g cap' w1 hown hgrow hat hlt1; have k0 := (LV _).keep hgrow (LO _) (by omega); have k1 := k0.cell0 (i := 1) rfl; have kf := k0.free; have K0 := Lib.hid k0; have G0 := Lib.hid ((LV _).keep hgrow (LT _) (by omega)); have G1 := Lib.hid ((LV _).keep hgrow (LY _) (by omega)); have G2 := Lib.hid ((LV _).keep hgrow (LR _) (by omega)); have G3 := Lib.hid ((LV _).goes hgrow (LW _) (by omega)); have G4 := Lib.hid (Nat.le_trans (LB _) hgrow.size); have HO := Lib.hid hown; clear hgrow hown hat k0))
          all_goals
            go_wp2_with fail
            go_roundw
            case rel =>
              have S3 : ∀ u, Only [w.heap.size + 1 + 1 + 1] w1 (w1.setCell ⟨w.heap.size + 1 + 1 + 1, 1, none⟩ u) := fun u => (Only.refl _ _).set (.inl (by simp)) u
              have HO2 := HO.out
              rw [List.length_append, List.length_singleton] at HO2
              exact ⟨i + 1, _, _, by go_num, by omega, HT.out, by rw [HA.out]; exact HO2.only (S3 _) (fun g' hg' => by have := (HO.out.block hg').1; simp; omega), G0.out.only (S3 _) (by simp; omega), G1.out.only (S3 _) (by simp), G2.out.only (S3 _) (by simp), K0.out.set 1 _, G3.out.trans (S3 _) (by simp; omega), Nat.le_trans G4.out (by simp [World.setCell]), rfl⟩
            case measure => simp [intOf]; omega
    · have e : i = xs.length := by omega
      subst e
      rw [List.take_length] at hd HV
      have HLX := Lib.hid (show (stT xs y).1.length ≤ xs.length + 1 ∧ ((stT xs y).2 = false → (stT xs y).1.length ≤ xs.length) from ⟨stT_le xs y, fun h => by rw [stT_no h]; omega⟩)
      have HPT : Hid (putT xs y = if (stT xs y).2 = true then (stT xs y).1 else (stT xs y).1 ++ [y]) := Lib.hid rfl
      generalize stT xs y = st at *
      obtain ⟨acc, d'⟩ := st
      simp only at hd HV HLX HPT
      subst hd
      obtain ⟨A', cap', hv', -⟩ := HV.out.form
      subst hv'
      have L : w.heap.size ≤ w.heap.size + 1 + 1 := by omega
      obtain ⟨y0, y1, y2, y3, y4⟩ := BY.out.tie
      cases d' with
      | true =>
        have HP := Lib.hid (show putT xs y = acc by rw [HPT.out]; rfl)
        clear HPT
        have h0 := BO.out.cell0 (i := 0) rfl
        have d1 := BO.out.cell0 (i := 1) rfl
        have z0 := BR.out.cell0 (i := 0) rfl
        have z1 := BR.out.cell0 (i := 1) rfl
        have zf := BR.out.free
        have c1 := BT.out.cell0 (i := 1) rfl
        go_wp2_with fail
        have oo := ((Only.refl [w.heap.size + 1 + 1] wr).set (p := ⟨w.heap.size + 1 + 1, 0, none⟩) (.inl (by simp)) (.bool true)).set (p := ⟨w.heap.size + 1 + 1, 1, none⟩) (.inl (by simp)) (.slice A' acc.length cap')
        refine bodyPost_ret (v := .agg (tiC true (.slice A' acc.length cap'))) (by simp [results, Try.results54, go_sem, z0, z1]) rfl ⟨_, rfl, ?_, ((O.out.set (.inr L) _).set (.inr L) _)⟩
        rw [HP.out]
        exact (HV.out.low (by omega)).only oo (fun g' hg' => by have := (HV.out.block hg').1; simp; omega)
      | false =>
        have HP := Lib.hid (show putT xs y = acc ++ [y] by rw [HPT.out]; rfl)
        clear HPT
        have LL0 : (acc.length + [y].length) * KT.by' ≤ 140737488355328 := by have := HLX.out.2 rfl; show (acc.length + 1) * 40 ≤ _; omega
        have d1 := BO.out.cell0 (i := 1) rfl
        have c1 := BT.out.cell0 (i := 1) rfl
        go_wp2_with (at_builtin; refine wpList_appS KT _ (by rfl) (.tmp 46) (.tmp 48) (by rfl) (by rfl) (HV.out.alloc _) (some ⟨wr.heap.size, 0, none⟩) [y] 1 1 (by rfl) rfl (RdS.one (Bk.newAt rfl) rfl) (by have := HS.out; simp; omega) LL0 ?_; intro v' w6 hown hgrow hat; have e2 := (HV.out.alloc _).keep hgrow (BR.out.alloc _) (by omega); have e3 := (HV.out.alloc _).keep hgrow (BO.out.alloc _) (by omega); have E4 := Lib.hid ((HV.out.alloc _).goes hgrow (O.out.alloc _) (by omega)); obtain ⟨A2, c2, hv2, -⟩ := hown.form; subst hv2; have k0 := e3.cell0 (i := 0) rfl; have k1 := e3.cell0 (i := 1) rfl; have kf := e3.free; have z0 := e2.cell0 (i := 0) rfl; have z1 := e2.cell0 (i := 1) rfl; have zf := e2.free; have EO : Hid (OwnS KT w6 (w.heap.size + 4) (.slice A2 (acc.length + 1) c2) (acc ++ [y])) := Lib.hid (by simpa using hown); clear hgrow hown hat e2 e3)
        have oo := (((Only.refl [w.heap.size + 1 + 1, w.heap.size + 1 + 1 + 1] w6).set (p := ⟨w.heap.size + 1 + 1 + 1, 1, none⟩) (.inl (by simp)) (.slice A2 (acc.length + 1) c2)).set (p := ⟨w.heap.size + 1 + 1, 0, none⟩) (.inl (by simp)) (.bool true)).set (p := ⟨w.heap.size + 1 + 1, 1, none⟩) (.inl (by simp)) (.slice A2 (acc.length + 1) c2)
        have L3 : w.heap.size ≤ w.heap.size + 1 + 1 + 1 := by omega
        refine bodyPost_ret (v := .agg (tiC true (.slice A2 (acc.length + 1) c2))) (by simp [results, Try.results54, go_sem, z0, z1]) rfl ⟨_, rfl, ?_, (((E4.out.set (.inr L3) _).set (.inr L) _).set (.inr L) _)⟩
        rw [HP.out]
        exact (EO.out.low (by omega)).only oo (fun g' hg' => by have := (EO.out.block hg').1; simp; omega)
end Go.Proofs.Ytkodblhompphjaa
