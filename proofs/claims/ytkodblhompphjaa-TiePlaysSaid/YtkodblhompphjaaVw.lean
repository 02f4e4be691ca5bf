/- Running a program by reckoning, 16: the laws by which a drawn region's order does not matter.
  Nothing here speaks of the program. Running a program by reckoning, 17: a drawn region comes to what its text's order comes to.
  Nothing here speaks of the program. -/
import Derived.Test.YtkodblhompphjaaVv
namespace Go.Proofs.Ytkodblhompphjaa
open Go.RowKit

inductive Good (c : Cx) (T0 : Tb Value) : List Rc → Tb Value → Prop
  | nil : Good c T0 [] T0
  | cons {rs : List Rc} {T : Tb Value} {o : Oper} {k : KdR} {T' : Tb Value} : Good c T0 rs T → c.ol[rs.length]? = some o → kdOf c o (c.mk' rs.length) T rs = some k → putA c.N T o.dst k.val = some T' → Good c T0 ((T, k) :: rs) T'
theorem pass_good {c : Cx} {T0 : Tb Value} : ∀ (l : List Oper) (ms : List Nat) (rs : List Rc) (T : Tb Value) (rs' : List Rc) (T' : Tb Value), pass c l ms rs T = some (rs', T') → Good c T0 rs T →
    (∀ i, l[i]? = c.ol[rs.length + i]?) → (∀ i, ms[i]? = c.M[rs.length + i]?) → Good c T0 rs' T' ∧ rs'.length = rs.length + l.length
  | [], ms, rs, T, rs', T', e, h, _, _ => by
    injection e with e
    injection e with e1 e2
    subst e1 e2
    exact ⟨h, by simp⟩
  | o :: l, [], rs, T, rs', T', e, _, _, _ => by cases e
  | o :: l, m :: ms, rs, T, rs', T', e, h, hl, hm => by
    simp only [pass] at e
    split at e
    · rename_i k hk
      split at e
      · rename_i T1 hT1
        have h0 : c.ol[rs.length]? = some o := by have := hl 0; simpa using this.symm
        have m0 : c.mk' rs.length = m := by
          have := hm 0
          simp only [List.getElem?_cons_zero, Nat.add_zero] at this
          unfold Cx.mk'
          rw [nthL_eq, ← this]
        obtain ⟨g1, g2⟩ := pass_good l ms ((T, k) :: rs) T1 rs' T' e (.cons h h0 (by rw [m0]; exact hk) hT1) (fun i => by
          have := hl (i + 1)
          simp only [List.getElem?_cons_succ] at this
          rw [this, List.length_cons]
          congr 1
          omega) (fun i => by
          have := hm (i + 1)
          simp only [List.getElem?_cons_succ] at this
          rw [this, List.length_cons]
          congr 1
          omega)
        exact ⟨g1, by rw [g2]; simp; omega⟩
      · cases e
    · cases e
theorem Good.sfx {c : Cx} {T0 : Tb Value} {rs : List Rc} {Tf : Tb Value} (h : Good c T0 rs Tf) : ∀ {j : Nat}, j < rs.length → ∃ p T k t o T', rs = p ++ (T, k) :: t ∧ t.length = j ∧ c.ol[j]? = some o ∧ Good c T0 t T ∧ kdOf c o (c.mk' j) T t = some k ∧ putA c.N T o.dst k.val = some T' := by
  induction h with
  | nil => intro j hj; simp at hj
  | @cons rs T o k T' hg h1 h2 h3 ih =>
    intro j hj
    by_cases e : j = rs.length
    · subst e
      exact ⟨[], T, k, rs, o, T', rfl, rfl, h1, hg, h2, h3⟩
    · obtain ⟨p, T2, k2, t, o2, T3, e1, e2, e3⟩ := ih (j := j) (by simp at hj; omega)
      exact ⟨(T, k) :: p, T2, k2, t, o2, T3, by rw [e1]; rfl, e2, e3⟩

def dstAt (c : Cx) (j t : Nat) : Bool := match c.ol[j]? with | some o => dstIs o t | none => false
/-- What a temporary holds when those of D are done. -/
def tvD (c : Cx) (T0 : Tb Value) (D : Nat → Bool) : List Rc → Nat → Value
  | [], t => tv T0 t
  | (_, k) :: rs, t => cond (D rs.length && dstAt c rs.length t) k.val (tvD c T0 D rs t)
theorem tvD_congr {c : Cx} {T0 : Tb Value} {D D' : Nat → Bool} {t : Nat} : ∀ {rs : List Rc}, (∀ i, i < rs.length → dstAt c i t = true → D i = D' i) → tvD c T0 D rs t = tvD c T0 D' rs t
  | [], _ => rfl
  | (_, k) :: rs, h => by
    simp only [tvD]
    rw [tvD_congr (rs := rs) fun i hi => h i (by simp; omega)]
    cases hd : dstAt c rs.length t with
    | false => simp
    | true => rw [h rs.length (by simp) hd]
theorem tvD_app {c : Cx} {T0 : Tb Value} {D : Nat → Bool} {t : Nat} {s : List Rc} : ∀ {p : List Rc}, (∀ i, s.length ≤ i → i < (p ++ s).length → dstAt c i t = true → D i = false) → tvD c T0 D (p ++ s) t = tvD c T0 D s t
  | [], _ => rfl
  | (_, k) :: p, h => by
    simp only [List.cons_append, tvD]
    have h1 : (D (p ++ s).length && dstAt c (p ++ s).length t) = false := by
      cases hd : dstAt c (p ++ s).length t with
      | false => simp
      | true => rw [h _ (by simp) (by simp) hd]; rfl
    rw [h1, cond_false]
    exact tvD_app fun i h1 h2 h3 => h i h1 (by simp at h2 ⊢; omega) h3
theorem Good.tv {c : Cx} {T0 : Tb Value} {rs : List Rc} {T : Tb Value} (h : Good c T0 rs T) : ∀ t, Go.Proofs.Ytkodblhompphjaa.tv T t = tvD c T0 (fun _ => true) rs t := by
  induction h with
  | nil => intro t; rfl
  | @cons rs T o k T' hg h1 h2 h3 ih =>
    intro t
    simp only [tvD, Bool.true_and, dstAt, h1]
    unfold putA at h3
    unfold dstIs
    cases hd : o.dst with
    | none =>
      rw [hd] at h3
      injection h3 with h3
      subst h3
      simp only [cond_false]
      exact ih t
    | some d =>
      rw [hd] at h3
      dsimp only at h3
      cases hb : Nat.ble (d + 1) c.N with
      | false => rw [hb] at h3; cases h3
      | true =>
        rw [hb] at h3
        injection h3 with h3
        subst h3
        unfold Go.Proofs.Ytkodblhompphjaa.tv
        rw [Tb.get_set]
        dsimp only
        rw [beq_dec]
        by_cases e : t = d
        · subst e
          simp
        · rw [if_neg e]
          have e' : ¬ d = t := fun h => e h.symm
          simp only [e', decide_false, cond_false]
          exact ih t

theorem ordT_spec {mk : Nat → Nat} {j t : Nat} : ∀ {l : List Oper} {i0 i : Nat} {o : Oper}, ordT mk j t l i0 = true → l[i]? = some o → dstIs o t = true → i0 + i ≠ j → (i0 + i < j → Nat.testBit (mk j) (i0 + i) = true) ∧ (j < i0 + i → Nat.testBit (mk (i0 + i)) j = true)
  | [], _, _, _, _, h, _, _ => by simp at h
  | o0 :: l, i0, 0, o, h, ho, hd, hne => by
    simp only [List.getElem?_cons_zero, Option.some.injEq] at ho
    subst ho
    simp only [ordT, Bool.and_eq_true] at h
    obtain ⟨h1, _⟩ := h
    unfold dstIs at hd
    cases hdd : o0.dst with
    | none => rw [hdd] at hd; cases hd
    | some d =>
      rw [hdd] at h1 hd
      dsimp only at h1 hd
      rw [hd, beq_dec, decide_eq_false (show ¬ i0 = j by simpa using hne)] at h1
      simp only [Bool.not_false, Bool.and_self, cond_true] at h1
      rw [Nat.add_zero]
      cases hb : Nat.ble (i0 + 1) j with
      | true =>
        rw [hb] at h1
        exact ⟨fun _ => h1, fun h => by have := Nat.le_of_ble_eq_true hb; omega⟩
      | false =>
        rw [hb] at h1
        refine ⟨fun h => ?_, fun _ => h1⟩
        rw [Nat.ble_eq_true_of_le (show i0 + 1 ≤ j by omega)] at hb
        cases hb
  | o0 :: l, i0, i + 1, o, h, ho, hd, hne => by
    simp only [ordT, Bool.and_eq_true] at h
    have := ordT_spec (i0 := i0 + 1) (i := i) h.2 (by simpa using ho) hd (by omega)
    rw [show i0 + 1 + i = i0 + (i + 1) by omega] at this
    exact this
theorem drawOk_spec {mk : Nat → Nat} {all : List Oper} : ∀ {l : List Oper} {j0 i : Nat} {o : Oper}, drawOk mk all l j0 = true → l[i]? = some o → (mk (j0 + i)) >>> (j0 + i) = 0 ∧ (∀ t ∈ o.looksAt ⟨all⟩, dstIs o t = false ∧ ordT mk (j0 + i) t all 0 = true) ∧ ∀ d, o.dst = some d → ordT mk (j0 + i) d all 0 = true
  | [], _, _, _, _, h => by simp at h
  | o0 :: l, j0, 0, o, h, ho => by
    simp only [List.getElem?_cons_zero, Option.some.injEq] at ho
    subst ho
    simp only [drawOk, Bool.and_eq_true] at h
    obtain ⟨⟨⟨h1, h2⟩, h3⟩, _⟩ := h
    rw [Nat.add_zero]
    refine ⟨Nat.eq_of_beq_eq_true h1, fun t ht => ?_, fun d hd => ?_⟩
    · rw [List.all_eq_true] at h2
      have := h2 t ht
      simpa using this
    · rw [hd] at h3
      exact h3
  | o0 :: l, j0, i + 1, o, h, ho => by
    simp only [drawOk, Bool.and_eq_true] at h
    have := drawOk_spec (j0 := j0 + 1) (i := i) h.2 (by simpa using ho)
    rw [show j0 + 1 + i = j0 + (i + 1) by omega] at this
    exact this

theorem hsOf_lt : ∀ {rs : List Rc} {x : Nat × AW}, x ∈ hsOf rs → x.1 < rs.length
  | (_, .h v W1) :: rs, x, h => by
    simp only [hsOf, List.mem_cons] at h
    rcases h with rfl | h
    · simp
    · have := hsOf_lt h
      simp only [List.length_cons]
      omega
  | (_, .p _) :: rs, x, h => by have := hsOf_lt (rs := rs) h; simp only [List.length_cons]; omega
  | (_, .a _ _) :: rs, x, h => by have := hsOf_lt (rs := rs) h; simp only [List.length_cons]; omega
  | (_, .q _) :: rs, x, h => by have := hsOf_lt (rs := rs) h; simp only [List.length_cons]; omega
  | (_, .s _ _) :: rs, x, h => by have := hsOf_lt (rs := rs) h; simp only [List.length_cons]; omega
theorem hsOf_app {s : List Rc} : ∀ {p : List Rc}, ∃ X, hsOf (p ++ s) = X ++ hsOf s ∧ ∀ x ∈ X, s.length ≤ x.1
  | [] => ⟨[], rfl, fun x hx => by cases hx⟩
  | (T, k) :: p => by
    obtain ⟨X, h1, h2⟩ := hsOf_app (s := s) (p := p)
    cases k with
    | h v W1 =>
      refine ⟨((p ++ s).length, W1) :: X, by simp only [List.cons_append, hsOf, h1], fun x hx => ?_⟩
      rcases List.mem_cons.1 hx with rfl | hx
      · simp
      · exact h2 x hx
    | p v => exact ⟨X, h1, h2⟩
    | a ob v => exact ⟨X, h1, h2⟩
    | q v => exact ⟨X, h1, h2⟩
    | s a vs => exact ⟨X, h1, h2⟩
theorem alAt_app {s : List Rc} {i : Nat} (hi : i < s.length) : ∀ {p : List Rc}, alAt (p ++ s) i = alAt s i
  | [] => rfl
  | (T, k) :: p => by
    simp only [List.cons_append, alAt]
    rw [if_neg (by simp; omega)]
    exact alAt_app hi
theorem stAt_app {s : List Rc} {i : Nat} (hi : i < s.length) : ∀ {p : List Rc}, stAt (p ++ s) i = stAt s i
  | [] => rfl
  | (T, k) :: p => by
    simp only [List.cons_append, stAt]
    rw [if_neg (by simp; omega)]
    exact stAt_app hi
theorem hsOf_sorted : ∀ (rs : List Rc), (hsOf rs).Pairwise fun a b => b.1 < a.1
  | [] => List.Pairwise.nil
  | (_, .h _ _) :: rs => List.Pairwise.cons (fun _ hx => hsOf_lt hx) (hsOf_sorted rs)
  | (_, .p _) :: rs => hsOf_sorted rs
  | (_, .a _ _) :: rs => hsOf_sorted rs
  | (_, .q _) :: rs => hsOf_sorted rs
  | (_, .s _ _) :: rs => hsOf_sorted rs
/-- Where the done ones begin. -/
theorem split_at {D : Nat → Bool} : ∀ {nw od X Y : List (Nat × AW)}, nw ++ od = X ++ Y → (∀ x ∈ nw, D x.1 = false) → (∀ x ∈ od, D x.1 = true) → (∀ x ∈ X, x ∉ od) → (∀ x ∈ Y, D x.1 = true) → nw = X ∧ od = Y
  | [], od, [], Y, h, _, _, _, _ => ⟨rfl, h⟩
  | [], od, x :: X, Y, h, _, _, h4, _ => by
    rw [List.nil_append] at h
    exact absurd (by rw [h]; simp) (h4 x List.mem_cons_self)
  | y :: nw, od, [], Y, h, h2, _, _, h5 => by
    rw [List.nil_append] at h
    have h6 := h2 y List.mem_cons_self
    have h7 := h5 y (by rw [← h]; simp)
    rw [h6] at h7
    cases h7
  | y :: nw, od, x :: X, Y, h, h2, h3, h4, h5 => by
    simp only [List.cons_append, List.cons.injEq] at h
    obtain ⟨rfl, h⟩ := h
    obtain ⟨k1, k2⟩ := split_at h (fun z hz => h2 z (List.mem_cons_of_mem _ hz)) h3 (fun z hz => h4 z (List.mem_cons_of_mem _ hz)) h5
    exact ⟨by rw [k1], k2⟩
theorem stsOf_mem : ∀ {rs : List Rc} {i : Nat} {a : Addr} {vs : List Value}, stAt rs i = some (a, vs) → (i, a, vs.length) ∈ stsOf rs
  | [], _, _, _, h => by cases h
  | (T, k) :: rs, i, a, vs, h => by
    simp only [stAt] at h
    by_cases e : i = rs.length
    · rw [if_pos e] at h
      cases k with
      | s b us =>
        simp only [stK, Option.some.injEq, Prod.mk.injEq] at h
        obtain ⟨rfl, rfl⟩ := h
        simp [stsOf, e]
      | _ => cases h
    · rw [if_neg e] at h
      have ih := stsOf_mem h
      cases k with
      | s b us => exact List.mem_cons_of_mem _ ih
      | _ => exact ih
theorem poi_next (mk : Nat → Nat) (j : Nat) (W : AW) : ∀ l, (poi mk j W l).next = W.next
  | [] => rfl
  | (i, a, _) :: l => by
    simp only [poi]
    cases (Nat.testBit (mk j) i || Nat.testBit (mk i) j) with
    | true => exact poi_next mk j W l
    | false => exact poi_next mk j W l
theorem poi_get {mk : Nat → Nat} {j : Nat} {W : AW} {k : Nat} {x : Obj × Bool} : ∀ {l : List (Nat × Addr × Nat)}, (poi mk j W l).get k = some x → W.get k = some x ∧ ∀ y ∈ l, y.2.1.block = k → Nat.testBit (mk j) y.1 = true ∨ Nat.testBit (mk y.1) j = true
  | [], h => ⟨h, fun y hy => by cases hy⟩
  | (i, a, n) :: l, h => by
    simp only [poi] at h
    cases hb : (Nat.testBit (mk j) i || Nat.testBit (mk i) j) with
    | true =>
      rw [hb] at h
      obtain ⟨h1, h2⟩ := poi_get (l := l) h
      refine ⟨h1, fun y hy hk => ?_⟩
      rcases List.mem_cons.1 hy with rfl | hy
      · simpa using hb
      · exact h2 y hy hk
    | false =>
      rw [hb] at h
      simp only [cond_false, AW.get_set] at h
      by_cases e : k = a.block
      · rw [if_pos e] at h; cases h
      · rw [if_neg e] at h
        obtain ⟨h1, h2⟩ := poi_get (l := l) h
        refine ⟨h1, fun y hy hk => ?_⟩
        rcases List.mem_cons.1 hy with rfl | hy
        · exact absurd hk.symm e
        · exact h2 y hy hk
theorem putC_set (u : Value) : ∀ (vs cs : List Value) (x i : Nat), i < x ∨ x + vs.length ≤ i → (putC cs x vs).set i u = putC (cs.set i u) x vs
  | [], _, _, _, _ => rfl
  | v :: vs, cs, x, i, h => by
    simp only [putC, setL_eq, List.length_cons] at h ⊢
    rw [putC_set u vs _ (x + 1) i (by omega), List.set_comm]
    omega
theorem putC_comm : ∀ (us vs cs : List Value) (x y : Nat), x + vs.length ≤ y ∨ y + us.length ≤ x → putC (putC cs x vs) y us = putC (putC cs y us) x vs
  | [], _, _, _, _, _ => rfl
  | u :: us, vs, cs, x, y, h => by
    simp only [putC, setL_eq, List.length_cons] at h ⊢
    rw [putC_set u vs cs x y (by omega)]
    exact putC_comm us vs _ x (y + 1) (by omega)
theorem putO_comm (o : Obj) {x y : Nat} {vs us : List Value} (h : x + vs.length ≤ y ∨ y + us.length ≤ x) : putO (putO o x vs) y us = putO (putO o y us) x vs := by
  cases o with
  | cells c e fz =>
    simp only [putO]
    rw [putC_comm us vs c.toList x y h]
  | _ => rfl
theorem stO_app {D : Nat → Bool} {k : Nat} {o : Obj} {s : List Rc} : ∀ {p : List Rc}, (∀ j a vs, s.length ≤ j → stAt (p ++ s) j = some (a, vs) → D j = false) → stO D (p ++ s) k o = stO D s k o
  | [], _ => rfl
  | (T, kd) :: p, h => by
    have ih : stO D (p ++ s) k o = stO D s k o := stO_app fun j a vs hj hs => h j a vs hj (by
      simp only [List.cons_append, stAt]
      by_cases e : j = (p ++ s).length
      · rw [e, stAt_ge (Nat.le_refl _)] at hs
        cases hs
      · rw [if_neg e]
        exact hs)
    cases kd with
    | s a vs =>
      have := h (p ++ s).length a vs (by simp) (by simp only [List.cons_append, stAt]; rw [if_pos trivial]; rfl)
      simp only [List.cons_append, stO]
      rw [this]
      exact ih
    | p v => exact ih
    | q v => exact ih
    | a ob v => exact ih
    | h v W1 => exact ih
/-- A store that comes last. -/
theorem stO_upd {D D' : Nat → Bool} {k : Nat} {o : Obj} {T : Tb Value} {a : Addr} {vs : List Value} {t : List Rc} (hD : D t.length = false) (hD' : D' t.length = true) (hne : ∀ j, j ≠ t.length → D' j = D j) : ∀ {p : List Rc}, (∀ j b us, t.length < j → stAt (p ++ (T, .s a vs) :: t) j = some (b, us) → D j = true → b.block = a.block → b.off + us.length ≤ a.off ∨ a.off + vs.length ≤ b.off) →
    stO D' (p ++ (T, .s a vs) :: t) k o = if k = a.block then putO (stO D (p ++ (T, .s a vs) :: t) k o) a.off vs else stO D (p ++ (T, .s a vs) :: t) k o
  | [], _ => by
    simp only [List.nil_append, stO, hD, hD', Bool.false_and, Bool.true_and, cond_false, beq_dec]
    have e1 : stO D' t k o = stO D t k o := stO_congr fun i b us hi _ _ => hne i (by omega)
    rw [e1]
    by_cases e : k = a.block
    · simp [e]
    · have : ¬ a.block = k := fun h => e h.symm
      simp [e, this]
  | (T2, kd) :: p, h => by
    have ih := stO_upd (k := k) (o := o) (T := T) (a := a) (vs := vs) (t := t) hD hD' hne (p := p) fun j b us hj hs => h j b us hj (by
      simp only [List.cons_append, stAt]
      by_cases e : j = (p ++ (T, .s a vs) :: t).length
      · rw [e, stAt_ge (Nat.le_refl _)] at hs
        cases hs
      · rw [if_neg e]
        exact hs)
    cases kd with
    | s b us =>
      have hlt : t.length < (p ++ (T, .s a vs) :: t).length := by simp; omega
      have hb := h (p ++ (T, .s a vs) :: t).length b us hlt (by simp only [List.cons_append, stAt]; rw [if_pos trivial]; rfl)
      simp only [List.cons_append, stO]
      rw [hne _ (by omega), ih]
      cases hDj : D (p ++ (T, .s a vs) :: t).length with
      | false => simp
      | true =>
        simp only [Bool.true_and, beq_dec]
        by_cases e : k = a.block
        · by_cases e2 : b.block = k
          · simp only [e, if_true, show b.block = a.block from e2.trans e, decide_true, cond_true]
            exact putO_comm _ ((hb hDj (e2.trans e)).symm.imp id id)
          · simp only [e2, decide_false, cond_false]
        · simp only [e, if_false]
    | p v => exact ih
    | q v => exact ih
    | a ob v => exact ih
    | h v W1 => exact ih
theorem stO_shape {D : Nat → Bool} {k : Nat} : ∀ {rs : List Rc} {c : Array Value} {e : TypeId} {fz : Nat × Nat}, ∃ c', stO D rs k (.cells c e fz) = .cells c' e fz ∧ c'.size = c.size
  | [], c, e, fz => ⟨c, rfl, rfl⟩
  | (T, kd) :: rs, c, e, fz => by
    obtain ⟨c', h1, h2⟩ := stO_shape (D := D) (k := k) (rs := rs) (c := c) (e := e) (fz := fz)
    cases kd with
    | s a vs =>
      simp only [stO]
      cases (D rs.length && Nat.beq a.block k) with
      | false => exact ⟨c', h1, h2⟩
      | true =>
        rw [h1]
        exact ⟨_, rfl, by simp [putC_length, h2]⟩
    | p v => exact ⟨c', h1, h2⟩
    | q v => exact ⟨c', h1, h2⟩
    | a ob v => exact ⟨c', h1, h2⟩
    | h v W1 => exact ⟨c', h1, h2⟩
theorem stO_other {D : Nat → Bool} {k : Nat} {o : Obj} (h : isCells o = false) : ∀ {rs : List Rc}, stO D rs k o = o
  | [] => rfl
  | (T, kd) :: rs => by
    have ih := stO_other (D := D) (k := k) h (rs := rs)
    cases kd with
    | s a vs =>
      simp only [stO]
      rw [ih]
      have : putO o a.off vs = o := by
        cases o <;> first | rfl | cases h
      rw [this]
      cases (D rs.length && Nat.beq a.block k) <;> rfl
    | p v => exact ih
    | q v => exact ih
    | a ob v => exact ih
    | h v W1 => exact ih
theorem stO_cells {D : Nat → Bool} {k : Nat} {o : Obj} {c' : Array Value} {e : TypeId} {fz : Nat × Nat} {rs : List Rc} (h : stO D rs k o = .cells c' e fz) : ∃ c, o = .cells c e fz ∧ c.size = c'.size := by
  cases hc : isCells o with
  | false =>
    rw [stO_other hc] at h
    rw [h] at hc
    cases hc
  | true =>
    cases o with
    | cells c e0 fz0 =>
      obtain ⟨c2, h1, h2⟩ := stO_shape (D := D) (k := k) (rs := rs) (c := c) (e := e0) (fz := fz0)
      rw [h] at h1
      injection h1 with h3 h4 h5
      subst h3 h4 h5
      exact ⟨c, rfl, h2.symm⟩
    | _ => cases hc
theorem wAt_next (c : Cx) (older : List (Nat × AW)) (D : Nat → Bool) (rs : List Rc) : (wAt c older D rs).next = (curW c.W0 older).next ∧ (wAt c older D rs).ro = (curW c.W0 older).ro := by
  have h1 := stR_next (addR (curW c.W0 older) c.base D rs) (fun i => D i && aft older i) rs
  have h2 := addR_next (curW c.W0 older) c.base D rs
  exact ⟨h1.1.trans h2.1, h1.2.trans h2.2⟩
theorem get_wAt (c : Cx) (older : List (Nat × AW)) (D : Nat → Bool) (rs : List Rc) (k : Nat) : (wAt c older D rs).get k = ((addR (curW c.W0 older) c.base D rs).get k).map fun x => (stO (fun i => D i && aft older i) rs k x.1, x.2) := get_stR _ _ _ _
/-- A row of stores, one behind the other. -/
theorem arun_stores (P : Program) : ∀ (vs : List Value) (i : Nat) (W : AW) (a : Addr) (c : Array Value) (e : TypeId) (l : Bool), a.spot = none → W.get a.block = some (.cells c e (0, 0), l) → W.ro ≤ a.block → a.off + i + vs.length ≤ c.size → vs.all oneCell = true →
    ∃ W', arun P (storeCells a vs i) W = some ((), W') ∧ (∀ k, W'.get k = if k = a.block then some (.cells ⟨putC c.toList (a.off + i) vs⟩ e (0, 0), l) else W.get k) ∧ W'.next = W.next ∧ W'.ro = W.ro
  | [], i, W, a, c, e, l, _, hg, _, _, _ => ⟨W, rfl, fun k => by
    by_cases h : k = a.block
    · subst h; rw [if_pos rfl, hg]; rfl
    · rw [if_neg h], rfl, rfl⟩
  | v :: vs, i, W, a, c, e, l, hs, hg, hro, hlen, hone => by
    simp only [List.all_cons, Bool.and_eq_true] at hone
    simp only [List.length_cons] at hlen
    have hadd : a.add i = ⟨a.block, a.off + i, none⟩ := by
      obtain ⟨ab, ao, asp⟩ := a
      simp only at hs
      subst hs
      rw [Addr.add_lit]
    obtain ⟨W', h1, h2, h3, h4⟩ := arun_stores P vs (i + 1) (W.set a.block (some (.cells ⟨setL c.toList (a.off + i) v⟩ e (0, 0), l))) a ⟨setL c.toList (a.off + i) v⟩ e l hs (by rw [AW.get_set, if_pos rfl]) hro (by rw [setL_eq]; simp; omega) hone.2
    refine ⟨W', ?_, fun k => ?_, h3, h4⟩
    · show arun P (.store .plain (a.add i) v (storeCells a vs (i + 1))) W = _
      rw [hadd]
      simp only [arun, hone.1, Nat.ble_eq_true_of_le hro, hg]
      have hb : Nat.ble (a.off + i + 1) c.toList.length = true := Nat.ble_eq_true_of_le (by simp; omega)
      have hf : (Nat.ble 0 (a.off + i) && Nat.ble (a.off + i + 1) 0) = false := by
        cases hh : Nat.ble (a.off + i + 1) 0 with
        | false => simp
        | true => have := Nat.le_of_ble_eq_true hh; omega
      rw [hb, hf]
      exact h1
    · rw [h2 k]
      by_cases h : k = a.block
      · rw [if_pos h, if_pos h]
        rfl
      · rw [if_neg h, if_neg h, AW.get_set, if_neg h]

section
variable {P : Program} {r : Ren} {W W' : AW} {w : World}
theorem WR.congr (h : WR P r W w) (hg : ∀ k, W'.get k = W.get k) (hn : W'.next = W.next) : WR P r W' w :=
  ⟨fun k p hk => hn ▸ h.dom k p hk, fun k o l hk => h.live k o l ((hg k).symm.trans hk), fun j k b x y hj hk => h.inj j k b x y (by unfold AW.holds at *; rwa [← hg]) (by unfold AW.holds at *; rwa [← hg])⟩
theorem WR.sub (h : WR P r W w) (hg : ∀ k x, W'.get k = some x → W.get k = some x) (hn : W'.next = W.next) : WR P r W' w := by
  have hh : ∀ k, W'.holds k → W.holds k := fun k hk => by
    unfold AW.holds at *
    cases e : W'.get k with
    | none => exact absurd e hk
    | some x => rw [hg k x e]; simp
  exact ⟨fun k p hk => hn ▸ h.dom k p hk, fun k o l hk => h.live k o l (hg k _ hk), fun j k b x y hj hk => h.inj j k b x y (hh j hj) (hh k hk)⟩
theorem Fr.congr {r0 r1 : Ren} {W0 W1 W1' : AW} {w0 w1 : World} (h : Fr r0 W0 w0 r1 W1 w1) (hg : ∀ k, W1'.get k = W1.get k) (hn : W1'.next = W1.next) (hr : W1'.ro = W1.ro) : Fr r0 W0 w0 r1 W1' w1 :=
  ⟨h.le, hn ▸ h.next, hr.trans h.ro, h.os, h.tape, h.output, h.size, h.old, h.fresh, fun k hk h0 => (hg k).trans (h.dead k hk h0), fun k o ho => let ⟨o', h'⟩ := h.keep k o ho; ⟨o', (hg k).trans h'⟩, fun k b x hk => h.orig k b x (by unfold AW.holds at *; rwa [← hg])⟩
/-- A block made under a number that was kept for it. -/
theorem WR.newAt (h : WR P r W w) {k : Nat} (hr : r k = none) (hk : k < W.next) {o o' : Obj} (ho : OR P r 0 o o') : WR P (r.add k w.heap.size 0) (W.set k (some (o, false))) { w with heap := w.heap.push o' } := by
  have hle : r.le (r.add k w.heap.size 0) := Ren.le_add hr
  have old : ∀ i z c, i ≠ k → W.get i ≠ none → r.add k w.heap.size 0 i = some (c, z) → c < w.heap.size := fun i z c hi hg hr => by
    rw [Ren.add_ne _ hi] at hr
    cases hgi : W.get i with
    | none => exact absurd hgi hg
    | some p =>
      obtain ⟨o2, l2⟩ := p
      obtain ⟨o3, h3, _⟩ := h.blk hgi hr
      exact get_lt h3
  refine ⟨fun j p hj => ?_, fun j o1 l hj => ?_, fun i j b x y hi hj h1 h2 => ?_⟩
  · unfold Ren.add at hj
    by_cases e : j = k
    · subst e; exact hk
    · rw [if_neg e] at hj
      exact h.dom j p hj
  · rw [AW.get_set] at hj
    by_cases e : j = k
    · rw [if_pos e] at hj
      injection hj with hj
      injection hj with hj1 hj2
      subst hj1 hj2 e
      exact ⟨w.heap.size, 0, o', Ren.add_self _ _ _ _, by simp, ho.le hle, fun _ => rfl⟩
    · rw [if_neg e] at hj
      obtain ⟨b, x, o2, h1, h2, h3, h4⟩ := h.live j o1 l hj
      refine ⟨b, x, o2, (Ren.add_ne _ e).trans h1, ?_, h3.le hle, h4⟩
      have := get_lt h2
      simp only [Array.getElem?_push]
      rw [if_neg (by omega)]
      exact h2
  · unfold AW.holds at hi hj
    rw [AW.get_set] at hi hj
    by_cases e1 : i = k
    · by_cases e2 : j = k
      · rw [e1, e2]
      · rw [if_neg e2] at hj
        have := old j y b e2 hj h2
        rw [e1, Ren.add_self] at h1
        injection h1 with h1
        injection h1 with h1 _
        omega
    · rw [if_neg e1] at hi
      have h5 := old i x b e1 hi h1
      by_cases e2 : j = k
      · rw [e2, Ren.add_self] at h2
        injection h2 with h2
        injection h2 with h2 _
        omega
      · rw [if_neg e2] at hj
        rw [Ren.add_ne _ e1] at h1
        rw [Ren.add_ne _ e2] at h2
        exact h.inj i j b x y hi hj h1 h2
theorem Fr.newAt {r0 : Ren} {W0 : AW} {w0 : World} (f : Fr r0 W0 w0 r W w) {k : Nat} (hr : r k = none) (hk : W0.next ≤ k) (h0 : WR P r0 W0 w0) (o o' : Obj) : Fr r0 W0 w0 (r.add k w.heap.size 0) (W.set k (some (o, false))) { w with heap := w.heap.push o' } := by
  refine ⟨Ren.le_trans f.le (Ren.le_add hr), f.next, f.ro, f.os, f.tape, f.output, by have := f.size; simp; omega, fun b hb hn => ?_, fun j hj hr0 => ?_, fun j hj hg => ?_, fun j o1 hj => ?_, fun j b x hj hrj hb => ?_⟩
  · have := f.size
    simp only [Array.getElem?_push]
    rw [if_neg (by omega)]
    exact f.old b hb hn
  · rw [Ren.add_ne _ (by omega)]
    exact f.fresh j hj hr0
  · rw [AW.get_set, if_neg (by omega)]
    exact f.dead j hj hg
  · obtain ⟨b, x, _, h1, _⟩ := h0.live _ _ _ hj
    have := h0.dom _ _ h1
    rw [AW.get_set, if_neg (by omega)]
    exact f.keep j o1 hj
  · unfold AW.holds at hj
    rw [AW.get_set] at hj
    by_cases e : j = k
    · subst e
      rw [Ren.add_self] at hrj
      injection hrj with hrj
      injection hrj with hrj _
      have := f.size
      omega
    · rw [if_neg e] at hj
      rw [Ren.add_ne _ e] at hrj
      exact f.orig j b x hj hrj hb
end
end Go.Proofs.Ytkodblhompphjaa

namespace Go.Proofs.Ytkodblhompphjaa
open Go.RowKit

section
variable {P : Program} {r r1 : Ren} {B C Wa B' : AW} {w w1 : World}
theorem WR.heavy (h : WR P r B w) (sub : ∀ k x, C.get k = some x → B.get k = some x) (ha : WR P r1 Wa w1) (f : Fr r C w r1 Wa w1) (hn : B'.next = Wa.next)
    (hg : ∀ k x, B'.get k = some x → Wa.get k = some x ∨ (B.get k = some x ∧ C.get k = none)) : WR P r1 B' w1 := by
  have ext : ∀ k x, B.get k = some x → C.get k = none → ∃ b y, r k = some (b, y) ∧ b < w.heap.size ∧ w1.heap[b]? = w.heap[b]? := fun k x hk hc => by
    obtain ⟨o, l⟩ := x
    obtain ⟨b, y, o', h1, h2, _, _⟩ := h.live k o l hk
    refine ⟨b, y, h1, get_lt h2, f.old b (get_lt h2) fun j z hj _ hr => ?_⟩
    have hjB : B.holds j := by
      unfold AW.holds at hj ⊢
      cases e : C.get j with
      | none => exact absurd e hj
      | some q => rw [sub j q e]; simp
    have := h.inj j k b z y hjB (by unfold AW.holds; rw [hk]; simp) hr h1
    subst this
    unfold AW.holds at hj
    exact hj hc
  have mix : ∀ i j b x y q, Wa.holds i → B.get j = some q → C.get j = none → r1 i = some (b, x) → r1 j = some (b, y) → i = j := fun i j b x y q hi hj hc h1 h2 => by
    obtain ⟨b0, y0, k1, k2, _⟩ := ext j q hj hc
    have k3 := f.le _ _ k1
    rw [h2] at k3
    injection k3 with k3
    injection k3 with k3 k4
    subst k3 k4
    obtain ⟨i0, z, k5, k6, _⟩ := f.orig i b x hi h1 k2
    have hiB : B.holds i0 := by
      unfold AW.holds at k5 ⊢
      cases e : C.get i0 with
      | none => exact absurd e k5
      | some q => rw [sub i0 q e]; simp
    have := h.inj i0 j b z y hiB (by unfold AW.holds; rw [hj]; simp) k6 k1
    subst this
    unfold AW.holds at k5
    exact absurd hc k5
  have hold : ∀ k, B'.holds k → Wa.holds k ∨ ∃ q, B.get k = some q ∧ C.get k = none := fun k hk => by
    unfold AW.holds at hk
    cases e : B'.get k with
    | none => exact absurd e hk
    | some x =>
      rcases hg k x e with h1 | ⟨h1, h2⟩
      · exact .inl (by unfold AW.holds; rw [h1]; simp)
      · exact .inr ⟨x, h1, h2⟩
  refine ⟨fun k p hk => hn ▸ ha.dom k p hk, fun k o l hk => ?_, fun j k b x y hj hk h1 h2 => ?_⟩
  · rcases hg k _ hk with h1 | ⟨h1, h2⟩
    · exact ha.live k o l h1
    · obtain ⟨b, y, o', k1, k2, k3, k4⟩ := h.live k o l h1
      obtain ⟨b0, y0, e1, e2, e3⟩ := ext k _ h1 h2
      rw [k1] at e1
      injection e1 with e1
      injection e1 with e1 e4
      subst e1 e4
      exact ⟨b, y, o', f.le _ _ k1, e3.trans k2, k3.le f.le, k4⟩
  · rcases hold j hj with hj' | ⟨q, hj1, hj2⟩
    · rcases hold k hk with hk' | ⟨q2, hk1, hk2⟩
      · exact ha.inj j k b x y hj' hk' h1 h2
      · exact mix j k b x y q2 hj' hk1 hk2 h1 h2
    · rcases hold k hk with hk' | ⟨q2, hk1, hk2⟩
      · exact (mix k j b y x q hk' hj1 hj2 h2 h1).symm
      · obtain ⟨b1, y1, e1, e2, _⟩ := ext j q hj1 hj2
        obtain ⟨b2, y2, e3, e4, _⟩ := ext k q2 hk1 hk2
        have e5 := f.le _ _ e1
        have e6 := f.le _ _ e3
        rw [h1] at e5
        rw [h2] at e6
        injection e5 with e5
        injection e6 with e6
        injection e5 with e5 e7
        injection e6 with e6 e8
        subst e5 e6 e7 e8
        exact h.inj j k b x y (by unfold AW.holds; rw [hj1]; simp) (by unfold AW.holds; rw [hk1]; simp) e1 e3
theorem Fr.heavy {r0 : Ren} {Ws : AW} {w0 : World} (h0 : WR P r0 Ws w0) (hBw : WR P r B w) (g : Fr r0 Ws w0 r B w) (sub : ∀ k x, C.get k = some x → B.get k = some x) (hcn : C.next = B.next) (hcr : C.ro = B.ro) (f : Fr r C w r1 Wa w1) (hn : B'.next = Wa.next) (hr : B'.ro = Wa.ro)
    (hg : ∀ k x, B'.get k = some x → Wa.get k = some x ∨ (B.get k = some x ∧ C.get k = none)) (low : ∀ k, k < Ws.next → B'.get k = Wa.get k ∧ C.get k = B.get k) : Fr r0 Ws w0 r1 B' w1 := by
  have subh : ∀ k, C.holds k → B.holds k := fun k hk => by
    unfold AW.holds at hk ⊢
    cases e : C.get k with
    | none => exact absurd e hk
    | some q => rw [sub k q e]; simp
  refine ⟨Ren.le_trans g.le f.le, ?_, ?_, f.os.trans g.os, f.tape.trans g.tape, f.output.trans g.output, Nat.le_trans g.size f.size, fun b hb hno => ?_, fun k hk h1 => ?_, fun k hk h1 => ?_, fun k o hk => ?_, fun k b x hk h1 hb => ?_⟩
  · have := g.next
    have := f.next
    omega
  · rw [hr, f.ro, hcr, g.ro]
  · refine (f.old b (Nat.lt_of_lt_of_le hb g.size) fun k x hk hro hr1 => ?_).trans (g.old b hb hno)
    obtain ⟨j, y, h1, h2, h3⟩ := g.orig k b x (subh k hk) hr1 hb
    exact hno j y h1 (h3 (by rw [← g.ro, ← hcr]; exact hro)) h2
  · exact f.fresh k (by have := g.next; omega) (g.fresh k hk h1)
  · rw [(low k hk).1]
    refine f.dead k (by have := g.next; omega) ?_
    rw [(low k hk).2]
    exact g.dead k hk h1
  · obtain ⟨b, x, _, h1, _⟩ := h0.live _ _ _ hk
    have hlt := h0.dom _ _ h1
    obtain ⟨o', h2⟩ := g.keep k o hk
    rw [← (low k hlt).2] at h2
    obtain ⟨o2, h3⟩ := f.keep k o' h2
    exact ⟨o2, by rw [(low k hlt).1]; exact h3⟩
  · have hbw := Nat.lt_of_lt_of_le hb g.size
    have key : ∃ j y, B.holds j ∧ r j = some (b, y) ∧ (Ws.ro ≤ k → Ws.ro ≤ j) := by
      unfold AW.holds at hk
      cases e : B'.get k with
      | none => exact absurd e hk
      | some q =>
        rcases hg k q e with h2 | ⟨h2, h3⟩
        · obtain ⟨j, y, k1, k2, k3⟩ := f.orig k b x (by unfold AW.holds; rw [h2]; simp) h1 hbw
          exact ⟨j, y, subh j k1, k2, by rw [← g.ro, ← hcr]; exact k3⟩
        · obtain ⟨o, l⟩ := q
          have hB : B.holds k := by unfold AW.holds; rw [h2]; simp
          cases hrk : r k with
          | none =>
            obtain ⟨b', y', _, e2, _⟩ := hBw.live k o l h2
            rw [hrk] at e2
            cases e2
          | some p =>
            have := f.le _ _ hrk
            rw [h1] at this
            injection this with this
            subst this
            exact ⟨k, x, hB, hrk, id⟩
    obtain ⟨j, y, k1, k2, k3⟩ := key
    obtain ⟨i, z, k4, k5, k6⟩ := g.orig j b y k1 k2 hb
    exact ⟨i, z, k4, k5, fun h => k6 (k3 h)⟩
end

/-- What is offered of the temporaries of S alone. -/
def evS (gl : Nat) (T : Tb Value) (S : List Nat) : Operand → Option Value
  | .tmp t => if t ∈ S then some (tv T t) else none
  | x => aev gl T x
theorem EvR.ofS {gl : Nat} {r : Ren} {T : Tb Value} {S : List Nat} {a : Act} (tm : ∀ t ∈ S, VR r (tv T t) (a.tmps.getD t undef)) (gr : GR gl r) : EvR r (evS gl T S) a.eval := by
  intro x v hv
  cases x with
  | tmp t =>
    simp only [evS] at hv
    by_cases h : t ∈ S
    · rw [if_pos h] at hv
      injection hv with hv
      subst hv
      exact tm t h
    · rw [if_neg h] at hv
      cases hv
  | const c =>
    simp only [evS, aev] at hv
    cases hs : simple c with
    | true =>
      rw [hs] at hv
      injection hv with hv
      subst hv
      exact .simple hs
    | false => rw [hs] at hv; cases hv
  | global g =>
    simp only [evS, aev] at hv
    cases hs : Nat.ble (g + 1) gl with
    | true =>
      rw [hs] at hv
      injection hv with hv
      subst hv
      obtain ⟨x, hx⟩ := gr g (Nat.le_of_ble_eq_true hs)
      exact .ptr hx
    | false => rw [hs] at hv; cases hv
  | func f =>
    injection hv with hv
    subst hv
    exact .simple1 rfl
theorem evS_eq {gl : Nat} {T : Tb Value} {o : Oper} {ops : Array Oper} : ∀ x ∈ o.op.operands, aev gl T x = evS gl T (o.looksAt ops) x := by
  intro x hx
  cases x with
  | tmp t =>
    simp only [evS]
    rw [if_pos]
    · rfl
    · unfold Oper.looksAt
      rw [List.mem_append]
      left
      rw [List.mem_filterMap]
      exact ⟨.tmp t, by simpa using hx, rfl⟩
  | _ => rfl

theorem stOf_xop {E : Env} {ev : Operand → Option Value} {o : Oper} {a : Addr} {vs : List Value} (h : stOf E ev o = some (a, vs)) : xop E ev o = uN (storeCells a vs) := by
  unfold stOf at h
  unfold xop
  split at h
  · rename_i t x y hop
    rw [hop]
    dsimp only
    split at h
    · rename_i v u hv hu
      rw [hv, hu]
      dsimp only
      unfold xstore
      split at h
      · rename_i ad i had hi
        rw [had, hi]
        dsimp only
        cases hb : Nat.beq u.cells.toList.length i.size with
        | false => rw [hb] at h; cases h
        | true =>
          rw [hb] at h
          simp only [cond_true, Option.some.injEq, Prod.mk.injEq] at h
          obtain ⟨rfl, rfl⟩ := h
          rfl
      · cases h
    · cases h
  · cases h
theorem kdOf_spec {c : Cx} {o : Oper} {mj : Nat} {T : Tb Value} {rs : List Rc} {k : KdR} (e : kdOf c o mj T rs = some k) :
    (wantedA T c.N c.ol o = some false ∧ k = .p undef) ∨ (wantedA T c.N c.ol o = some true ∧
      ((∃ v, xop c.E (aev c.gl T) o = .pure (.value v) ∧ k = .p v) ∨
      (∃ ob f v, xop c.E (aev c.gl T) o = .new ob f ∧ f (c.base + rs.length) = .pure (.value v) ∧ k = .a ob v) ∨
      (∃ v, k = .q v) ∨
      (∃ a vs, xop c.E (aev c.gl T) o = uN (storeCells a vs) ∧ storeOk c mj rs a vs = true ∧ k = .s a vs) ∨
      (∃ v W1, astep c.E c.call (aev c.gl T) o (wAt c (hsOf rs) (Nat.testBit mj) rs) = some (v, W1) ∧ (∀ x ∈ hsOf rs, Nat.testBit mj x.1 = true) ∧ (∀ x ∈ stsOf rs, Nat.testBit mj x.1 = true ∧ Nat.lor (c.mk' x.1) mj = mj) ∧ k = .h v W1))) := by
  unfold kdOf at e
  split at e
  · cases e
  · rename_i hw
    injection e with e
    exact .inl ⟨hw, e.symm⟩
  · rename_i hw
    refine .inr ⟨hw, ?_⟩
    split at e
    · rename_i v _ _ hx
      injection e with e
      exact .inl ⟨v, hx, e.symm⟩
    · rename_i ob f _ _ hx
      split at e
      · rename_i v hf
        injection e with e
        exact .inr (.inl ⟨ob, f, v, hx, hf, e.symm⟩)
      · cases e
    · split at e
      · rename_i v hq
        injection e with e
        exact .inr (.inr (.inl ⟨v, e.symm⟩))
      · rename_i a vs hst _
        injection e with e
        refine .inr (.inr (.inr (.inl ?_)))
        cases h1 : appOf o.op with
        | some x => rw [h1] at hst; cases hst
        | none =>
          cases h2 : stOf c.E (aev c.gl T) o with
          | none => rw [h1, h2] at hst; cases hst
          | some p =>
            obtain ⟨b, us⟩ := p
            rw [h1, h2] at hst
            dsimp only at hst
            cases hb : storeOk c mj rs b us with
            | false => rw [hb] at hst; cases hst
            | true =>
              rw [hb] at hst
              simp only [cond_true, Option.some.injEq, Prod.mk.injEq] at hst
              obtain ⟨rfl, rfl⟩ := hst
              exact ⟨b, us, stOf_xop h2, hb, e.symm⟩
      · cases hall : (((hsOf rs).all fun x => Nat.testBit mj x.1) && ((stsOf rs).all fun x => Nat.testBit mj x.1 && Nat.beq (Nat.lor (c.mk' x.1) mj) mj)) with
        | false => rw [hall] at e; cases e
        | true =>
          rw [hall] at e
          simp only [cond_true] at e
          rw [Bool.and_eq_true, List.all_eq_true, List.all_eq_true] at hall
          split at e
          · rename_i v W1 hst
            injection e with e
            refine .inr (.inr (.inr (.inr ⟨v, W1, hst, hall.1, fun x hx => ?_, e.symm⟩)))
            have := hall.2 x hx
            rw [Bool.and_eq_true] at this
            exact ⟨this.1, Nat.eq_of_beq_eq_true this.2⟩
          · cases e
theorem qall_spec {c : Cx} {full : List Rc} {T : Tb Value} {v : Value} {t : List Rc} {o : Oper} (ho : c.ol[t.length]? = some o) : ∀ {p : List Rc}, qall c full (p ++ (T, .q v) :: t) = true → qwin c full t.length (xop c.E (aev c.gl T) o) v (hsOf full) = true
  | [], h => by
    simp only [List.nil_append, qall, Bool.and_eq_true] at h
    have := h.1
    rw [nthL_eq, ho] at this
    exact this
  | (T2, .q v2) :: p, h => by
    simp only [List.cons_append, qall, Bool.and_eq_true] at h
    exact qall_spec ho h.2
  | (T2, .p v2) :: p, h => qall_spec ho (p := p) h
  | (T2, .a _ v2) :: p, h => qall_spec ho (p := p) h
  | (T2, .h _ v2) :: p, h => qall_spec ho (p := p) h
  | (T2, .s _ v2) :: p, h => qall_spec ho (p := p) h
theorem qwin_spec {c : Cx} {rs : List Rc} {j : Nat} {s : Sem Next} {v : Value} {older : List (Nat × AW)} (h2 : ∀ x ∈ older, Nat.testBit (c.mk' x.1) j = false) : ∀ {newer : List (Nat × AW)}, (∀ x ∈ newer, Nat.testBit (c.mk' j) x.1 = false) → qwin c rs j s v (newer ++ older) = true → qat c s v (poi c.mk' j (wAt c older (Nat.testBit (c.mk' j)) rs) (stsOf rs)) = true
  | [], _, h => by
    rw [List.nil_append] at h
    cases older with
    | nil => exact h
    | cons x l =>
      obtain ⟨hh, W⟩ := x
      simp only [qwin, Bool.and_eq_true] at h
      have h3 : (((hh, W) :: l).any fun x => Nat.testBit (c.mk' x.1) j) = false := by
        rw [List.any_eq_false]
        intro x hx
        rw [h2 x hx]
        simp
      rw [h3, Bool.false_or] at h
      exact h.1
  | (hh, W) :: newer, h1, h => by
    simp only [List.cons_append, qwin, Bool.and_eq_true] at h
    have := h.2
    rw [h1 _ List.mem_cons_self] at this
    exact qwin_spec h2 (fun x hx => h1 x (List.mem_cons_of_mem _ hx)) this

def upd (D : Nat → Bool) (i : Nat) : Nat → Bool := fun x => (x == i) || D x
theorem upd_self (D : Nat → Bool) (i : Nat) : upd D i i = true := by simp [upd]
theorem upd_ne {D : Nat → Bool} {i x : Nat} (h : x ≠ i) : upd D i x = D x := by simp [upd, h]
theorem tvD_upd {c : Cx} {T0 : Tb Value} {D : Nat → Bool} {p t : List Rc} {T : Tb Value} {k : KdR} {u : Nat} (ho : dstAt c t.length u = true → ∀ i, t.length < i → dstAt c i u = true → D i = false) :
    tvD c T0 (upd D t.length) (p ++ (T, k) :: t) u = cond (dstAt c t.length u) k.val (tvD c T0 D (p ++ (T, k) :: t) u) := by
  cases hd : dstAt c t.length u with
  | true =>
    rw [tvD_app fun i h1 h2 h3 => by
      simp only [List.length_cons] at h1
      rw [upd_ne (by omega)]
      exact ho hd i (by omega) h3]
    simp only [tvD, upd_self, hd, Bool.and_self, cond_true]
  | false =>
    simp only [cond_false]
    refine tvD_congr fun i _ hi => ?_
    exact upd_ne fun e => by rw [e, hd] at hi; cases hi
/-- How many are left. -/
def unl (l : Array Bool) : Nat → Nat
  | 0 => 0
  | k + 1 => unl l k + (if l.getD k false = true then 0 else 1)
theorem unl_zero {l : Array Bool} : ∀ {n : Nat}, unl l n = 0 → ∀ i, i < n → l.getD i false = true
  | n + 1, h, i, hi => by
    simp only [unl] at h
    by_cases e : i = n
    · subst e
      by_cases h2 : l.getD i false = true
      · exact h2
      · rw [if_neg h2] at h; omega
    · exact unl_zero (l := l) (n := n) (by omega) i (by omega)
theorem getD_set (l : Array Bool) {i : Nat} (hi : i < l.size) (x : Nat) : (l.setIfInBounds i true).getD x false = upd (fun x => l.getD x false) i x := by
  unfold upd
  by_cases e : x = i
  · subst e
    simp [Array.getD_eq_getD_getElem?, hi]
  · simp [Array.getD_eq_getD_getElem?, Array.getElem?_setIfInBounds_ne (Ne.symm e), e]
theorem unl_set {l : Array Bool} {i : Nat} (hi : i < l.size) (hu : l.getD i false = false) : ∀ (n : Nat), unl (l.setIfInBounds i true) n + (if i < n then 1 else 0) = unl l n
  | 0 => rfl
  | n + 1 => by
    have ih := unl_set hi hu n
    simp only [unl, getD_set l hi]
    by_cases e : n = i
    · subst e
      rw [upd_self, hu]
      simp at ih ⊢
      omega
    · rw [upd_ne e]
      by_cases h1 : i < n
      · simp only [h1, if_true] at ih
        simp only [show i < n + 1 by omega, if_true]
        omega
      · simp only [h1, if_false] at ih
        simp only [show ¬ i < n + 1 by omega, if_false]
        omega
theorem unl_all {n : Nat} : ∀ k, unl (Array.replicate n false) k = k
  | 0 => rfl
  | k + 1 => by
    simp only [unl, unl_all k]
    rw [if_neg]
    by_cases h : k < n <;> simp [Array.getD_eq_getD_getElem?, h]
end Go.Proofs.Ytkodblhompphjaa
