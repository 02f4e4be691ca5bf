/-
  Running a program by reckoning, 17: a drawn region comes to what its text's order comes to.
  Nothing here speaks of the program.
-/
import Derived.Test.YtihlhmphgjlngaaEg
namespace Go.Proofs.Ytihlhmphgjlngaa
open Go.RowKit

section
variable {P : Program} {r r1 : Ren} {B C Wa B' : AW} {w w1 : World}
theorem WR.heavy (h : WR P r B w) (sub : ∀ k x, C.get k = some x → B.get k = some x) (ha : WR P r1 Wa w1) (f : Fr r C w r1 Wa w1) (hn : B'.next = Wa.next)
    (hg : ∀ k x, B'.get k = some x → Wa.get k = some x ∨ (B.get k = some x ∧ C.get k = none)) : WR P r1 B' w1 := by
  have ext : ∀ k x, B.get k = some x → C.get k = none → ∃ b y, r k = some (b, y) ∧ b < w.heap.size ∧ w1.heap[b]? = w.heap[b]? := fun k x hk hc => by
    obtain ⟨o, l⟩ := x
    obtain ⟨b, y, o', h1, h2, _, _⟩ := h.live k o l hk
    refine ⟨b, y, h1, get_lt h2, f.old b (get_lt h2) fun j z hj _ hr => ?_⟩
    have hjB : B.holds j := by
      unfold AW.holds at hj ⊢
      cases e : C.get j with
      | none => exact absurd e hj
      | some q => rw [sub j q e]; simp
    have := h.inj j k b z y hjB (by unfold AW.holds; rw [hk]; simp) hr h1
    subst this
    unfold AW.holds at hj
    exact hj hc
  have mix : ∀ i j b x y q, Wa.holds i → B.get j = some q → C.get j = none → r1 i = some (b, x) → r1 j = some (b, y) → i = j := fun i j b x y q hi hj hc h1 h2 => by
    obtain ⟨b0, y0, k1, k2, _⟩ := ext j q hj hc
    have k3 := f.le _ _ k1
    rw [h2] at k3
    injection k3 with k3
    injection k3 with k3 k4
    subst k3 k4
    obtain ⟨i0, z, k5, k6, _⟩ := f.orig i b x hi h1 k2
    have hiB : B.holds i0 := by
      unfold AW.holds at k5 ⊢
      cases e : C.get i0 with
      | none => exact absurd e k5
      | some q => rw [sub i0 q e]; simp
    have := h.inj i0 j b z y hiB (by unfold AW.holds; rw [hj]; simp) k6 k1
    subst this
    unfold AW.holds at k5
    exact absurd hc k5
  have hold : ∀ k, B'.holds k → Wa.holds k ∨ ∃ q, B.get k = some q ∧ C.get k = none := fun k hk => by
    unfold AW.holds at hk
    cases e : B'.get k with
    | none => exact absurd e hk
    | some x =>
      rcases hg k x e with h1 | ⟨h1, h2⟩
      · exact .inl (by unfold AW.holds; rw [h1]; simp)
      · exact .inr ⟨x, h1, h2⟩
  refine ⟨fun k p hk => hn ▸ ha.dom k p hk, fun k o l hk => ?_, fun j k b x y hj hk h1 h2 => ?_⟩
  · rcases hg k _ hk with h1 | ⟨h1, h2⟩
    · exact ha.live k o l h1
    · obtain ⟨b, y, o', k1, k2, k3, k4⟩ := h.live k o l h1
      obtain ⟨b0, y0, e1, e2, e3⟩ := ext k _ h1 h2
      rw [k1] at e1
      injection e1 with e1
      injection e1 with e1 e4
      subst e1 e4
      exact ⟨b, y, o', f.le _ _ k1, e3.trans k2, k3.le f.le, k4⟩
  · rcases hold j hj with hj' | ⟨q, hj1, hj2⟩
    · rcases hold k hk with hk' | ⟨q2, hk1, hk2⟩
      · exact ha.inj j k b x y hj' hk' h1 h2
      · exact mix j k b x y q2 hj' hk1 hk2 h1 h2
    · rcases hold k hk with hk' | ⟨q2, hk1, hk2⟩
      · exact (mix k j b y x q hk' hj1 hj2 h2 h1).symm
      · obtain ⟨b1, y1, e1, e2, _⟩ := ext j q hj1 hj2
        obtain ⟨b2, y2, e3, e4, _⟩ := ext k q2 hk1 hk2
        have e5 := f.le _ _ e1
        have e6 := f.le _ _ e3
        rw [h1] at e5
        rw [h2] at e6
        injection e5 with e5
        injection e6 with e6
        injection e5 with e5 e7
        injection e6 with e6 e8
        subst e5 e6 e7 e8
        exact h.inj j k b x y (by unfold AW.holds; rw [hj1]; simp) (by unfold AW.holds; rw [hk1]; simp) e1 e3
theorem Fr.heavy {r0 : Ren} {Ws : AW} {w0 : World} (h0 : WR P r0 Ws w0) (hBw : WR P r B w) (g : Fr r0 Ws w0 r B w) (sub : ∀ k x, C.get k = some x → B.get k = some x) (hcn : C.next = B.next) (hcr : C.ro = B.ro) (f : Fr r C w r1 Wa w1) (hn : B'.next = Wa.next) (hr : B'.ro = Wa.ro)
    (hg : ∀ k x, B'.get k = some x → Wa.get k = some x ∨ (B.get k = some x ∧ C.get k = none)) (low : ∀ k, k < Ws.next → B'.get k = Wa.get k ∧ C.get k = B.get k) : Fr r0 Ws w0 r1 B' w1 := by
  have subh : ∀ k, C.holds k → B.holds k := fun k hk => by
    unfold AW.holds at hk ⊢
    cases e : C.get k with
    | none => exact absurd e hk
    | some q => rw [sub k q e]; simp
  refine ⟨Ren.le_trans g.le f.le, ?_, ?_, f.os.trans g.os, f.tape.trans g.tape, f.output.trans g.output, Nat.le_trans g.size f.size, fun b hb hno => ?_, fun k hk h1 => ?_, fun k hk h1 => ?_, fun k o hk => ?_, fun k b x hk h1 hb => ?_⟩
  · have := g.next
    have := f.next
    omega
  · rw [hr, f.ro, hcr, g.ro]
  · refine (f.old b (Nat.lt_of_lt_of_le hb g.size) fun k x hk hro hr1 => ?_).trans (g.old b hb hno)
    obtain ⟨j, y, h1, h2, h3⟩ := g.orig k b x (subh k hk) hr1 hb
    exact hno j y h1 (h3 (by rw [← g.ro, ← hcr]; exact hro)) h2
  · exact f.fresh k (by have := g.next; omega) (g.fresh k hk h1)
  · rw [(low k hk).1]
    refine f.dead k (by have := g.next; omega) ?_
    rw [(low k hk).2]
    exact g.dead k hk h1
  · obtain ⟨b, x, _, h1, _⟩ := h0.live _ _ _ hk
    have hlt := h0.dom _ _ h1
    obtain ⟨o', h2⟩ := g.keep k o hk
    rw [← (low k hlt).2] at h2
    obtain ⟨o2, h3⟩ := f.keep k o' h2
    exact ⟨o2, by rw [(low k hlt).1]; exact h3⟩
  · have hbw := Nat.lt_of_lt_of_le hb g.size
    have key : ∃ j y, B.holds j ∧ r j = some (b, y) ∧ (Ws.ro ≤ k → Ws.ro ≤ j) := by
      unfold AW.holds at hk
      cases e : B'.get k with
      | none => exact absurd e hk
      | some q =>
        rcases hg k q e with h2 | ⟨h2, h3⟩
        · obtain ⟨j, y, k1, k2, k3⟩ := f.orig k b x (by unfold AW.holds; rw [h2]; simp) h1 hbw
          exact ⟨j, y, subh j k1, k2, by rw [← g.ro, ← hcr]; exact k3⟩
        · obtain ⟨o, l⟩ := q
          have hB : B.holds k := by unfold AW.holds; rw [h2]; simp
          cases hrk : r k with
          | none =>
            obtain ⟨b', y', _, e2, _⟩ := hBw.live k o l h2
            rw [hrk] at e2
            cases e2
          | some p =>
            have := f.le _ _ hrk
            rw [h1] at this
            injection this with this
            subst this
            exact ⟨k, x, hB, hrk, id⟩
    obtain ⟨j, y, k1, k2, k3⟩ := key
    obtain ⟨i, z, k4, k5, k6⟩ := g.orig j b y k1 k2 hb
    exact ⟨i, z, k4, k5, fun h => k6 (k3 h)⟩
end

/-- What is offered of the temporaries of S alone. -/
def evS (gl : Nat) (T : Tb Value) (S : List Nat) : Operand → Option Value
  | .tmp t => if t ∈ S then some (tv T t) else none
  | x => aev gl T x
theorem EvR.ofS {gl : Nat} {r : Ren} {T : Tb Value} {S : List Nat} {a : Act} (tm : ∀ t ∈ S, VR r (tv T t) (a.tmps.getD t undef)) (gr : GR gl r) : EvR r (evS gl T S) a.eval := by
  intro x v hv
  cases x with
  | tmp t =>
    simp only [evS] at hv
    by_cases h : t ∈ S
    · rw [if_pos h] at hv
      injection hv with hv
      subst hv
      exact tm t h
    · rw [if_neg h] at hv
      cases hv
  | const c =>
    simp only [evS, aev] at hv
    cases hs : simple c with
    | true =>
      rw [hs] at hv
      injection hv with hv
      subst hv
      exact .simple hs
    | false => rw [hs] at hv; cases hv
  | global g =>
    simp only [evS, aev] at hv
    cases hs : Nat.ble (g + 1) gl with
    | true =>
      rw [hs] at hv
      injection hv with hv
      subst hv
      obtain ⟨x, hx⟩ := gr g (Nat.le_of_ble_eq_true hs)
      exact .ptr hx
    | false => rw [hs] at hv; cases hv
  | func f =>
    injection hv with hv
    subst hv
    exact .simple1 rfl
theorem evS_eq {gl : Nat} {T : Tb Value} {o : Oper} {ops : Array Oper} : ∀ x ∈ o.op.operands, aev gl T x = evS gl T (o.looksAt ops) x := by
  intro x hx
  cases x with
  | tmp t =>
    simp only [evS]
    rw [if_pos]
    · rfl
    · unfold Oper.looksAt
      rw [List.mem_append]
      left
      rw [List.mem_filterMap]
      exact ⟨.tmp t, by simpa using hx, rfl⟩
  | _ => rfl

theorem stOf_xop {E : Env} {ev : Operand → Option Value} {o : Oper} {a : Addr} {vs : List Value} (h : stOf E ev o = some (a, vs)) : xop E ev o = uN (storeCells a vs) := by
  unfold stOf at h
  unfold xop
  split at h
  · rename_i t x y hop
    rw [hop]
    dsimp only
    split at h
    · rename_i v u hv hu
      rw [hv, hu]
      dsimp only
      unfold xstore
      split at h
      · rename_i ad i had hi
        rw [had, hi]
        dsimp only
        cases hb : Nat.beq u.cells.toList.length i.size with
        | false => rw [hb] at h; cases h
        | true =>
          rw [hb] at h
          simp only [cond_true, Option.some.injEq, Prod.mk.injEq] at h
          obtain ⟨rfl, rfl⟩ := h
          rfl
      · cases h
    · cases h
  · cases h
theorem kdOf_spec {c : Cx} {o : Oper} {mj : Nat} {T : Tb Value} {rs : List Rc} {k : KdR} (e : kdOf c o mj T rs = some k) :
    (wantedA T c.N c.ol o = some false ∧ k = .p undef) ∨ (wantedA T c.N c.ol o = some true ∧
      ((∃ v, xop c.E (aev c.gl T) o = .pure (.value v) ∧ k = .p v) ∨
      (∃ ob f v, xop c.E (aev c.gl T) o = .new ob f ∧ f (c.base + rs.length) = .pure (.value v) ∧ k = .a ob v) ∨
      (∃ v, k = .q v) ∨
      (∃ a vs, xop c.E (aev c.gl T) o = uN (storeCells a vs) ∧ storeOk c mj rs a vs = true ∧ k = .s a vs) ∨
      (∃ v W1, astep c.E c.call (aev c.gl T) o (wAt c (hsOf rs) (Nat.testBit mj) rs) = some (v, W1) ∧ (∀ x ∈ hsOf rs, Nat.testBit mj x.1 = true) ∧ (∀ x ∈ stsOf rs, Nat.testBit mj x.1 = true ∧ Nat.lor (c.mk' x.1) mj = mj) ∧ k = .h v W1))) := by
  unfold kdOf at e
  split at e
  · cases e
  · rename_i hw
    injection e with e
    exact .inl ⟨hw, e.symm⟩
  · rename_i hw
    refine .inr ⟨hw, ?_⟩
    split at e
    · rename_i v _ _ hx
      injection e with e
      exact .inl ⟨v, hx, e.symm⟩
    · rename_i ob f _ _ hx
      split at e
      · rename_i v hf
        injection e with e
        exact .inr (.inl ⟨ob, f, v, hx, hf, e.symm⟩)
      · cases e
    · split at e
      · rename_i v hq
        injection e with e
        exact .inr (.inr (.inl ⟨v, e.symm⟩))
      · rename_i a vs hst _
        injection e with e
        refine .inr (.inr (.inr (.inl ?_)))
        cases h1 : appOf o.op with
        | some x => rw [h1] at hst; cases hst
        | none =>
          cases h2 : stOf c.E (aev c.gl T) o with
          | none => rw [h1, h2] at hst; cases hst
          | some p =>
            obtain ⟨b, us⟩ := p
            rw [h1, h2] at hst
            dsimp only at hst
            cases hb : storeOk c mj rs b us with
            | false => rw [hb] at hst; cases hst
            | true =>
              rw [hb] at hst
              simp only [cond_true, Option.some.injEq, Prod.mk.injEq] at hst
              obtain ⟨rfl, rfl⟩ := hst
              exact ⟨b, us, stOf_xop h2, hb, e.symm⟩
      · cases hall : (((hsOf rs).all fun x => Nat.testBit mj x.1) && ((stsOf rs).all fun x => Nat.testBit mj x.1 && Nat.beq (Nat.lor (c.mk' x.1) mj) mj)) with
        | false => rw [hall] at e; cases e
        | true =>
          rw [hall] at e
          simp only [cond_true] at e
          rw [Bool.and_eq_true, List.all_eq_true, List.all_eq_true] at hall
          split at e
          · rename_i v W1 hst
            injection e with e
            refine .inr (.inr (.inr (.inr ⟨v, W1, hst, hall.1, fun x hx => ?_, e.symm⟩)))
            have := hall.2 x hx
            rw [Bool.and_eq_true] at this
            exact ⟨this.1, Nat.eq_of_beq_eq_true this.2⟩
          · cases e
theorem qall_spec {c : Cx} {full : List Rc} {T : Tb Value} {v : Value} {t : List Rc} {o : Oper} (ho : c.ol[t.length]? = some o) : ∀ {p : List Rc}, qall c full (p ++ (T, .q v) :: t) = true → qwin c full t.length (xop c.E (aev c.gl T) o) v (hsOf full) = true
  | [], h => by
    simp only [List.nil_append, qall, Bool.and_eq_true] at h
    have := h.1
    rw [nthL_eq, ho] at this
    exact this
  | (T2, .q v2) :: p, h => by
    simp only [List.cons_append, qall, Bool.and_eq_true] at h
    exact qall_spec ho h.2
  | (T2, .p v2) :: p, h => qall_spec ho (p := p) h
  | (T2, .a _ v2) :: p, h => qall_spec ho (p := p) h
  | (T2, .h _ v2) :: p, h => qall_spec ho (p := p) h
  | (T2, .s _ v2) :: p, h => qall_spec ho (p := p) h
theorem qwin_spec {c : Cx} {rs : List Rc} {j : Nat} {s : Sem Next} {v : Value} {older : List (Nat × AW)} (h2 : ∀ x ∈ older, Nat.testBit (c.mk' x.1) j = false) : ∀ {newer : List (Nat × AW)}, (∀ x ∈ newer, Nat.testBit (c.mk' j) x.1 = false) → qwin c rs j s v (newer ++ older) = true → qat c s v (poi c.mk' j (wAt c older (Nat.testBit (c.mk' j)) rs) (stsOf rs)) = true
  | [], _, h => by
    rw [List.nil_append] at h
    cases older with
    | nil => exact h
    | cons x l =>
      obtain ⟨hh, W⟩ := x
      simp only [qwin, Bool.and_eq_true] at h
      have h3 : (((hh, W) :: l).any fun x => Nat.testBit (c.mk' x.1) j) = false := by
        rw [List.any_eq_false]
        intro x hx
        rw [h2 x hx]
        simp
      rw [h3, Bool.false_or] at h
      exact h.1
  | (hh, W) :: newer, h1, h => by
    simp only [List.cons_append, qwin, Bool.and_eq_true] at h
    have := h.2
    rw [h1 _ List.mem_cons_self] at this
    exact qwin_spec h2 (fun x hx => h1 x (List.mem_cons_of_mem _ hx)) this

def upd (D : Nat → Bool) (i : Nat) : Nat → Bool := fun x => (x == i) || D x
theorem upd_self (D : Nat → Bool) (i : Nat) : upd D i i = true := by simp [upd]
theorem upd_ne {D : Nat → Bool} {i x : Nat} (h : x ≠ i) : upd D i x = D x := by simp [upd, h]
theorem tvD_upd {c : Cx} {T0 : Tb Value} {D : Nat → Bool} {p t : List Rc} {T : Tb Value} {k : KdR} {u : Nat} (ho : dstAt c t.length u = true → ∀ i, t.length < i → dstAt c i u = true → D i = false) :
    tvD c T0 (upd D t.length) (p ++ (T, k) :: t) u = cond (dstAt c t.length u) k.val (tvD c T0 D (p ++ (T, k) :: t) u) := by
  cases hd : dstAt c t.length u with
  | true =>
    rw [tvD_app fun i h1 h2 h3 => by
      simp only [List.length_cons] at h1
      rw [upd_ne (by omega)]
      exact ho hd i (by omega) h3]
    simp only [tvD, upd_self, hd, Bool.and_self, cond_true]
  | false =>
    simp only [cond_false]
    refine tvD_congr fun i _ hi => ?_
    exact upd_ne fun e => by rw [e, hd] at hi; cases hi
/-- How many are left. -/
def unl (l : Array Bool) : Nat → Nat
  | 0 => 0
  | k + 1 => unl l k + (if l.getD k false = true then 0 else 1)
theorem unl_zero {l : Array Bool} : ∀ {n : Nat}, unl l n = 0 → ∀ i, i < n → l.getD i false = true
  | n + 1, h, i, hi => by
    simp only [unl] at h
    by_cases e : i = n
    · subst e
      by_cases h2 : l.getD i false = true
      · exact h2
      · rw [if_neg h2] at h; omega
    · exact unl_zero (l := l) (n := n) (by omega) i (by omega)
theorem getD_set (l : Array Bool) {i : Nat} (hi : i < l.size) (x : Nat) : (l.setIfInBounds i true).getD x false = upd (fun x => l.getD x false) i x := by
  unfold upd
  by_cases e : x = i
  · subst e
    simp [Array.getD_eq_getD_getElem?, hi]
  · simp [Array.getD_eq_getD_getElem?, Array.getElem?_setIfInBounds_ne (Ne.symm e), e]
theorem unl_set {l : Array Bool} {i : Nat} (hi : i < l.size) (hu : l.getD i false = false) : ∀ (n : Nat), unl (l.setIfInBounds i true) n + (if i < n then 1 else 0) = unl l n
  | 0 => rfl
  | n + 1 => by
    have ih := unl_set hi hu n
    simp only [unl, getD_set l hi]
    by_cases e : n = i
    · subst e
      rw [upd_self, hu]
      simp at ih ⊢
      omega
    · rw [upd_ne e]
      by_cases h1 : i < n
      · simp only [h1, if_true] at ih
        simp only [show i < n + 1 by omega, if_true]
        omega
      · simp only [h1, if_false] at ih
        simp only [show ¬ i < n + 1 by omega, if_false]
        omega
theorem unl_all {n : Nat} : ∀ k, unl (Array.replicate n false) k = k
  | 0 => rfl
  | k + 1 => by
    simp only [unl, unl_all k]
    rw [if_neg]
    by_cases h : k < n <;> simp [Array.getD_eq_getD_getElem?, h]
end Go.Proofs.Ytihlhmphgjlngaa
