/-
  Running a program by reckoning, 14: a region in whatever order: what only reads, what only makes memory; who goes before whom.
  Nothing here speaks of the program.
-/
import Derived.Test.YtihlhmphgjlngaaEd
import Derived.Orders
namespace Go.Proofs.Ytihlhmphgjlngaa
open Go.RowKit

/-- A run that only reads. -/
def arunQ (P : Program) {α : Type} : Sem α → AW → Option α
  | .pure a, _ => some a
  | .load _ a k, W =>
    match a.spot, W.get a.block with
    | none, some (.cells c _ _, _) =>
      match nthL c.toList a.off with
      | some v => arunQ P (k v) W
      | none => none
    | _, _ => none
  | .shape b k, W =>
    match W.get b with
    | some (.cells c e _, false) => arunQ P (k (some (e, c.size))) W
    | some (.stringIter _ _, _) => arunQ P (k none) W
    | _ => none
  | .frozen a k, W =>
    match W.get a.block with
    | some (.cells _ _ (lo, hi), _) => arunQ P (k (decide (lo ≤ a.off) && decide (a.off < hi))) W
    | _ => none
  | .program k, W => arunQ P (k P) W
  | .mark _ k, W => arunQ P k W
  | _, _ => none
theorem arunQ_arun (P : Program) {α : Type} (s : Sem α) (W : AW) (a : α) (h : arunQ P s W = some a) : arun P s W = some (a, W) := by
  induction s with
  | pure b => simp only [arunQ, Option.some.injEq] at h; subst h; rfl
  | load m a k ih =>
    simp only [arunQ] at h
    simp only [arun]
    split at h
    · rename_i hsp hg
      split at h
      · rename_i hv
        simp only [hsp, hg, hv]
        exact ih _ h
      · cases h
    · cases h
  | shape b k ih =>
    simp only [arunQ] at h
    simp only [arun]
    split at h
    · rename_i hg
      simp only [hg]
      exact ih _ h
    · rename_i hg
      simp only [hg]
      exact ih _ h
    · cases h
  | frozen b k ih =>
    simp only [arunQ] at h
    simp only [arun]
    split at h
    · rename_i hg
      simp only [hg]
      exact ih _ h
    · cases h
  | program k ih => exact ih _ h
  | mark m k ih => exact ih h
  | _ => cases h
theorem SemR.runQ {P : Program} {α β : Type} {R : Ren → α → β → Prop} {r : Ren} {s : Sem α} {s' : Sem β} (h : SemR P R r s s') : ∀ (W : AW) (w : World), WR P r W w → ∀ (a : α), arunQ P s W = some a → ∃ b, s'.run P w = .ok b w ∧ R r a b := by
  induction h with
  | pure h =>
    intro W w hw a e
    simp only [arunQ, Option.some.injEq] at e
    subst e
    exact ⟨_, rfl, h⟩
  | @load r m a a' k k' ha _ ih =>
    intro W w hw x e
    obtain ⟨b', y, h1, rfl⟩ := ha
    obtain ⟨ab, ao, asp⟩ := a
    simp only [arunQ] at e
    split at e
    · rename_i c ce fz l hg
      simp only at hg h1
      rw [nthL_eq] at e
      split at e
      · rename_i v hv
        obtain ⟨o', h2, h3, _⟩ := hw.blk hg h1
        cases h3 with
        | cells h4 h5 =>
          obtain ⟨v', h6, h7⟩ := h5 ao v (by simpa using hv)
          obtain ⟨b, h8, h9⟩ := ih r v v' (Ren.le_refl r) h7 W w hw x e
          refine ⟨b, ?_, h9⟩
          simp only [Sem.run]
          rw [cell_of h2 h6]
          exact h8
      · cases e
    · cases e
  | store => intro W w hw x e; cases e
  | new => intro W w hw x e; cases e
  | @shape r b b' x k k' hb _ ih =>
    intro W w hw y e
    simp only [arunQ] at e
    split at e
    · rename_i c ce fz hg
      obtain ⟨o', h2, h3, h4⟩ := hw.blk hg hb
      have h0 := h4 rfl
      subst h0
      cases h3 with
      | @cells _ c' _ _ h5 _ =>
        obtain ⟨b, h8, h9⟩ := ih (some (ce, c.size)) W w hw y e
        refine ⟨b, ?_, h9⟩
        simp only [Sem.run, World.shape?, h2]
        rw [show c'.size = c.size by omega]
        exact h8
    · rename_i s p l hg
      obtain ⟨o', h2, h3, h4⟩ := hw.blk hg hb
      cases h3
      obtain ⟨b, h8, h9⟩ := ih none W w hw y e
      refine ⟨b, ?_, h9⟩
      simp only [Sem.run, World.shape?, h2]
      exact h8
    · cases e
  | @frozen r a a' k k' ha _ ih =>
    intro W w hw y e
    obtain ⟨b', z, h1, rfl⟩ := ha
    obtain ⟨ab, ao, asp⟩ := a
    simp only [arunQ] at e
    split at e
    · rename_i c ce lo hi l hg
      obtain ⟨o', h2, h3, _⟩ := hw.blk hg h1
      cases h3 with
      | @cells _ c' _ _ h5 _ =>
        obtain ⟨b, h8, h9⟩ := ih (decide (lo ≤ ao) && decide (ao < hi)) W w hw y e
        refine ⟨b, ?_, h9⟩
        simp only [Sem.run, World.frozen?, h2]
        exact h8
    · cases e
  | getObj => intro W w hw x e; cases e
  | setObj => intro W w hw x e; cases e
  | choose => intro W w hw x e; cases e
  | chooseNo => intro W w hw x e; cases e
  | program _ ih => intro W w hw y e; exact ih W w hw y e
  | mark _ ih => intro W w hw y e; exact ih W w hw y e
  | programR _ ih => intro W w hw y e; exact ih W w hw y e
  | markR _ ih => intro W w hw y e; exact ih W w hw y e
  | @apart r a a' b b' k s' ha hb hne _ ih =>
    intro W w hw y e
    obtain ⟨c1, z1, h1, rfl⟩ := ha
    obtain ⟨c2, z2, h2, rfl⟩ := hb
    simp only [arunQ] at e
    split at e
    · rename_i _ _ _ _ _ hg1
      split at e
      · rename_i _ _ _ _ _ hg2
        refine ih ?_ _ _ W w hw y e
        rintro he
        simp only at he
        subst he
        exact hne (hw.inj _ _ _ _ _ (by unfold AW.holds; rw [hg1]; simp) (by unfold AW.holds; rw [hg2]; simp) h1 h2)
      · cases e
    · cases e
  | @shapeL r b b' x k s' hb _ ih =>
    intro W w hw y e
    simp only [arunQ] at e
    split at e
    · rename_i c ce fz hg
      obtain ⟨o', h2, h3, h4⟩ := hw.blk hg hb
      exact ih _ (fun _ => h4 rfl) W w hw y e
    · exact ih none (fun h => by cases h) W w hw y e
    · cases e
  | dead h =>
    intro W w hw y e
    have := arunQ_arun P _ W y e
    rw [h] at this
    cases this
  | freezeNo => intro W w hw x e; cases e
  | sysNo => intro W w hw x e; cases e
  | halt => intro W w hw x e; cases e
def default_AW : AW := ⟨.e, 0, 0⟩
theorem SemR.pureInv {P : Program} {α β : Type} {R : Ren → α → β → Prop} {r : Ren} {s : Sem α} {s' : Sem β} (h : SemR P R r s s') : ∀ (a : α), s = .pure a → ∀ w : World, ∃ b, s'.run P w = .ok b w ∧ R r a b := by
  induction h with
  | pure h => intro a e w; injection e with e; subst e; exact ⟨_, rfl, h⟩
  | programR _ ih => intro a e w; exact ih a e w
  | markR _ ih => intro a e w; exact ih a e w
  | dead h => intro a e w; subst e; have := h default_AW; cases this
  | _ => intro a e; cases e
theorem SemR.newInv {P : Program} {α β : Type} {R : Ren → α → β → Prop} {r : Ren} {s : Sem α} {s' : Sem β} (h : SemR P R r s s') : ∀ (o : Obj) (k : Nat → Sem α), s = .new o k → ∀ (id : Nat) (a : α), k id = .pure a → r id = none → ∀ w : World,
    ∃ o' b, OR P r 0 o o' ∧ s'.run P w = .ok b { w with heap := w.heap.push o' } ∧ R (r.add id w.heap.size 0) a b := by
  induction h with
  | @new r o0 o' k0 k' h1 h2 _ =>
    intro o k e id a hk hr w
    injection e with e1 e2
    subst e1 e2
    have h3 := h2 (r.add id w.heap.size 0) id w.heap.size (Ren.le_add hr) (Ren.add_self _ _ _ _)
    obtain ⟨b, h4, h5⟩ := h3.pureInv a hk { w with heap := w.heap.push o' }
    exact ⟨o', b, h1, h4, h5⟩
  | programR _ ih => intro o k e id a hk hr w; exact ih o k e id a hk hr w
  | markR _ ih => intro o k e id a hk hr w; exact ih o k e id a hk hr w
  | dead h =>
    intro o k e id a hk hr w
    subst e
    have := h ⟨.e, id, 0⟩
    simp only [arun] at this
    rw [hk] at this
    cases this
  | _ => intro o k e; cases e

/-- Equality of values, as far as it is reckoned. -/
def veq1 : Value → Value → Bool
  | .bool a, .bool b => a == b
  | .int k a, .int j b => decide (k = j) && decide (a = b)
  | .float k a, .float j b => decide (k = j) && decide (a = b)
  | .complex k a c, .complex j b d => decide (k = j) && decide (a = b) && decide (c = d)
  | .string a, .string b => decide (a.data.toList = b.data.toList)
  | .pointer a, .pointer b => decide (a = b)
  | .slice a n c, .slice b m d => decide (a = b) && Nat.beq n m && Nat.beq c d
  | .map a, .map b => decide (a = b)
  | .nilFunc, .nilFunc => true
  | .nilIface, .nilIface => true
  | _, _ => false
theorem veq1_eq {a b : Value} (h : veq1 a b = true) : a = b := by
  unfold veq1 at h
  split at h <;> first | cases h; done | skip
  all_goals simp only [Bool.and_eq_true, decide_eq_true_eq, beq_iff_eq] at h
  · rw [h]
  · rw [h.1, h.2]
  · rw [h.1, h.2]
  · rw [h.1.1, h.1.2, h.2]
  · congr 1
    exact ByteArray.ext (Array.ext' h)
  · rw [h]
  · rw [h.1.1, Nat.eq_of_beq_eq_true h.1.2, Nat.eq_of_beq_eq_true h.2]
  · rw [h]
  · rfl
  · rfl
def veqL : List Value → List Value → Bool
  | [], [] => true
  | a :: l, b :: m => veq1 a b && veqL l m
  | _, _ => false
theorem veqL_eq : ∀ {l m : List Value}, veqL l m = true → l = m
  | [], [], _ => rfl
  | [], _ :: _, h => by cases h
  | _ :: _, [], h => by cases h
  | a :: l, b :: m, h => by
    simp only [veqL, Bool.and_eq_true] at h
    rw [veq1_eq h.1, veqL_eq h.2]
def veq : Value → Value → Bool
  | .agg ⟨a⟩, .agg ⟨b⟩ => veqL a b
  | .tuple ⟨a⟩, .tuple ⟨b⟩ => veqL a b
  | .func f ⟨a⟩ ⟨c⟩, .func g ⟨b⟩ ⟨d⟩ => decide (f = g) && veqL a b && veqL c d
  | .iface t a, .iface u b => Nat.beq t u && veq1 a b
  | a, b => veq1 a b
theorem veq_eq {a b : Value} (h : veq a b = true) : a = b := by
  unfold veq at h
  split at h
  · rw [veqL_eq h]
  · rw [veqL_eq h]
  · simp only [Bool.and_eq_true, decide_eq_true_eq] at h
    rw [h.1.1, veqL_eq h.1.2, veqL_eq h.2]
  · simp only [Bool.and_eq_true] at h
    rw [Nat.eq_of_beq_eq_true h.1, veq1_eq h.2]
  · exact veq1_eq h

/-- Who goes before: a bit for each. -/
def maskE (tb : Tb Nat) : List Edge → Nat
  | [] => 0
  | e :: l => cond (Region.binds .any e) (Nat.lor (Nat.lor (Nat.shiftLeft 1 e.on) (match tb.get e.on with | some m => m | none => 0)) (maskE tb l)) (maskE tb l)
def masks : List Oper → Nat → Tb Nat → List Nat
  | [], _, _ => []
  | o :: l, j, tb => maskE tb o.after.toList :: masks l (j + 1) (tb.set j (some (maskE tb o.after.toList)))
theorem maskE_spec {tb : Tb Nat} {i : Nat} : ∀ {l : List Edge}, Nat.testBit (maskE tb l) i = true → ∃ e ∈ l, Region.binds .any e = true ∧ (e.on = i ∨ ∃ m, tb.get e.on = some m ∧ Nat.testBit m i = true)
  | [], h => by simp [maskE] at h
  | e :: l, h => by
    simp only [maskE] at h
    cases hb : Region.binds .any e with
    | false =>
      rw [hb] at h
      obtain ⟨e', h1, h2⟩ := maskE_spec h
      exact ⟨e', List.mem_cons_of_mem _ h1, h2⟩
    | true =>
      rw [hb] at h
      simp only [cond_true] at h
      have h' : Nat.testBit ((1 <<< e.on ||| (match tb.get e.on with | some m => m | none => 0)) ||| maskE tb l) i = true := h
      rw [Nat.testBit_or, Nat.testBit_or] at h'
      simp only [Bool.or_eq_true] at h'
      rcases h' with (h1 | h1) | h1
      · refine ⟨e, List.mem_cons_self, hb, .inl ?_⟩
        rw [Nat.one_shiftLeft, Nat.testBit_two_pow] at h1
        exact of_decide_eq_true h1
      · refine ⟨e, List.mem_cons_self, hb, .inr ?_⟩
        cases hg : tb.get e.on with
        | none => rw [hg] at h1; simp at h1
        | some m => rw [hg] at h1; exact ⟨m, rfl, h1⟩
      · obtain ⟨e', h2, h3⟩ := maskE_spec h1
        exact ⟨e', List.mem_cons_of_mem _ h2, h3⟩
theorem masks_spec : ∀ {l : List Oper} {j : Nat} {tb : Tb Nat} {k i m : Nat} {o : Oper}, l[k]? = some o → (masks l j tb)[k]? = some m → Nat.testBit m i = true →
    ∃ e ∈ o.after.toList, Region.binds .any e = true ∧ (e.on = i ∨ ∃ m', Nat.testBit m' i = true ∧ (tb.get e.on = some m' ∨ ∃ k', e.on = j + k' ∧ (masks l j tb)[k']? = some m'))
  | [], j, tb, k, i, m, o, h, _, _ => by simp at h
  | o0 :: l, j, tb, 0, i, m, o, h, hm, hb => by
    simp only [masks, List.getElem?_cons_zero, Option.some.injEq] at h hm
    subst h hm
    obtain ⟨e, h1, h2, h3⟩ := maskE_spec hb
    refine ⟨e, h1, h2, ?_⟩
    rcases h3 with h3 | ⟨m', h3, h4⟩
    · exact .inl h3
    · exact .inr ⟨m', h4, .inl h3⟩
  | o0 :: l, j, tb, k + 1, i, m, o, h, hm, hb => by
    simp only [masks, List.getElem?_cons_succ] at h hm
    obtain ⟨e, h1, h2, h3⟩ := masks_spec h hm hb
    refine ⟨e, h1, h2, ?_⟩
    rcases h3 with h3 | ⟨m', h4, h5⟩
    · exact .inl h3
    · refine .inr ⟨m', h4, ?_⟩
      rcases h5 with h5 | ⟨k', h5, h6⟩
      · rw [Tb.get_set] at h5
        by_cases e1 : e.on = j
        · rw [if_pos e1] at h5
          injection h5 with h5
          exact .inr ⟨0, by omega, by simp [masks, h5]⟩
        · rw [if_neg e1] at h5
          exact .inl h5
      · exact .inr ⟨k' + 1, by omega, by simpa [masks] using h6⟩
theorem masks_length : ∀ (l : List Oper) (j : Nat) (tb : Tb Nat), (masks l j tb).length = l.length
  | [], _, _ => rfl
  | o :: l, j, tb => by simp [masks, masks_length l]
end Go.Proofs.Ytihlhmphgjlngaa
