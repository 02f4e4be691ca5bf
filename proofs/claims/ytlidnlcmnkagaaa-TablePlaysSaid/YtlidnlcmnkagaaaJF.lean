/- The law TableFresh: its mathematics. -/
import Derived.Test.YtlidnlcmnkagaaaJC
import Derived.Test.YtlidnlcmnkagaaaCm
namespace Go.Proofs.Ytlidnlcmnkagaaa
open Go.RowKit
set_option maxRecDepth 20000

def cntAl (T : List Pl) : Nat := T.countP (·.al)
theorem cntAl_le (T : List Pl) : cntAl T ≤ T.length := List.countP_le_length
theorem pidsG_cnt : ∀ (T : List Pl) (i : Nat), (pidsG i T).length = cntAl T
  | [], _ => rfl
  | x :: r, i => by
    have ih := pidsG_cnt r (i + 1)
    unfold cntAl at ih ⊢
    unfold pidsG
    split
    · rename_i h
      rw [List.countP_cons_of_pos h, List.length_cons, ih]
    · rename_i h
      rw [List.countP_cons_of_neg h, ih]
theorem cntAl_zero (n : Nat) : cntAl (zeroT n) = 0 := by
  unfold cntAl zeroT
  rw [List.countP_replicate]
  simp
/-- Where the law's loop stands behind i steps. -/
structure FInv (room : Nat) (T : List Pl) (given : List Pd) (dead : List Bool) (i : Nat) : Prop where
  ok : TOk T
  len : T.length = room
  same : dead.length = given.length
  many : 2 * given.length ≤ i + cntAl T
  had : ∀ (n : Nat) (x : Pl), T[n]? = some x → x.had ≤ (given.length : Int)
  low : ∀ (j : Nat) (q : Pd), given[j]? = some q → 0 ≤ q.n ∧ ∃ x : Pl, T[q.n.toNat]? = some x ∧ q.g ≤ x.had
  is : ∀ (j : Nat) (q : Pd) (d : Bool), given[j]? = some q → dead[j]? = some d → isF T q = !d
  one : ∀ (j k : Nat) (q : Pd), given[j]? = some q → given[k]? = some q → j = k
theorem FInv.start {room : Nat} (h1 : 1 ≤ room) (h2 : room ≤ 256) : FInv room (zeroT room) [] [] 0 where
  ok := TOk.zero h1 h2
  len := by simp [zeroT]
  same := rfl
  many := by simp
  had := fun n x h => by rw [zero_at h]; exact Int.le_refl _
  low := fun j q h => by simp at h
  is := fun j q d h => by simp at h
  one := fun j k q h => by simp at h
theorem FInv.next {room : Nat} {T : List Pl} {given : List Pd} {dead : List Bool} {i : Nat} (h : FInv room T given dead i) : FInv room T given dead (i + 1) :=
  ⟨h.ok, h.len, h.same, by have := h.many; omega, h.had, h.low, h.is, h.one⟩
theorem FInv.len_le {room : Nat} {T : List Pl} {given : List Pd} {dead : List Bool} {i : Nat} (h : FInv room T given dead i) : 2 * given.length ≤ i + 256 := by
  have h1 := h.many
  have h2 := cntAl_le T
  have h3 := h.ok.len
  omega
/-- Add where a place is free, where none is. -/
theorem FInv.full {room : Nat} {T : List Pl} {given : List Pd} {dead : List Bool} {i : Nat} (h : FInv room T given dead i) (hc : ¬ cntAl T < room) : addF T = (T, P0, 140) := by
  have hall : ∀ x ∈ T, x.al = true := List.countP_eq_length.1 (by
    have h1 := cntAl_le T
    have h2 := h.len
    have h3 : cntAl T = T.length := by omega
    exact h3)
  have : addI 0 T = none := addI_no fun j y hy => by
    unfold mayB
    rw [hall y (List.mem_of_getElem? hy)]
    rfl
  unfold addF
  rw [this]
theorem FInv.room {room : Nat} {T : List Pl} {given : List Pd} {dead : List Bool} {i : Nat} (h : FInv room T given dead i) (hi : i ≤ 17592186044416) (hc : cntAl T < room) : ∃ n x, addI 0 T = some (n, x) ∧ T[n]? = some x ∧ x.al = false ∧ addF T = (T.set n ⟨x.had + 1, true, x.nm⟩, ⟨n, x.had + 1⟩, 0) := by
  cases ha : addI 0 T with
  | none =>
    exfalso
    have hno := (addI_spec T 0).2 ha
    have hcc : cntAl T = T.length := List.countP_eq_length.2 fun x hx => by
      obtain ⟨j, hj, e⟩ := List.getElem_of_mem hx
      have hx2 : T[j]? = some x := by rw [List.getElem?_eq_getElem hj, e]
      have h1 := hno j x hx2
      have h2 := h.had j x hx2
      have h3 := h.len_le
      unfold mayB at h1
      have h4 : decide (x.had < MX) = true := decide_eq_true (by show x.had < 4611686018427387903; omega)
      rw [h4, Bool.and_true] at h1
      simpa using h1
    have hll := h.len
    rw [hcc, hll] at hc
    exact Nat.lt_irrefl _ hc
  | some p =>
    obtain ⟨n, x⟩ := p
    obtain ⟨_, hx, hm, _⟩ := (addI_spec T 0).1 n x ha
    rw [Nat.sub_zero] at hx
    simp only [mayB, Bool.and_eq_true, Bool.not_eq_true'] at hm
    exact ⟨n, x, rfl, hx, hm.1, by unfold addF; rw [ha]⟩
theorem isF_set_ne {T : List Pl} {n : Nat} {y : Pl} {q : Pd} (hne : q.n.toNat ≠ n) : isF (T.set n y) q = isF T q := by
  unfold isF findF
  split
  · rw [List.getElem?_set_ne (fun e => hne e.symm)]
  · rfl
theorem isF_at {T : List Pl} {n : Nat} {x : Pl} {q : Pd} (h0 : 0 ≤ q.n) (hn : q.n.toNat = n) (hx : T[n]? = some x) : isF T q = (x.al && x.had == q.g) := by
  unfold isF findF
  rw [if_pos h0, hn, hx]
  dsimp only
  by_cases h1 : x.al = true <;> by_cases h2 : x.had = q.g <;> simp [h1, h2]
theorem FInv.fresh {room : Nat} {T : List Pl} {given : List Pd} {dead : List Bool} {i : Nat} (h : FInv room T given dead i) {n : Nat} {x : Pl} (hx : T[n]? = some x) {j : Nat} {q : Pd} (hq : given[j]? = some q) : eqP q ⟨n, x.had + 1⟩ = false := by
  refine eqP_no fun e => ?_
  obtain ⟨h0, y, hy, hg⟩ := h.low j q hq
  subst e
  dsimp only at hy hg
  rw [Int.toNat_natCast, hx] at hy
  injection hy with hy
  subst hy
  omega
theorem FInv.add {room : Nat} {T : List Pl} {given : List Pd} {dead : List Bool} {i : Nat} (h : FInv room T given dead i) {n : Nat} {x : Pl} (ha : addI 0 T = some (n, x)) (hx : T[n]? = some x) (hal : x.al = false) :
    FInv room (T.set n ⟨x.had + 1, true, x.nm⟩) (given ++ [⟨n, x.had + 1⟩]) (dead ++ [false]) (i + 1) ∧ cntAl (T.set n ⟨x.had + 1, true, x.nm⟩) = cntAl T + 1 := by
  have hlt := (List.getElem?_eq_some_iff.1 hx).1
  have hge := (List.getElem?_eq_some_iff.1 hx).2
  have hcnt : cntAl (T.set n ⟨x.had + 1, true, x.nm⟩) = cntAl T + 1 := by
    unfold cntAl
    rw [List.countP_set hlt, hge]
    simp [hal]
  have ok2 := h.ok.add
  rw [show addF T = (T.set n ⟨x.had + 1, true, x.nm⟩, ⟨n, x.had + 1⟩, 0) from by unfold addF; rw [ha]] at ok2
  have hh := h.had n x hx
  have app : ∀ (j : Nat) (q : Pd), (given ++ [(⟨n, x.had + 1⟩ : Pd)])[j]? = some q → (j < given.length ∧ given[j]? = some q) ∨ (j = given.length ∧ q = ⟨n, x.had + 1⟩) := fun j q hq => by
    rw [List.getElem?_append] at hq
    split at hq
    · rename_i hj; exact .inl ⟨hj, hq⟩
    · rename_i hj
      right
      cases hk : j - given.length with
      | zero =>
        rw [hk] at hq
        injection hq with hq
        exact ⟨by omega, hq.symm⟩
      | succ k => rw [hk] at hq; simp at hq
  refine ⟨⟨ok2, by rw [List.length_set]; exact h.len, by simp [h.same], ?_, fun m y hy => ?_, fun j q hq => ?_, fun j q d hq hd => ?_, fun j k q hj hk => ?_⟩, hcnt⟩
  · have := h.many
    rw [hcnt, List.length_append, List.length_singleton]
    omega
  · rw [List.length_append, List.length_singleton]
    rcases getElem?_set' hy with ⟨_, rfl⟩ | ⟨_, hy⟩
    · show x.had + 1 ≤ _
      omega
    · have := h.had m y hy
      omega
  · rcases app j q hq with ⟨_, hq⟩ | ⟨_, rfl⟩
    · obtain ⟨h0, y, hy, hg⟩ := h.low j q hq
      refine ⟨h0, ?_⟩
      by_cases e : n = q.n.toNat
      · subst e
        rw [hx] at hy
        injection hy with hy
        subst hy
        exact ⟨_, List.getElem?_set_self hlt, by show q.g ≤ x.had + 1; omega⟩
      · exact ⟨y, by rw [List.getElem?_set_ne e]; exact hy, hg⟩
    · refine ⟨by show (0 : Int) ≤ (n : Int); omega, ⟨x.had + 1, true, x.nm⟩, ?_, Int.le_refl _⟩
      show (T.set n _)[((n : Nat) : Int).toNat]? = _
      rw [Int.toNat_natCast]
      exact List.getElem?_set_self hlt
  · rcases app j q hq with ⟨hj, hq⟩ | ⟨hj, rfl⟩
    · rw [List.getElem?_append_left (by rw [h.same]; exact hj)] at hd
      have h1 := h.is j q d hq hd
      rw [← h1]
      obtain ⟨h0, y, hy, hg⟩ := h.low j q hq
      by_cases e : q.n.toNat = n
      · rw [isF_at h0 e (List.getElem?_set_self hlt), isF_at h0 e hx, hal]
        rw [e, hx] at hy
        injection hy with hy
        subst hy
        have : (x.had + 1 == q.g) = false := by simp; omega
        simp only [this, Bool.and_false, Bool.false_and]
      · exact isF_set_ne e
    · subst hj
      rw [← h.same, List.getElem?_append_right (Nat.le_refl _), Nat.sub_self] at hd
      injection hd with hd
      subst hd
      rw [isF_at (by show (0 : Int) ≤ (n : Int); omega) (Int.toNat_natCast n) (List.getElem?_set_self hlt)]
      simp
  · rcases app j q hj with ⟨hj1, hj⟩ | ⟨hj1, rfl⟩
    · rcases app k q hk with ⟨hk1, hk⟩ | ⟨hk1, rfl⟩
      · exact h.one j k q hj hk
      · have := h.fresh hx hj
        rw [eqP_iff.2 rfl] at this
        cases this
    · rcases app k _ hk with ⟨hk1, hk⟩ | ⟨hk1, _⟩
      · have := h.fresh hx hk
        rw [eqP_iff.2 rfl] at this
        cases this
      · omega
/-- Free of the one who was given as number k. -/
theorem FInv.free {room : Nat} {T : List Pl} {given : List Pd} {dead : List Bool} {i : Nat} (h : FInv room T given dead i) {k : Nat} {q : Pd} (hq : given[k]? = some q) :
    (dead[k]? = some true ∧ freeF T q = (T, 3) ∧ FInv room T given (dead.set k true) (i + 1)) ∨
    (dead[k]? = some false ∧ (freeF T q).2 = 0 ∧ FInv room (freeF T q).1 given (dead.set k true) (i + 1) ∧ cntAl (freeF T q).1 + 1 = cntAl T) := by
  have hk := (List.getElem?_eq_some_iff.1 hq).1
  obtain ⟨d, hd⟩ := some_at (show k < dead.length by rw [h.same]; exact hk)
  have hi := h.is k q d hq hd
  cases d with
  | true =>
    left
    have hf : findF T q = none := by
      unfold isF at hi
      cases hf : findF T q with
      | none => rfl
      | some x => rw [hf] at hi; cases hi
    have e : dead.set k true = dead := by
      apply List.ext_getElem?
      intro j
      by_cases ej : k = j
      · subst ej
        rw [List.getElem?_set_self (by rw [h.same]; exact hk), hd]
      · rw [List.getElem?_set_ne ej]
    refine ⟨hd, by unfold freeF; rw [hf], ?_⟩
    rw [e]
    exact h.next
  | false =>
    right
    cases hf : findF T q with
    | none => unfold isF at hi; rw [hf] at hi; cases hi
    | some x =>
      obtain ⟨h0, hx, hal, hg⟩ := find_some hf
      have e : freeF T q = (T.set q.n.toNat ⟨x.had, false, E0b⟩, 0) := by unfold freeF; rw [hf]
      have hlt := (List.getElem?_eq_some_iff.1 hx).1
      have hge := (List.getElem?_eq_some_iff.1 hx).2
      have hcnt : cntAl (T.set q.n.toNat ⟨x.had, false, E0b⟩) + 1 = cntAl T := by
        have hpos : 0 < cntAl T := List.countP_pos_iff.2 ⟨x, List.mem_of_getElem? hx, hal⟩
        unfold cntAl at hpos ⊢
        rw [List.countP_set hlt, hge]
        simp [hal]
        omega
      rw [e]
      refine ⟨hd, rfl, ⟨by have := h.ok.free q; rw [e] at this; exact this, by rw [List.length_set]; exact h.len, by rw [List.length_set]; exact h.same, by have := h.many; show _ ≤ _ + cntAl (T.set _ _); omega, fun m y hy => ?_, fun j p hp => ?_, fun j p d hp hd2 => ?_, h.one⟩, hcnt⟩
      · rcases getElem?_set' hy with ⟨_, rfl⟩ | ⟨_, hy⟩
        · exact h.had _ x hx
        · exact h.had m y hy
      · obtain ⟨a0, y, hy, hgy⟩ := h.low j p hp
        refine ⟨a0, ?_⟩
        by_cases e2 : q.n.toNat = p.n.toNat
        · rw [← e2, hx] at hy
          injection hy with hy
          subst hy
          exact ⟨⟨x.had, false, E0b⟩, by rw [← e2]; exact List.getElem?_set_self hlt, hgy⟩
        · exact ⟨y, by show (T.set _ _)[_]? = _; rw [List.getElem?_set_ne e2]; exact hy, hgy⟩
      · obtain ⟨a0, y, hy, hgy⟩ := h.low j p hp
        show isF (T.set q.n.toNat _) p = !d
        by_cases ej : k = j
        · subst ej
          rw [hq] at hp
          injection hp with hp
          subst hp
          rw [List.getElem?_set_self (by rw [h.same]; exact hk)] at hd2
          injection hd2 with hd2
          subst hd2
          rw [isF_at h0 rfl (List.getElem?_set_self hlt)]
          rfl
        · rw [List.getElem?_set_ne ej] at hd2
          have h1 := h.is j p d hp hd2
          rw [← h1]
          by_cases e2 : p.n.toNat = q.n.toNat
          · rw [isF_at a0 e2 (List.getElem?_set_self hlt), isF_at a0 e2 hx, hal]
            have hne : (x.had == p.g) = false := by
              cases hc : x.had == p.g with
              | false => rfl
              | true =>
                have hc' : x.had = p.g := by simpa using hc
                have : q = p := by
                  obtain ⟨qn, qg⟩ := q
                  obtain ⟨pn, pg⟩ := p
                  simp only at h0 hg a0 e2 hc' ⊢
                  have : qn = pn := by omega
                  have : qg = pg := by omega
                  simp [*]
                subst this
                exact absurd (h.one k j q hq hp) ej
            simp [hne]
          · exact isF_set_ne e2
theorem OwnS.beside {α β : Type} {K : Sk α} {J : Sk β} {w : World} {base base' : Nat} {v u : Value} {xs : List α} {ys : List β} (h : OwnS K w base v xs) (k : OwnS J w base' u ys) (hne : K.e ≠ J.e) : ∀ g, v.ownBlock = some g → g ∉ u.ownBlock.toList := fun g hg hm => by
  have hu : u.ownBlock = some g := by simpa using hm
  rcases h.2 with ⟨e, _⟩ | ⟨g1, cap, cur, rfl, hb, hg1, _⟩
  · rw [e] at hg; cases hg
  · injection hg with hg
    subst hg
    exact k.apartB (t := K.e) (cs := cur) hg1 (fun e => hne e.symm) hm
end Go.Proofs.Ytlidnlcmnkagaaa
