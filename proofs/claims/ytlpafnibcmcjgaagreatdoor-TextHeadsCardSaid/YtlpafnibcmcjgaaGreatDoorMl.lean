/- text: reader.take, by a token of the text, is a step of the machine. What every state of the machine keeps: how big it is, which trees it holds. -/
import Derived.Test.YtlpafnibcmcjgaaGreatDoorMk
namespace Go.Proofs.YtlpafnibcmcjgaaGreatDoor
open Go.RowKit

theorem tok_lst {s : ByteArray} {j : Nat} (hj : j < s.size) : ∃ t, (lst s).drop j = s[j]'hj :: t ∧ lst (s.extract j (fin s j)) = (s[j]'hj :: t).take (wid (s[j]'hj :: t)) := by
  refine ⟨(lst s).drop (j + 1), ?_, ?_⟩
  · rw [List.drop_eq_getElem_cons (by rw [lst_len]; exact hj)]
    rfl
  · have e : (lst s).drop j = s[j]'hj :: (lst s).drop (j + 1) := by
      rw [List.drop_eq_getElem_cons (by rw [lst_len]; exact hj)]
      rfl
    rw [ext_lst, ← e]
    congr 1
    unfold fin; omega
theorem sg_tok {s : ByteArray} {j : Nat} (hj : j < s.size) (h : isSg (s[j]'hj) = true) : lst (s.extract j (fin s j)) = [s[j]'hj] := by
  obtain ⟨t, _, h2⟩ := tok_lst hj
  rw [h2]
  generalize s[j]'hj = b at h ⊢
  have hb : b.toNat = 123 ∨ b.toNat = 125 ∨ b.toNat = 91 ∨ b.toNat = 93 ∨ b.toNat = 44 := by
    simp only [isSg, Bool.or_eq_true, decide_eq_true_eq] at h
    omega
  have h1 : isSm b = false := by simp [isSm]; omega
  have h2 : isDig b = false := by
    cases h : isDig b with
    | false => rfl
    | true => have := isDig_bd h; omega
  rw [wid_rest h1 h2 (by omega), if_neg (by omega), if_neg (by omega)]
  rfl
theorem plain_tok {s : ByteArray} {j : Nat} (hj : j < s.size) (h : isSg (s[j]'hj) = false) : Plain (s.extract j (fin s j)) := by
  obtain ⟨t, _, h2⟩ := tok_lst hj
  have hw := wid_bd (r := s[j]'hj :: t) (by simp)
  obtain ⟨n, hn⟩ : ∃ n, wid (s[j]'hj :: t) = n + 1 := ⟨wid (s[j]'hj :: t) - 1, by omega⟩
  rw [hn, List.take_succ_cons] at h2
  generalize s[j]'hj = b at h h2
  unfold Plain
  rw [h2]
  refine ⟨?_, ?_, ?_, ?_, ?_⟩
  all_goals
    intro e
    injection e with e _
    rw [e] at h
    exact absurd h (by decide)
theorem tk_sign {s : ByteArray} {j : Nat} (hj : j < s.size) (h : isSg (s[j]'hj) = true) : tkAt s j = .sign (s[j]'hj) := by
  unfold tkAt
  rw [lst_at hj]
  simp only [h, if_true]
theorem tk_plain {s : ByteArray} {j : Nat} (hj : j < s.size) (h : isSg (s[j]'hj) = false) : tkAt s j = match lf (s.extract j (fin s j)) with | some t => .term t | none => .bad := by
  unfold tkAt
  rw [lst_at hj]
  simp only [h]
  rfl
/-- A leaf that may be. -/
theorem lf_good {s : ByteArray} {t : T} (hs : s.size ≤ 262144) (h : lf s = some t) : t.Good ∧ ∀ k l, t ≠ .tup k l := by
  rw [lf_raw] at h
  cases hr : rawL s with
  | none => rw [hr] at h; cases h
  | some u =>
    rw [hr] at h
    have : u = t := by
      change (if okT u = true then some u else none) = some t at h
      split at h
      · injection h
      · cases h
    rw [← this]
    exact raw_good hs hr
/-- What a step of the reader leaves. -/
def After (s : ByteArray) (j base rb : Nat) (σ : MS) (w : World) (b : Bool) (w' : World) : Prop := Low base rb w w' ∧ (b = true → ∃ σ', mstep σ (tkAt s j) = some σ' ∧ Holds w' base rb σ') ∧ (b = false → mstep σ (tkAt s j) = none)
theorem take_any (s : ByteArray) (j : Nat) (hs : s.size ≤ 262144) (hj : j < s.size) (w : World) (base rb : Nat) (σ : MS) (hh : Holds w base rb σ) (hv : Vars w) (hrb : rb < base) (hsm : Small σ) :
    Calls Tryz.prog 17 #[.pointer (some ⟨rb, 0, none⟩), .string (s.extract j (fin s j))] w fun e w' => ∃ b, e = .returned (.bool b) ∧ After s j base rb σ w b w' := by
  cases hsg : isSg (s[j]'hj) with
  | true =>
    have hq := sg_tok hj hsg
    have ht := tk_sign hj hsg
    have hb : s[j]'hj = 123 ∨ s[j]'hj = 125 ∨ s[j]'hj = 91 ∨ s[j]'hj = 93 ∨ s[j]'hj = 44 := by
      simp only [isSg, Bool.or_eq_true, decide_eq_true_eq] at hsg
      rcases hsg with (((h | h) | h) | h) | h
      · exact .inl (UInt8.toNat_inj.1 h)
      · exact .inr (.inl (UInt8.toNat_inj.1 h))
      · exact .inr (.inr (.inl (UInt8.toNat_inj.1 h)))
      · exact .inr (.inr (.inr (.inl (UInt8.toNat_inj.1 h))))
      · exact .inr (.inr (.inr (.inr (UInt8.toNat_inj.1 h))))
    unfold After
    rw [ht]
    clear ht hsg
    have hop : ∀ (b : UInt8) (k : Int), (b = 123 ∧ k = 8) ∨ (b = 91 ∧ k = 9) → ∀ σ : MS, (∀ stk md, σ = .go stk md → md ≠ 2 → mstep σ (.sign b) = some (.go (⟨k, []⟩ :: stk) 1)) ∧ ((∀ stk md, σ = .go stk md → md = 2) → mstep σ (.sign b) = none) := by
      intro b k hbk σ
      refine ⟨fun stk md e h => ?_, fun h => ?_⟩
      · subst e
        rcases hbk with ⟨rfl, rfl⟩ | ⟨rfl, rfl⟩ <;> simp [mstep, h, kOf]
      · cases σ with
        | whole t => rfl
        | go stk md =>
          have := h stk md rfl
          subst this
          rcases hbk with ⟨rfl, rfl⟩ | ⟨rfl, rfl⟩ <;> simp [mstep]
    have hcl : ∀ (b : UInt8) (k : Int), (b = 125 ∧ k = 8) ∨ (b = 93 ∧ k = 9) → ∀ σ : MS, (∀ o r md, σ = .go (o :: r) md → md ≠ 0 → o.k = k → mstep σ (.sign b) = some (put r (.tup o.k o.items))) ∧ ((∀ o r md, σ = .go (o :: r) md → md ≠ 0 → o.k ≠ k) → mstep σ (.sign b) = none) := by
      intro b k hbk σ
      refine ⟨fun o r md e h hk => ?_, fun h => ?_⟩
      · subst e
        rcases hbk with ⟨rfl, rfl⟩ | ⟨rfl, rfl⟩ <;> simp [mstep, h, kOf, hk]
      · cases σ with
        | whole t => rfl
        | go stk md =>
          by_cases h0 : md = 0
          · subst h0
            rcases hbk with ⟨rfl, rfl⟩ | ⟨rfl, rfl⟩ <;> simp [mstep]
          · cases stk with
            | nil => rcases hbk with ⟨rfl, rfl⟩ | ⟨rfl, rfl⟩ <;> simp [mstep]
            | cons o r =>
              have := h o r md rfl h0
              rcases hbk with ⟨rfl, rfl⟩ | ⟨rfl, rfl⟩ <;> simp [mstep, h0, kOf, this]
    generalize s[j]'hj = c at hq hb ⊢
    rcases hb with rfl | rfl | rfl | rfl | rfl
    · refine take_123 _ w _ _ hq ((begin_any w base rb 8 σ hh hrb hsm).mono ?_)
      rintro e w' ⟨b, rfl, l1, h1, h2⟩
      refine ⟨b, rfl, l1, fun h => ?_, fun h => ((hop 123 8 (.inl ⟨rfl, rfl⟩) σ).2 (h2 h))⟩
      obtain ⟨stk, md, e, h3, h4⟩ := h1 h
      exact ⟨_, (hop 123 8 (.inl ⟨rfl, rfl⟩) σ).1 stk md e h3, h4⟩
    · refine take_125 _ w _ _ hq ((end_any w base rb 8 σ hh hrb hsm).mono ?_)
      rintro e w' ⟨b, rfl, l1, h1, h2⟩
      refine ⟨b, rfl, l1, fun h => ?_, fun h => ((hcl 125 8 (.inl ⟨rfl, rfl⟩) σ).2 (h2 h))⟩
      obtain ⟨o, r, md, e, h3, h4, h5⟩ := h1 h
      exact ⟨_, (hcl 125 8 (.inl ⟨rfl, rfl⟩) σ).1 o r md e h3 h4, h5⟩
    · refine take_91 _ w _ _ hq ((begin_any w base rb 9 σ hh hrb hsm).mono ?_)
      rintro e w' ⟨b, rfl, l1, h1, h2⟩
      refine ⟨b, rfl, l1, fun h => ?_, fun h => ((hop 91 9 (.inr ⟨rfl, rfl⟩) σ).2 (h2 h))⟩
      obtain ⟨stk, md, e, h3, h4⟩ := h1 h
      exact ⟨_, (hop 91 9 (.inr ⟨rfl, rfl⟩) σ).1 stk md e h3, h4⟩
    · refine take_93 _ w _ _ hq ((end_any w base rb 9 σ hh hrb hsm).mono ?_)
      rintro e w' ⟨b, rfl, l1, h1, h2⟩
      refine ⟨b, rfl, l1, fun h => ?_, fun h => ((hcl 93 9 (.inr ⟨rfl, rfl⟩) σ).2 (h2 h))⟩
      obtain ⟨o, r, md, e, h3, h4, h5⟩ := h1 h
      exact ⟨_, (hcl 93 9 (.inr ⟨rfl, rfl⟩) σ).1 o r md e h3 h4, h5⟩
    · refine take_44 _ w _ _ hq ((comma_step w base rb σ hh hrb).mono ?_)
      rintro e w' ⟨b, rfl, l1, h1, h2⟩
      refine ⟨b, rfl, l1, fun h => ?_, fun h => ?_⟩
      · obtain ⟨stk, e, h3⟩ := h1 h
        subst e
        exact ⟨_, by simp [mstep], h3⟩
      · cases σ with
        | whole t => rfl
        | go stk md =>
          have := h2 h stk md rfl
          simp [mstep, this]
  | false =>
    have hp := plain_tok hj hsg
    have ht := tk_plain hj hsg
    have hT := tok_ok hs hj
    unfold After
    rw [ht]
    generalize s.extract j (fin s j) = q at hp hT ⊢
    cases σ with
    | whole t =>
      obtain ⟨F, A, n, cap, sl, hb, _⟩ := hh
      refine (take_late q w rb 3 hp (hb.cell0 rfl) (by omega)).mono ?_
      rintro e w' ⟨rfl, o1⟩
      exact ⟨false, rfl, Low.of hb o1, by simp, fun _ => by cases lf q <;> rfl⟩
    | go stk md =>
      obtain ⟨hm, F, bv, ps, u0, u1, u2, u3, u4, u5, u6, rfl, hb, hr⟩ := hh
      obtain ⟨hs1, hs2, hs3⟩ := hsm
      by_cases h2 : md = 2
      · subst h2
        refine (take_late q w rb 2 hp (hb.cell0 rfl) (by omega)).mono ?_
        rintro e w' ⟨rfl, o1⟩
        exact ⟨false, rfl, Low.of hb o1, by simp, fun _ => by cases lf q <;> simp [mstep]⟩
      · refine (take_leaf q w base rb md (fun t w' => Holds w' base rb (put (ps.map (·.1)) t)) hp ⟨_, hb, rfl⟩ (by omega) hT hv fun t ht w1 o1 => ?_).mono ?_
        · exact put_any w1 base rb F md bv (.slice none 0 0) ps _ _ _ _ _ _ _ t (hb.only o1 (by simp)) (hr.only o1 (by simp)) ((TV.leaf (lf_good hT.le ht).2).2 rfl) (fun p hp => hs2 p.1 (List.mem_map_of_mem hp)) (by simpa using hs1) hrb
        · rintro e w' ⟨b, rfl, l1, h1, h3⟩
          refine ⟨b, rfl, l1, fun h => ?_, fun h => by rw [h3 h]; rfl⟩
          obtain ⟨t, h4, h5⟩ := h1 h
          rw [h4]
          exact ⟨_, by simp [mstep, h2], h5⟩
end Go.Proofs.YtlpafnibcmcjgaaGreatDoor

namespace Go.Proofs.YtlpafnibcmcjgaaGreatDoor
open Go.RowKit

def MInv (n : Nat) : MS → Prop
  | .go stk md => stk.length ≤ n ∧ (∀ o ∈ stk, o.items.length ≤ n ∧ (o.k = 8 ∨ o.k = 9) ∧ Goods o.items) ∧ (md ≠ 0 → stk ≠ [])
  | .whole t => t.Good
theorem Goods.snoc {l : List T} {t : T} (h : Goods l) (ht : t.Good) : Goods (l ++ [t]) := by
  rw [Goods.iff] at h ⊢
  intro u hu
  rcases List.mem_append.1 hu with hu | hu
  · exact h u hu
  · rw [List.mem_singleton.1 hu]; exact ht
theorem MInv.put {n : Nat} {stk : List Opn} {t : T} (h1 : stk.length ≤ n + 1) (h2 : ∀ o ∈ stk, o.items.length ≤ n ∧ (o.k = 8 ∨ o.k = 9) ∧ Goods o.items) (ht : t.Good) : MInv (n + 1) (put stk t) := by
  cases stk with
  | nil => exact ht
  | cons o r =>
    refine ⟨h1, fun p hp => ?_, fun _ => by simp⟩
    rcases List.mem_cons.1 hp with rfl | hp
    · obtain ⟨h3, h4, h5⟩ := h2 o (by simp)
      exact ⟨by simp; omega, h4, h5.snoc ht⟩
    · obtain ⟨h3, h4, h5⟩ := h2 p (by simp [hp])
      exact ⟨by omega, h4, h5⟩
theorem kOf_ok {b : UInt8} : kOf b = 8 ∨ kOf b = 9 := by
  unfold kOf
  split
  · exact .inl rfl
  · exact .inr rfl
theorem MInv.step {s : ByteArray} {j n : Nat} {σ σ' : MS} (hs : s.size ≤ 262144) (h : MInv n σ) (hm : mstep σ (tkAt s j) = some σ') : MInv (n + 1) σ' := by
  cases σ with
  | whole t => simp [mstep] at hm
  | go stk md =>
    obtain ⟨h1, h2, h3⟩ := h
    have hup : ∀ o ∈ stk, o.items.length ≤ n + 1 ∧ (o.k = 8 ∨ o.k = 9) ∧ Goods o.items := fun o ho => ⟨by have := (h2 o ho).1; omega, (h2 o ho).2⟩
    cases ht : tkAt s j with
    | bad => rw [ht] at hm; simp [mstep] at hm
    | term t =>
      have hg : t.Good := by
        unfold tkAt at ht
        split at ht
        · cases ht
        · split at ht
          · cases ht
          · split at ht
            · rename_i u hu
              injection ht with ht
              subst ht
              refine (lf_good ?_ hu).1
              rw [← lst_len, ext_lst, List.length_take, List.length_drop, lst_len]; omega
            · cases ht
      rw [ht] at hm
      simp only [mstep] at hm
      split at hm
      · cases hm
      · injection hm with hm
        subst hm
        exact MInv.put (by omega) h2 hg
    | sign b =>
      rw [ht] at hm
      simp only [mstep] at hm
      split at hm
      · split at hm
        · cases hm
        · injection hm with hm
          subst hm
          refine ⟨by simp; omega, fun o ho => ?_, fun _ => by simp⟩
          rcases List.mem_cons.1 ho with rfl | ho
          · exact ⟨by simp, kOf_ok, trivial⟩
          · exact hup o ho
      · split at hm
        · split at hm
          · injection hm with hm
            subst hm
            exact ⟨by omega, hup, fun h => absurd rfl h⟩
          · cases hm
        · split at hm
          · cases hm
          · cases stk with
            | nil => simp at hm
            | cons o r =>
              simp only at hm
              split at hm
              · injection hm with hm
                subst hm
                have ho := h2 o (by simp)
                exact MInv.put (by simp at h1; omega) (fun p hp => h2 p (by simp [hp])) ⟨ho.2.1, ho.2.2⟩
              · cases hm
theorem MInv.steps {s : ByteArray} (hs : s.size ≤ 262144) : ∀ (l : List Nat) (n : Nat) (σ σ' : MS), MInv n σ → steps s σ l = some σ' → MInv (n + l.length) σ'
  | [], n, σ, σ', h, e => by simp only [Go.Proofs.YtlpafnibcmcjgaaGreatDoor.steps] at e; injection e with e; rw [← e]; exact h
  | j :: l, n, σ, σ', h, e => by
    simp only [Go.Proofs.YtlpafnibcmcjgaaGreatDoor.steps] at e
    cases hm : mstep σ (tkAt s j) with
    | none => rw [hm] at e; cases e
    | some σ1 =>
      rw [hm] at e
      have := MInv.steps hs l (n + 1) σ1 σ' (h.step hs hm) e
      rw [List.length_cons, show n + (l.length + 1) = n + 1 + l.length by omega]
      exact this
theorem MInv.small {n : Nat} {σ : MS} (h : MInv n σ) (hn : n ≤ 262144) : Small σ := by
  cases σ with
  | whole t => trivial
  | go stk md => exact ⟨by have := h.1; omega, fun o ho => by have := (h.2.1 o ho).1; omega, h.2.2⟩
theorem MInv.init : MInv 0 (.go [] 0) := ⟨Nat.le_refl _, by simp, fun h => absurd rfl h⟩
end Go.Proofs.YtlpafnibcmcjgaaGreatDoor
