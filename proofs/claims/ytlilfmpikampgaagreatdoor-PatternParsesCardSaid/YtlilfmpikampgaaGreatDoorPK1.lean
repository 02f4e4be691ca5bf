/- Patterns as trees, their tokens, and the reader of a pattern as a machine that goes from token to token. Nothing here speaks of the program. Patterns in memory; which trees a reader makes; how one is gone through. What stands ahead of a text: pattern.run with its tests; a kind by its name, in both programs. A kind by its name, in both programs. A kind by its name, in the document's program. What layer 4 makes of digits, and of the token that a text begins with. Nothing here speaks of the program. -/
import Derived.Test.YtlilfmpikampgaaGreatDoorPMa
import Derived.Test.YtlilfmpikampgaaGreatDoorPMe
import Derived.Test.YtlilfmpikampgaaGreatDoorPMb
import Derived.Test.YtlilfmpikampgaaGreatDoorPQ1
namespace Go.Proofs.YtlilfmpikampgaaGreatDoor
open Go

inductive QT where
  | zero | any | var (n : Int) | term (t : T) | kind (n : Int) | seq (k : Int) (l : List QT) (r : List QT)

/-- A kind by its name. -/
def kindP (l : List UInt8) : Option Int :=
  if l = [110, 105, 108] then some 1 else if l = [98, 111, 111, 108] then some 2 else if l = [105, 110, 116] then some 3
  else if l = [99, 111, 109, 112, 108, 101, 120] then some 4 else if l = [97, 116, 111, 109] then some 5 else if l = [112, 105, 100] then some 6
  else if l = [114, 101, 102] then some 7 else if l = [116, 117, 112, 108, 101] then some 8 else if l = [108, 105, 115, 116] then some 9 else none
theorem kindP_bd {l : List UInt8} {n : Int} (h : kindP l = some n) : 1 ≤ n ∧ n ≤ 9 := by
  unfold kindP at h
  repeat' split at h
  all_goals first | (injection h with h; omega) | cases h
theorem kindP_small {l : List UInt8} {n : Int} (h : kindP l = some n) : ∀ b ∈ l, isSm b = true := by
  unfold kindP at h
  repeat' split at h
  all_goals first | (rename_i e; subst e; decide) | cases h

/-- What stands behind a sign: how many bytes are such. -/
def tailW (p : UInt8 → Bool) (s : ByteArray) (j : Nat) : Nat := runOf p ((lst s).drop (j + 1))
def tailB (p : UInt8 → Bool) (s : ByteArray) (j : Nat) : List UInt8 := ((lst s).drop (j + 1)).take (tailW p s j)
def isPs (b : UInt8) : Bool := isSg b || decide (b.toNat = 124)

inductive Qk where
  | bad | sign (b : UInt8) | leaf (p : QT)
def qkAt (s : ByteArray) (j : Nat) : Qk :=
  match (lst s)[j]? with
  | none => .bad
  | some b =>
    if isPs b then .sign b
    else if b.toNat = 95 then .leaf .any
    else if b.toNat = 36 then (match refN (tailB isDig s j) with | some n => if 0 ≤ n ∧ n < 32 then .leaf (.var n) else .bad | none => .bad)
    else if b.toNat = 58 then (match kindP (tailB isWd s j) with | some n => .leaf (.kind n) | none => .bad)
    else match lf (s.extract j (fin s j)) with | some t => .leaf (.term t) | none => .bad
/-- Where the token that begins at a place ends. -/
def qfin (s : ByteArray) (j : Nat) : Nat :=
  match (lst s)[j]? with
  | none => j + 1
  | some b => if b.toNat = 36 then j + 1 + tailW isDig s j else if b.toNat = 58 then j + 1 + tailW isWd s j else if isPs b = true ∨ b.toNat = 95 then j + 1 else fin s j
theorem tailW_le (p : UInt8 → Bool) (s : ByteArray) (j : Nat) (h : j < s.size) : j + 1 + tailW p s j ≤ s.size := by
  have := runOf_le p ((lst s).drop (j + 1))
  rw [List.length_drop, lst_len] at this
  unfold tailW
  omega
theorem qfin_bd {s : ByteArray} {j : Nat} (h : j < s.size) : j < qfin s j ∧ qfin s j ≤ s.size := by
  have h1 := fin_bd h
  have h2 := tailW_le isDig s j h
  have h3 := tailW_le isWd s j h
  unfold qfin
  split
  · omega
  · repeat' split
    all_goals omega

/-! ### The machine -/
structure QOpn where
  k : Int
  items : List QT
  bar : Bool
  rest : List QT
/-- Opened ones, the innermost ahead, and what can stand next: 0 a pattern, 1 a pattern or what stands behind one, a comma aside, 2 a comma, the end, a bar, 3 the end. -/
inductive QS where
  | go (stk : List QOpn) (md : Nat)
  | whole (t : QT)
def qput (stk : List QOpn) (t : QT) : QS :=
  match stk with
  | [] => .whole t
  | o :: r => if o.bar = true then .go (⟨o.k, o.items, true, [t]⟩ :: r) 3 else .go (⟨o.k, o.items ++ [t], false, o.rest⟩ :: r) 2
def kP (b : UInt8) : Int := if b.toNat = 123 ∨ b.toNat = 125 then 5 else 6
def qstep : QS → Qk → Option QS
  | .whole _, _ => none
  | .go _ _, .bad => none
  | .go stk md, .leaf t => if md ≤ 1 then some (qput stk t) else none
  | .go stk md, .sign b =>
    if b.toNat = 123 ∨ b.toNat = 91 then (if md ≤ 1 then some (.go (⟨kP b, [], false, []⟩ :: stk) 1) else none)
    else if b.toNat = 44 then (if md = 2 then some (.go stk 0) else none)
    else match stk with
      | [] => none
      | o :: r =>
        if b.toNat = 124 then (if (md = 1 ∨ md = 2) ∧ o.k = 6 then some (.go (⟨o.k, o.items, true, o.rest⟩ :: r) 0) else none)
        else if md ≠ 0 ∧ o.k = kP b then some (qput r (.seq o.k o.items o.rest)) else none
/-- What is read of a text from a place on: nothing may stand behind. -/
def qrun (s : ByteArray) (σ : QS) (i : Nat) : Except Nat QT :=
  if _h : nxt s i < s.size then
    match qstep σ (qkAt s (nxt s i)) with
    | none => .error (nxt s i)
    | some σ' => qrun s σ' (qfin s (nxt s i))
  else match σ with
    | .whole t => .ok t
    | .go _ _ => .error s.size
termination_by s.size - i
decreasing_by
  have := qfin_bd _h
  have := nxt_ge s i
  omega
theorem qrun_no {s : ByteArray} {σ : QS} {i : Nat} (h : nxt s i < s.size) (hm : qstep σ (qkAt s (nxt s i)) = none) : qrun s σ i = .error (nxt s i) := by rw [qrun.eq_def, dif_pos h]; simp only [hm]
theorem qrun_yes {s : ByteArray} {σ σ' : QS} {i : Nat} (h : nxt s i < s.size) (hm : qstep σ (qkAt s (nxt s i)) = some σ') : qrun s σ i = qrun s σ' (qfin s (nxt s i)) := by rw [qrun.eq_def, dif_pos h]; simp only [hm]
theorem qrun_whole {s : ByteArray} {t : QT} {i : Nat} (h : ¬ nxt s i < s.size) : qrun s (.whole t) i = .ok t := by rw [qrun.eq_def, dif_neg h]
theorem qrun_more {s : ByteArray} {t : QT} {i : Nat} (h : nxt s i < s.size) : qrun s (.whole t) i = .error (nxt s i) := qrun_no h rfl
theorem qrun_end {s : ByteArray} {stk : List QOpn} {md i : Nat} (h : ¬ nxt s i < s.size) : qrun s (.go stk md) i = .error s.size := by rw [qrun.eq_def, dif_neg h]
/-- Blanks ahead don't matter. -/
theorem nxt_nxt (s : ByteArray) (i : Nat) : nxt s (nxt s i) = nxt s i := by
  cases h : (lst s)[nxt s i]? with
  | some b => exact nxt_self h (nxt_solid h)
  | none =>
    have h1 := List.getElem?_eq_none_iff.1 h
    have h2 : (lst s).drop (nxt s i) = [] := List.drop_eq_nil_of_le h1
    show nxt s i + runOf isBl ((lst s).drop (nxt s i)) = nxt s i
    rw [h2]
    rfl
theorem qrun_nxt (s : ByteArray) (σ : QS) (i : Nat) : qrun s σ (nxt s i) = qrun s σ i := by
  rw [qrun.eq_def s σ (nxt s i), qrun.eq_def s σ i, nxt_nxt]

/-! ### The document's descent and the machine -/
/-- The sign that ends a tuple or a list. -/
def shP (k : Int) : Nat := if k = 5 then 125 else 93
theorem q_leaf {s : ByteArray} {i : Nat} {t : QT} (hj : nxt s i < s.size) (h : qkAt s (nxt s i) = .leaf t) (stk : List QOpn) : qrun s (.go stk 0) i = qrun s (qput stk t) (qfin s (nxt s i)) :=
  qrun_yes hj (by rw [h]; simp [qstep])
theorem q_end {s : ByteArray} {i : Nat} (hj : ¬ nxt s i < s.size) (hi : i ≤ s.size) (stk : List QOpn) (md : Nat) : qrun s (.go stk md) i = .error (nxt s i) := by
  have := nxt_le s hi
  rw [qrun_end hj, show nxt s i = s.size by omega]
theorem q_bad {s : ByteArray} {i : Nat} (hj : nxt s i < s.size) (h : qkAt s (nxt s i) = .bad) (stk : List QOpn) (md : Nat) : qrun s (.go stk md) i = .error (nxt s i) :=
  qrun_no hj (by rw [h]; rfl)
theorem q_sign0 {s : ByteArray} {i : Nat} {b : UInt8} (hj : nxt s i < s.size) (h : qkAt s (nxt s i) = .sign b) (hb : b.toNat ≠ 123 ∧ b.toNat ≠ 91) (stk : List QOpn) : qrun s (.go stk 0) i = .error (nxt s i) :=
  qrun_no hj (by
    rw [h]
    simp only [qstep]
    rw [if_neg (by omega)]
    split
    · rfl
    · split
      · rfl
      · split
        · rw [if_neg (by omega)]
        · rw [if_neg (by simp)])
theorem q_open {s : ByteArray} {i : Nat} {b : UInt8} (hj : nxt s i < s.size) (h : qkAt s (nxt s i) = .sign b) (hb : b.toNat = 123 ∨ b.toNat = 91) (stk : List QOpn) : qrun s (.go stk 0) i = qrun s (.go (⟨kP b, [], false, []⟩ :: stk) 1) (qfin s (nxt s i)) :=
  qrun_yes hj (by
    rw [h]
    simp only [qstep]
    rw [if_pos hb, if_pos (by decide)])
theorem kP_sh {b : UInt8} {k : Int} (hk : k = 5 ∨ k = 6) (hb : b.toNat = shP k) : k = kP b := by
  unfold shP at hb
  unfold kP
  rcases hk with rfl | rfl
  · rw [if_pos (.inr (by simpa using hb))]
  · rw [if_neg (by simp at hb; omega)]
theorem kP_no {b : UInt8} {k : Int} (hk : k = 5 ∨ k = 6) (h : b.toNat ≠ shP k) (h1 : ¬ (b.toNat = 123 ∨ b.toNat = 91)) (h2 : b.toNat ≠ 44) (h4 : b.toNat ≠ 124) (hs : isPs b = true) : k ≠ kP b := by
  have h3 : b.toNat = 125 ∨ b.toNat = 93 := by
    simp only [isPs, isSg, Bool.or_eq_true, decide_eq_true_eq] at hs
    omega
  unfold shP at h
  unfold kP
  rcases hk with rfl | rfl
  · rw [if_neg (by simp at h; omega)]; decide
  · rw [if_pos (by simp at h; omega)]; decide
theorem q_shut {s : ByteArray} {i : Nat} {b : UInt8} {o : QOpn} {md : Nat} (hj : nxt s i < s.size) (h : qkAt s (nxt s i) = .sign b) (hk : o.k = 5 ∨ o.k = 6) (hb : b.toNat = shP o.k) (hm : md ≠ 0) (stk : List QOpn) : qrun s (.go (o :: stk) md) i = qrun s (qput stk (.seq o.k o.items o.rest)) (qfin s (nxt s i)) :=
  qrun_yes hj (by
    have hk2 := kP_sh hk hb
    have hb' : b.toNat = 125 ∨ b.toNat = 93 := by
      unfold shP at hb
      rcases hk with e | e <;> rw [e] at hb <;> simp at hb <;> omega
    rw [h]
    simp only [qstep]
    rw [if_neg (by omega), if_neg (by omega), if_neg (by omega), if_pos ⟨hm, hk2⟩])
/-- Behind what opens, if neither the sign that shuts it comes nor, in a list, a bar: as where a pattern must come. -/
theorem q_start {s : ByteArray} {i : Nat} {o : QOpn} (hi : i ≤ s.size) (hk : o.k = 5 ∨ o.k = 6) (h : ∀ b, nxt s i < s.size → qkAt s (nxt s i) = .sign b → isPs b = true ∧ b.toNat ≠ shP o.k ∧ ¬ (b.toNat = 124 ∧ o.k = 6)) (stk : List QOpn) : qrun s (.go (o :: stk) 1) i = qrun s (.go (o :: stk) 0) i := by
  by_cases hj : nxt s i < s.size
  · have hm : qstep (.go (o :: stk) 1) (qkAt s (nxt s i)) = qstep (.go (o :: stk) 0) (qkAt s (nxt s i)) := by
      cases ht : qkAt s (nxt s i) with
      | bad => rfl
      | leaf t => rfl
      | sign b =>
        obtain ⟨h1, h2, h5⟩ := h b hj ht
        simp only [qstep]
        by_cases h3 : b.toNat = 123 ∨ b.toNat = 91
        · rw [if_pos h3, if_pos h3]; rfl
        · rw [if_neg h3, if_neg h3]
          by_cases h4 : b.toNat = 44
          · rw [if_pos h4, if_pos h4]; rfl
          · rw [if_neg h4, if_neg h4]
            by_cases h6 : b.toNat = 124
            · rw [if_pos h6, if_pos h6, if_neg (fun hh => h5 ⟨h6, hh.2⟩), if_neg (by omega)]
            · rw [if_neg h6, if_neg h6, if_neg (fun hh => kP_no hk h2 h3 h4 h6 h1 hh.2), if_neg (by simp)]
    cases hs : qstep (.go (o :: stk) 0) (qkAt s (nxt s i)) with
    | none => rw [qrun_no hj hs, qrun_no hj (hm.trans hs)]
    | some σ => rw [qrun_yes hj hs, qrun_yes hj (hm.trans hs)]
  · rw [q_end hj hi, q_end hj hi]
theorem q_comma {s : ByteArray} {i : Nat} {b : UInt8} (hj : nxt s i < s.size) (h : qkAt s (nxt s i) = .sign b) (hb : b.toNat = 44) (stk : List QOpn) : qrun s (.go stk 2) i = qrun s (.go stk 0) (qfin s (nxt s i)) :=
  qrun_yes hj (by
    rw [h]
    simp only [qstep]
    rw [if_neg (by omega), if_pos hb]
    rfl)
theorem q_bar {s : ByteArray} {i : Nat} {b : UInt8} {o : QOpn} {md : Nat} (hj : nxt s i < s.size) (h : qkAt s (nxt s i) = .sign b) (hb : b.toNat = 124) (hk : o.k = 6) (hm : md = 1 ∨ md = 2) (stk : List QOpn) : qrun s (.go (o :: stk) md) i = qrun s (.go (⟨o.k, o.items, true, o.rest⟩ :: stk) 0) (qfin s (nxt s i)) :=
  qrun_yes hj (by
    rw [h]
    simp only [qstep]
    rw [if_neg (by omega), if_neg (by omega), if_pos hb, if_pos ⟨hm, hk⟩])
/-- Behind a whole pattern neither what shuts nor a comma nor, in a list, a bar. -/
theorem q_other {s : ByteArray} {i : Nat} {o : QOpn} (hi : i ≤ s.size) (hk : o.k = 5 ∨ o.k = 6) (h : ∀ b, nxt s i < s.size → qkAt s (nxt s i) = .sign b → isPs b = true ∧ b.toNat ≠ shP o.k ∧ b.toNat ≠ 44 ∧ ¬ (b.toNat = 124 ∧ o.k = 6)) (stk : List QOpn) : qrun s (.go (o :: stk) 2) i = .error (nxt s i) := by
  by_cases hj : nxt s i < s.size
  · refine qrun_no hj ?_
    cases ht : qkAt s (nxt s i) with
    | bad => rfl
    | leaf t => rfl
    | sign b =>
      obtain ⟨h1, h2, h3, h5⟩ := h b hj ht
      simp only [qstep]
      by_cases h4 : b.toNat = 123 ∨ b.toNat = 91
      · rw [if_pos h4]; rfl
      · rw [if_neg h4, if_neg h3]
        by_cases h6 : b.toNat = 124
        · rw [if_pos h6, if_neg (fun hh => h5 ⟨h6, hh.2⟩)]
        · rw [if_neg h6, if_neg (fun hh => kP_no hk h2 h4 h3 h6 h1 hh.2)]
  · exact q_end hj hi _ _
/-- Behind the rest nothing but what shuts. -/
theorem q_rest {s : ByteArray} {i : Nat} {o : QOpn} (hi : i ≤ s.size) (hk : o.k = 5 ∨ o.k = 6) (h : ∀ b, nxt s i < s.size → qkAt s (nxt s i) = .sign b → isPs b = true ∧ b.toNat ≠ shP o.k) (stk : List QOpn) : qrun s (.go (o :: stk) 3) i = .error (nxt s i) := by
  by_cases hj : nxt s i < s.size
  · refine qrun_no hj ?_
    cases ht : qkAt s (nxt s i) with
    | bad => rfl
    | leaf t => rfl
    | sign b =>
      obtain ⟨h1, h2⟩ := h b hj ht
      simp only [qstep]
      by_cases h4 : b.toNat = 123 ∨ b.toNat = 91
      · rw [if_pos h4]; rfl
      · rw [if_neg h4]
        by_cases h3 : b.toNat = 44
        · rw [if_pos h3]; rfl
        · rw [if_neg h3]
          by_cases h6 : b.toNat = 124
          · rw [if_pos h6, if_neg (by omega)]
          · rw [if_neg h6, if_neg (fun hh => kP_no hk h2 h4 h3 h6 h1 hh.2)]
  · exact q_end hj hi _ _
theorem qk_sign {s : ByteArray} {j : Nat} {b : UInt8} (h : qkAt s j = .sign b) : (lst s)[j]? = some b ∧ isPs b = true := by
  unfold qkAt at h
  split at h
  · cases h
  · rename_i c hc
    split at h
    · rename_i hs
      injection h with h
      subst h
      exact ⟨hc, hs⟩
    · repeat' split at h
      all_goals cases h
end Go.Proofs.YtlilfmpikampgaaGreatDoor

namespace Go.Proofs.YtlilfmpikampgaaGreatDoor
open Go.RowKit

theorem QT.ind {P : QT → Prop} (leaf : ∀ t, (∀ k l r, t ≠ .seq k l r) → P t) (seq : ∀ k l r, (∀ t ∈ l, P t) → (∀ t ∈ r, P t) → P (.seq k l r)) (t : QT) : P t :=
  QT.rec (motive_1 := P) (motive_2 := fun l => ∀ t ∈ l, P t) (leaf _ (by simp)) (leaf _ (by simp)) (fun _ => leaf _ (by simp)) (fun _ => leaf _ (by simp)) (fun _ => leaf _ (by simp))
    (fun k l r h h2 => seq k l r h h2) (by simp) (fun t l h1 h2 => by
      intro u hu
      rcases List.mem_cons.1 hu with rfl | hu
      · exact h1
      · exact h2 u hu) t
def QT.k : QT → Int
  | .zero => 0 | .any => 1 | .var _ => 2 | .term _ => 3 | .kind _ => 4 | .seq k _ _ => k
def QT.n : QT → Int
  | .var n => n | .kind n => n | _ => 0
def QT.t : QT → T
  | .term t => t | _ => .zero
/-- A pattern's eleven cells. -/
abbrev pcs (k n : Int) (t : T) (sl sr : Value) : Array Value := #[.int .i64 k, .int .i64 n, .int .i64 t.k, .int .i64 t.n, .complex .f64 t.x t.y, .string t.S, .int .i64 t.a, .int .i64 t.b, .slice none 0 0, sl, sr]
def QT.cs (p : QT) (sl sr : Value) : Array Value := pcs p.k p.n p.t sl sr

mutual
/-- A pattern's two slices of patterns, in blocks of F. -/
def QV (w : World) (F : Nat → Prop) : QT → Value → Value → Prop
  | .seq _ l r, sl, sr =>
    (∃ (A : Option Addr) (cap : Nat), sl = .slice A l.length cap ∧ l.length ≤ cap ∧ cap ≤ 9223372036854775807 ∧ (l = [] ∨ ∃ bl off, A = some ⟨bl, off, none⟩ ∧ bl < w.heap.size ∧ F bl ∧ QVs w F l bl off)) ∧
    (∃ (A : Option Addr) (cap : Nat), sr = .slice A r.length cap ∧ r.length ≤ cap ∧ cap ≤ 9223372036854775807 ∧ (r = [] ∨ ∃ bl off, A = some ⟨bl, off, none⟩ ∧ bl < w.heap.size ∧ F bl ∧ QVs w F r bl off))
  | .zero, sl, sr => sl = .slice none 0 0 ∧ sr = .slice none 0 0
  | .any, sl, sr => sl = .slice none 0 0 ∧ sr = .slice none 0 0
  | .var _, sl, sr => sl = .slice none 0 0 ∧ sr = .slice none 0 0
  | .term _, sl, sr => sl = .slice none 0 0 ∧ sr = .slice none 0 0
  | .kind _, sl, sr => sl = .slice none 0 0 ∧ sr = .slice none 0 0
def QVs (w : World) (F : Nat → Prop) : List QT → Nat → Nat → Prop
  | [], _, _ => True
  | t :: l, bl, off => (∃ sl sr, QV w F t sl sr ∧ ∀ j u, (t.cs sl sr)[j]? = some u → w.cell? ⟨bl, off + j, none⟩ = some u) ∧ QVs w F l bl (off + 11)
end
/-- A list of patterns that a slice is of. -/
def QL (w : World) (F : Nat → Prop) (l : List QT) (sl : Value) : Prop :=
  ∃ (A : Option Addr) (cap : Nat), sl = .slice A l.length cap ∧ l.length ≤ cap ∧ cap ≤ 9223372036854775807 ∧ (l = [] ∨ ∃ bl off, A = some ⟨bl, off, none⟩ ∧ bl < w.heap.size ∧ F bl ∧ QVs w F l bl off)
theorem QV.seq {w : World} {F : Nat → Prop} {k : Int} {l r : List QT} {sl sr : Value} : QV w F (.seq k l r) sl sr ↔ QL w F l sl ∧ QL w F r sr := by simp only [QV, QL]
theorem QV.leaf {w : World} {F : Nat → Prop} {t : QT} {sl sr : Value} (ht : ∀ k l r, t ≠ .seq k l r) : QV w F t sl sr ↔ sl = .slice none 0 0 ∧ sr = .slice none 0 0 := by
  cases t <;> first | exact absurd rfl (ht _ _ _) | simp only [QV]
theorem QL.nil (w : World) (F : Nat → Prop) : QL w F [] (.slice none 0 0) := ⟨none, 0, rfl, Nat.le_refl _, by decide, .inl rfl⟩
theorem QL.slice {w : World} {F : Nat → Prop} {l : List QT} {sl : Value} (h : QL w F l sl) : ∃ A n c, sl = .slice A n c := by
  obtain ⟨A, cap, rfl, _⟩ := h
  exact ⟨_, _, _, rfl⟩
theorem QV.slices {w : World} {F : Nat → Prop} {t : QT} {sl sr : Value} (h : QV w F t sl sr) : ∃ A n c B m d, sl = .slice A n c ∧ sr = .slice B m d := by
  cases t with
  | seq k l r =>
    obtain ⟨h1, h2⟩ := QV.seq.1 h
    obtain ⟨A, n, c, rfl⟩ := h1.slice
    obtain ⟨B, m, d, rfl⟩ := h2.slice
    exact ⟨_, _, _, _, _, _, rfl, rfl⟩
  | _ =>
    obtain ⟨rfl, rfl⟩ := (QV.leaf (by simp)).1 h
    exact ⟨_, _, _, _, _, _, rfl, rfl⟩
theorem QVs.iff {w : World} {F : Nat → Prop} {l : List QT} : ∀ {bl off : Nat}, QVs w F l bl off ↔ ∀ i t, l[i]? = some t → ∃ sl sr, QV w F t sl sr ∧ ∀ j u, (t.cs sl sr)[j]? = some u → w.cell? ⟨bl, off + 11 * i + j, none⟩ = some u := by
  induction l with
  | nil => intro bl off; simp [QVs]
  | cons t l ih =>
    intro bl off
    simp only [QVs]
    rw [ih]
    constructor
    · rintro ⟨h1, h2⟩ i u hu
      cases i with
      | zero =>
        simp at hu
        subst hu
        simpa using h1
      | succ i =>
        obtain ⟨sl, sr, h3, h4⟩ := h2 i u (by simpa using hu)
        exact ⟨sl, sr, h3, fun j v hv => by rw [show off + 11 * (i + 1) + j = off + 11 + 11 * i + j by omega]; exact h4 j v hv⟩
    · intro h
      refine ⟨by simpa using h 0 t rfl, fun i u hu => ?_⟩
      obtain ⟨sl, sr, h3, h4⟩ := h (i + 1) u (by simpa using hu)
      exact ⟨sl, sr, h3, fun j v hv => by rw [show off + 11 + 11 * i + j = off + 11 * (i + 1) + j by omega]; exact h4 j v hv⟩
/-- A block turned, or made: what lies in blocks of F lies on. -/
theorem QV.only {S : List Nat} {w w' : World} {F F' : Nat → Prop} (o : Only S w w') (hS : ∀ b ∈ S, ¬ F b) (hF : ∀ b, F b → F' b) (t : QT) : ∀ sl sr, QV w F t sl sr → QV w' F' t sl sr := by
  have key : ∀ l : List QT, (∀ t ∈ l, ∀ sl sr, QV w F t sl sr → QV w' F' t sl sr) → ∀ sl, QL w F l sl → QL w' F' l sl := by
    rintro l ih sl ⟨A, cap, h1, h2, h3, h4⟩
    refine ⟨A, cap, h1, h2, h3, ?_⟩
    rcases h4 with h4 | ⟨bl, off, h5, h6, h7, h8⟩
    · exact .inl h4
    · refine .inr ⟨bl, off, h5, Nat.lt_of_lt_of_le h6 o.size, hF _ h7, ?_⟩
      rw [QVs.iff] at h8 ⊢
      intro i u hu
      obtain ⟨sl', sr', h9, h10⟩ := h8 i u hu
      exact ⟨sl', sr', ih u (List.mem_of_getElem? hu) sl' sr' h9, fun j v hv => (o.cell (p := ⟨bl, off + 11 * i + j, none⟩) h6 (fun hm => hS _ hm h7)).trans (h10 j v hv)⟩
  refine QT.ind (P := fun t => ∀ sl sr, QV w F t sl sr → QV w' F' t sl sr) (fun t ht sl sr h => (QV.leaf ht).2 ((QV.leaf ht).1 h)) (fun k l r ih ih2 sl sr h => ?_) t
  obtain ⟨h1, h2⟩ := QV.seq.1 h
  exact QV.seq.2 ⟨key l ih sl h1, key r ih2 sr h2⟩
theorem QL.only {S : List Nat} {w w' : World} {F F' : Nat → Prop} (o : Only S w w') (hS : ∀ b ∈ S, ¬ F b) (hF : ∀ b, F b → F' b) {l : List QT} {sl : Value} (h : QL w F l sl) : QL w' F' l sl := by
  have := (QV.seq (k := 5) (r := [])).1 (QV.only o hS hF (.seq 5 l []) sl (.slice none 0 0) (QV.seq.2 ⟨h, QL.nil w F⟩))
  exact this.1
theorem QV.same {w w' : World} {F : Nat → Prop} (o : Only [] w w') {t : QT} {sl sr : Value} (h : QV w F t sl sr) : QV w' F t sl sr := QV.only o (by simp) (fun _ h => h) t sl sr h
theorem QL.same {w w' : World} {F : Nat → Prop} (o : Only [] w w') {l : List QT} {sl : Value} (h : QL w F l sl) : QL w' F l sl := QL.only o (by simp) (fun _ h => h) h
theorem QV.zero {w : World} {F : Nat → Prop} {sl sr : Value} (h : QV w F .zero sl sr) : sl = .slice none 0 0 ∧ sr = .slice none 0 0 := (QV.leaf (by simp)).1 h

/-! ### Which trees a reader makes -/
mutual
/-- Each part but for how many there are, how deep they stand, and locals that stand twice. -/
def QT.Good : QT → Prop
  | .zero => False
  | .any => True
  | .var n => 0 ≤ n ∧ n < 32
  | .term t => (∀ k l, t ≠ .tup k l) ∧ t.Good ∧ okT t = true
  | .kind n => 1 ≤ n ∧ n ≤ 9
  | .seq k l r => (k = 5 ∧ r = [] ∨ k = 6 ∧ r.length ≤ 1) ∧ QGoods l ∧ QGoods r
def QGoods : List QT → Prop
  | [] => True
  | t :: l => t.Good ∧ QGoods l
end
theorem QGoods.iff {l : List QT} : QGoods l ↔ ∀ t ∈ l, t.Good := by
  induction l with
  | nil => simp [QGoods]
  | cons t l ih => simp [QGoods, ih]
theorem QGoods.snoc {l : List QT} {t : QT} (h : QGoods l) (ht : t.Good) : QGoods (l ++ [t]) := by
  rw [QGoods.iff] at h ⊢
  intro u hu
  rcases List.mem_append.1 hu with hu | hu
  · exact h u hu
  · rw [List.mem_singleton.1 hu]; exact ht
theorem QGoods.one {t : QT} (ht : t.Good) : QGoods [t] := ⟨ht, trivial⟩

mutual
/-- A pattern gone through: how many parts were met, which locals; the error. -/
def qthr : QT → Nat → List Int → Nat → Nat × List Int × Int
  | .seq _ l r, met, bs, deep => if 1024 ≤ met ∨ 64 ≤ deep then (met, bs, 34) else
      if (qthrs l (met + 1) bs (deep + 1)).2.2 = 0 then qthrs r (qthrs l (met + 1) bs (deep + 1)).1 (qthrs l (met + 1) bs (deep + 1)).2.1 (deep + 1) else qthrs l (met + 1) bs (deep + 1)
  | .var n, met, bs, deep => if 1024 ≤ met ∨ 64 ≤ deep then (met, bs, 34) else if n ∈ bs then (met, bs, 50) else (met + 1, bs ++ [n], 0)
  | .zero, met, bs, deep => if 1024 ≤ met ∨ 64 ≤ deep then (met, bs, 34) else (met, bs, 50)
  | .any, met, bs, deep => if 1024 ≤ met ∨ 64 ≤ deep then (met, bs, 34) else (met + 1, bs, 0)
  | .term _, met, bs, deep => if 1024 ≤ met ∨ 64 ≤ deep then (met, bs, 34) else (met + 1, bs, 0)
  | .kind _, met, bs, deep => if 1024 ≤ met ∨ 64 ≤ deep then (met, bs, 34) else (met + 1, bs, 0)
def qthrs : List QT → Nat → List Int → Nat → Nat × List Int × Int
  | [], met, bs, _ => (met, bs, 0)
  | t :: l, met, bs, deep => if (qthr t met bs deep).2.2 = 0 then qthrs l (qthr t met bs deep).1 (qthr t met bs deep).2.1 deep else qthr t met bs deep
end
theorem qthrs_nil (met : Nat) (bs : List Int) (deep : Nat) : qthrs [] met bs deep = (met, bs, 0) := by simp only [qthrs]
theorem qthrs_cons (t : QT) (l : List QT) (met : Nat) (bs : List Int) (deep : Nat) : qthrs (t :: l) met bs deep = if (qthr t met bs deep).2.2 = 0 then qthrs l (qthr t met bs deep).1 (qthr t met bs deep).2.1 deep else qthr t met bs deep := by simp only [qthrs]
theorem qthr_seq (k : Int) (l r : List QT) (met : Nat) (bs : List Int) (deep : Nat) : qthr (.seq k l r) met bs deep = if 1024 ≤ met ∨ 64 ≤ deep then (met, bs, 34) else if (qthrs l (met + 1) bs (deep + 1)).2.2 = 0 then qthrs r (qthrs l (met + 1) bs (deep + 1)).1 (qthrs l (met + 1) bs (deep + 1)).2.1 (deep + 1) else qthrs l (met + 1) bs (deep + 1) := by simp only [qthr]
theorem qthrs_app (l r : List QT) (met : Nat) (bs : List Int) (deep : Nat) : qthrs (l ++ r) met bs deep = if (qthrs l met bs deep).2.2 = 0 then qthrs r (qthrs l met bs deep).1 (qthrs l met bs deep).2.1 deep else qthrs l met bs deep := by
  induction l generalizing met bs with
  | nil => simp [qthrs_nil]
  | cons t l ih =>
    rw [List.cons_append, qthrs_cons, qthrs_cons]
    by_cases h : (qthr t met bs deep).2.2 = 0
    · rw [if_pos h, if_pos h, ih]
    · rw [if_neg h, if_neg h, if_neg h]
/-- What is met stays within the bound; locals are told apart, and each is one. -/
theorem qthr_bd (t : QT) : t.Good → ∀ met bs deep, met ≤ 1024 → bs.Nodup → (∀ n ∈ bs, 0 ≤ n ∧ n < 32) → (qthr t met bs deep).1 ≤ 1024 ∧ met ≤ (qthr t met bs deep).1 ∧ (qthr t met bs deep).2.1.Nodup ∧ ∀ n ∈ (qthr t met bs deep).2.1, 0 ≤ n ∧ n < 32 := by
  have key : ∀ l : List QT, (∀ t ∈ l, t.Good → ∀ met bs deep, met ≤ 1024 → bs.Nodup → (∀ n ∈ bs, 0 ≤ n ∧ n < 32) → (qthr t met bs deep).1 ≤ 1024 ∧ met ≤ (qthr t met bs deep).1 ∧ (qthr t met bs deep).2.1.Nodup ∧ ∀ n ∈ (qthr t met bs deep).2.1, 0 ≤ n ∧ n < 32) → QGoods l → ∀ met bs deep, met ≤ 1024 → bs.Nodup → (∀ n ∈ bs, 0 ≤ n ∧ n < 32) → (qthrs l met bs deep).1 ≤ 1024 ∧ met ≤ (qthrs l met bs deep).1 ∧ (qthrs l met bs deep).2.1.Nodup ∧ ∀ n ∈ (qthrs l met bs deep).2.1, 0 ≤ n ∧ n < 32 := by
    intro l
    induction l with
    | nil => intro _ _ met bs deep h1 h2 h3; rw [qthrs_nil]; exact ⟨h1, Nat.le_refl _, h2, h3⟩
    | cons t l ih =>
      intro hh hg met bs deep h1 h2 h3
      obtain ⟨a, b, c, d⟩ := hh t (by simp) hg.1 met bs deep h1 h2 h3
      rw [qthrs_cons]
      split
      · obtain ⟨a', b', c', d'⟩ := ih (fun u hu => hh u (by simp [hu])) hg.2 _ _ deep a c d
        exact ⟨a', by omega, c', d'⟩
      · exact ⟨a, b, c, d⟩
  refine QT.ind (P := fun t => t.Good → ∀ met bs deep, met ≤ 1024 → bs.Nodup → (∀ n ∈ bs, 0 ≤ n ∧ n < 32) → (qthr t met bs deep).1 ≤ 1024 ∧ met ≤ (qthr t met bs deep).1 ∧ (qthr t met bs deep).2.1.Nodup ∧ ∀ n ∈ (qthr t met bs deep).2.1, 0 ≤ n ∧ n < 32) (fun t ht hg met bs deep h1 h2 h3 => ?_) (fun k l r ih ih2 hg met bs deep h1 h2 h3 => ?_) t
  · cases t with
    | seq k l r => exact absurd rfl (ht _ _ _)
    | var n =>
      simp only [qthr]
      split
      · exact ⟨h1, Nat.le_refl _, h2, h3⟩
      · split
        · exact ⟨h1, Nat.le_refl _, h2, h3⟩
        · rename_i hn
          refine ⟨by simp only; omega, by simp only; omega, ?_, ?_⟩
          · simp only
            rw [List.nodup_append]
            exact ⟨h2, by simp, fun a ha b hb e => hn (by rw [← List.mem_singleton.1 hb, ← e]; exact ha)⟩
          · intro x hx
            rcases List.mem_append.1 hx with hx | hx
            · exact h3 x hx
            · rw [List.mem_singleton.1 hx]; exact hg
    | zero => exact hg.elim
    | _ =>
      simp only [qthr]
      split
      · exact ⟨h1, Nat.le_refl _, h2, h3⟩
      · exact ⟨by simp only; omega, by simp only; omega, h2, h3⟩
  · rw [qthr_seq]
    split
    · exact ⟨h1, Nat.le_refl _, h2, h3⟩
    · rename_i hc
      obtain ⟨a, b, c, d⟩ := key l ih hg.2.1 (met + 1) bs (deep + 1) (by omega) h2 h3
      split
      · obtain ⟨a', b', c', d'⟩ := key r ih2 hg.2.2 _ _ (deep + 1) a c d
        exact ⟨a', by omega, c', d'⟩
      · exact ⟨a, by omega, c, d⟩
/-- What Check tells of a pattern. -/
def qchk (t : QT) : Int := (qthr t 0 [] 0).2.2
end Go.Proofs.YtlilfmpikampgaaGreatDoor

namespace Go.Proofs.YtlilfmpikampgaaGreatDoor
open Go.RowKit

theorem p_blank (b : UInt8) (w : World) : Calls Tryz.prog 30 #[.int .u8 b.toNat] w fun e w' => e = .returned (.bool (isBl b)) ∧ w = w' := by
  go_enter Tryz.func30, Tryz.ntmps30
  go_wp2_with fail
  all_goals
    go_ret
    exact ⟨ret_bool (by rw [Bool.eq_iff_iff]; simp [isBl]; omega), rfl⟩
theorem p_digit (b : UInt8) (w : World) : Calls Tryz.prog 80 #[.int .u8 b.toNat] w fun e w' => e = .returned (.bool (isDig b)) ∧ w = w' := by
  go_enter Tryz.func80, Tryz.ntmps80
  go_wp2_with fail
  all_goals
    go_ret
    exact ⟨ret_bool (by rw [Bool.eq_iff_iff]; simp [isDig]; omega), rfl⟩
set_option maxHeartbeats 1000000 in
theorem p_word (b : UInt8) (w : World) : Calls Tryz.prog 82 #[.int .u8 b.toNat] w fun e w' => e = .returned (.bool (isWd b)) ∧ w = w' := by
  go_enter Tryz.func82, Tryz.ntmps82
  go_wp2_with fail
  (with_reducible refine (p_digit _ _).mono ?_)
  rintro e w1 ⟨rfl, rfl⟩
  cases hd : isDig b with
  | true =>
    go_wp2_with fail
    go_ret
    exact ⟨ret_bool (by simp [isWd, hd]), rfl⟩
  | false =>
    have hd2 : ¬ (48 ≤ b.toNat ∧ b.toNat ≤ 57) := by simpa [isDig] using hd
    go_wp2_with fail
    all_goals
      go_ret
      exact ⟨ret_bool (by rw [Bool.eq_iff_iff, wd_of]; simp; omega), rfl⟩
theorem runP_here {p : UInt8 → Bool} {s : ByteArray} {j : Nat} (h : j < s.size) : j + runOf p ((lst s).drop j) = if p (s[j]'h) = true then (j + 1) + runOf p ((lst s).drop (j + 1)) else j := by
  have hd : (lst s).drop j = s[j]'h :: (lst s).drop (j + 1) := by
    rw [List.drop_eq_getElem_cons (by rw [lst_len]; exact h)]
    rfl
  rw [hd]
  split
  · rename_i hb; rw [runOf_yes _ hb]; omega
  · rename_i hb; rw [runOf_no _ (by simpa using hb)]; omega
theorem runP_none {p : UInt8 → Bool} {s : ByteArray} {j : Nat} (h : ¬ j < s.size) : runOf p ((lst s).drop j) = 0 := by
  rw [List.drop_eq_nil_of_le (by rw [lst_len]; omega)]; rfl
set_option maxHeartbeats 1000000 in
set_option maxRecDepth 20000 in
/-- How many bytes ahead are such. -/
theorem prun_blank (s : ByteArray) (w : World) (hs : s.size ≤ 262144) :
    Calls Tryz.prog 29 #[.string s, .func (.func 30) #[] #[]] w fun e w' => e = .returned (.int .i64 (runOf isBl (lst s) : Nat)) ∧ w = w' := by
  obtain ⟨r, hr⟩ : ∃ r, runOf isBl (lst s) = r := ⟨_, rfl⟩
  rw [hr]
  have hr0 : 0 + runOf isBl ((lst s).drop 0) = r := by simpa using hr
  clear hr
  go_enter Tryz.func29, Tryz.ntmps29
  go_wp2_with fail
  go_loopw [8] (fun iv wr => ∃ j : Nat, iv = .int .i64 j ∧ j ≤ s.size ∧ j + runOf isBl ((lst s).drop j) = r ∧ w = wr) (fun iv _ => s.size - (intOf iv).toNat)
  case atStart => exact ⟨0, rfl, Nat.zero_le _, hr0, rfl⟩
  case round =>
    obtain ⟨j, rfl, hj, hjr, rfl⟩ := hrel
    have HJ := Lib.hid hjr
    clear hr0 hjr
    by_cases hlt : j < s.size
    · have HR := Lib.hid (runP_here (p := isBl) hlt)
      go_wp2_with fail
      (with_reducible refine (p_blank _ _).mono ?_)
      rintro e w1 ⟨rfl, rfl⟩
      cases hd : isBl (s[j]'hlt) with
      | true =>
        have HN := Lib.hid (show (j + 1) + runOf isBl ((lst s).drop (j + 1)) = r by have := HR.out; rw [hd, if_pos rfl] at this; rw [← this]; exact HJ.out)
        clear hd
        go_wp2_with fail
        go_roundw
        case rel => exact ⟨j + 1, by go_num, by omega, HN.out, by trivial⟩
        case measure =>
          simp [intOf]
          omega
      | false =>
        have HN := Lib.hid (show j = r by have := HR.out; rw [hd, if_neg (by simp)] at this; rw [← this]; exact HJ.out)
        clear hd
        go_wp2_with fail
        go_ret
        exact ⟨ret_int (by have := HN.out; omega), rfl⟩
    · have HN := Lib.hid (show j = r by have := HJ.out; rw [runP_none hlt] at this; omega)
      go_wp2_with fail
      go_ret
      exact ⟨ret_int (by have := HN.out; omega), rfl⟩
set_option maxHeartbeats 1000000 in
set_option maxRecDepth 20000 in
/-- How many bytes ahead are such. -/
theorem prun_digit (s : ByteArray) (w : World) (hs : s.size ≤ 262144) :
    Calls Tryz.prog 29 #[.string s, .func (.func 80) #[] #[]] w fun e w' => e = .returned (.int .i64 (runOf isDig (lst s) : Nat)) ∧ w = w' := by
  obtain ⟨r, hr⟩ : ∃ r, runOf isDig (lst s) = r := ⟨_, rfl⟩
  rw [hr]
  have hr0 : 0 + runOf isDig ((lst s).drop 0) = r := by simpa using hr
  clear hr
  go_enter Tryz.func29, Tryz.ntmps29
  go_wp2_with fail
  go_loopw [8] (fun iv wr => ∃ j : Nat, iv = .int .i64 j ∧ j ≤ s.size ∧ j + runOf isDig ((lst s).drop j) = r ∧ w = wr) (fun iv _ => s.size - (intOf iv).toNat)
  case atStart => exact ⟨0, rfl, Nat.zero_le _, hr0, rfl⟩
  case round =>
    obtain ⟨j, rfl, hj, hjr, rfl⟩ := hrel
    have HJ := Lib.hid hjr
    clear hr0 hjr
    by_cases hlt : j < s.size
    · have HR := Lib.hid (runP_here (p := isDig) hlt)
      go_wp2_with fail
      (with_reducible refine (p_digit _ _).mono ?_)
      rintro e w1 ⟨rfl, rfl⟩
      cases hd : isDig (s[j]'hlt) with
      | true =>
        have HN := Lib.hid (show (j + 1) + runOf isDig ((lst s).drop (j + 1)) = r by have := HR.out; rw [hd, if_pos rfl] at this; rw [← this]; exact HJ.out)
        clear hd
        go_wp2_with fail
        go_roundw
        case rel => exact ⟨j + 1, by go_num, by omega, HN.out, by trivial⟩
        case measure =>
          simp [intOf]
          omega
      | false =>
        have HN := Lib.hid (show j = r by have := HR.out; rw [hd, if_neg (by simp)] at this; rw [← this]; exact HJ.out)
        clear hd
        go_wp2_with fail
        go_ret
        exact ⟨ret_int (by have := HN.out; omega), rfl⟩
    · have HN := Lib.hid (show j = r by have := HJ.out; rw [runP_none hlt] at this; omega)
      go_wp2_with fail
      go_ret
      exact ⟨ret_int (by have := HN.out; omega), rfl⟩
set_option maxHeartbeats 1000000 in
set_option maxRecDepth 20000 in
/-- How many bytes ahead are such. -/
theorem prun_word (s : ByteArray) (w : World) (hs : s.size ≤ 262144) :
    Calls Tryz.prog 29 #[.string s, .func (.func 82) #[] #[]] w fun e w' => e = .returned (.int .i64 (runOf isWd (lst s) : Nat)) ∧ w = w' := by
  obtain ⟨r, hr⟩ : ∃ r, runOf isWd (lst s) = r := ⟨_, rfl⟩
  rw [hr]
  have hr0 : 0 + runOf isWd ((lst s).drop 0) = r := by simpa using hr
  clear hr
  go_enter Tryz.func29, Tryz.ntmps29
  go_wp2_with fail
  go_loopw [8] (fun iv wr => ∃ j : Nat, iv = .int .i64 j ∧ j ≤ s.size ∧ j + runOf isWd ((lst s).drop j) = r ∧ w = wr) (fun iv _ => s.size - (intOf iv).toNat)
  case atStart => exact ⟨0, rfl, Nat.zero_le _, hr0, rfl⟩
  case round =>
    obtain ⟨j, rfl, hj, hjr, rfl⟩ := hrel
    have HJ := Lib.hid hjr
    clear hr0 hjr
    by_cases hlt : j < s.size
    · have HR := Lib.hid (runP_here (p := isWd) hlt)
      go_wp2_with fail
      (with_reducible refine (p_word _ _).mono ?_)
      rintro e w1 ⟨rfl, rfl⟩
      cases hd : isWd (s[j]'hlt) with
      | true =>
        have HN := Lib.hid (show (j + 1) + runOf isWd ((lst s).drop (j + 1)) = r by have := HR.out; rw [hd, if_pos rfl] at this; rw [← this]; exact HJ.out)
        clear hd
        go_wp2_with fail
        go_roundw
        case rel => exact ⟨j + 1, by go_num, by omega, HN.out, by trivial⟩
        case measure =>
          simp [intOf]
          omega
      | false =>
        have HN := Lib.hid (show j = r by have := HR.out; rw [hd, if_neg (by simp)] at this; rw [← this]; exact HJ.out)
        clear hd
        go_wp2_with fail
        go_ret
        exact ⟨ret_int (by have := HN.out; omega), rfl⟩
    · have HN := Lib.hid (show j = r by have := HJ.out; rw [runP_none hlt] at this; omega)
      go_wp2_with fail
      go_ret
      exact ⟨ret_int (by have := HN.out; omega), rfl⟩
end Go.Proofs.YtlilfmpikampgaaGreatDoor

namespace Go.Proofs.YtlilfmpikampgaaGreatDoor
open Go.RowKit

/-- The names, each in its kind's place; in place 0 none. -/
def knl : List ByteArray := [⟨#[]⟩, ⟨#[110, 105, 108]⟩, ⟨#[98, 111, 111, 108]⟩, ⟨#[105, 110, 116]⟩, ⟨#[99, 111, 109, 112, 108, 101, 120]⟩, ⟨#[97, 116, 111, 109]⟩, ⟨#[112, 105, 100]⟩, ⟨#[114, 101, 102]⟩, ⟨#[116, 117, 112, 108, 101]⟩, ⟨#[108, 105, 115, 116]⟩]
def kn (j : Nat) : ByteArray := knl[j]?.getD ⟨#[]⟩
/-- The table of names, as it is laid. -/
def KN (w : World) : Prop := ∀ j, j < 10 → w.cell? ⟨0, j, none⟩ = some (.string (kn j))
theorem KN.only {S : List Nat} {w w' : World} (h : KN w) (hb : 0 < w.heap.size) (o : Only S w w') (hS : 0 ∉ S) : KN w' :=
  fun j hj => (o.cell (p := ⟨0, j, none⟩) hb hS).trans (h j hj)
theorem kind_at {s : ByteArray} {j : Nat} (h1 : 1 ≤ j) (h2 : j < 10) (h : lst (kn j) = lst s) : kindP (lst s) = some (j : Int) := by
  rw [← h]
  clear h
  rcases j with _ | _ | _ | _ | _ | _ | _ | _ | _ | _ | j
  · omega
  all_goals first | omega | kernel_rfl
theorem kind_no {s : ByteArray} (h : ∀ j, 1 ≤ j → j < 10 → lst (kn j) ≠ lst s) : kindP (lst s) = none := by
  have h1 : lst s ≠ [110, 105, 108] := fun e => h 1 (by decide) (by decide) (e ▸ rfl)
  have h2 : lst s ≠ [98, 111, 111, 108] := fun e => h 2 (by decide) (by decide) (e ▸ rfl)
  have h3 : lst s ≠ [105, 110, 116] := fun e => h 3 (by decide) (by decide) (e ▸ rfl)
  have h4 : lst s ≠ [99, 111, 109, 112, 108, 101, 120] := fun e => h 4 (by decide) (by decide) (e ▸ rfl)
  have h5 : lst s ≠ [97, 116, 111, 109] := fun e => h 5 (by decide) (by decide) (e ▸ rfl)
  have h6 : lst s ≠ [112, 105, 100] := fun e => h 6 (by decide) (by decide) (e ▸ rfl)
  have h7 : lst s ≠ [114, 101, 102] := fun e => h 7 (by decide) (by decide) (e ▸ rfl)
  have h8 : lst s ≠ [116, 117, 112, 108, 101] := fun e => h 8 (by decide) (by decide) (e ▸ rfl)
  have h9 : lst s ≠ [108, 105, 115, 116] := fun e => h 9 (by decide) (by decide) (e ▸ rfl)
  unfold kindP
  rw [if_neg h1, if_neg h2, if_neg h3, if_neg h4, if_neg h5, if_neg h6, if_neg h7, if_neg h8, if_neg h9]
/-- What KindOf answers. -/
def kindU (s : ByteArray) : Int × Int := match kindP (lst s) with | some n => (n, 0) | none => (0, 3)
theorem kindU_at {s : ByteArray} {j : Nat} (h1 : 1 ≤ j) (h2 : j < 10) (h : lst (kn j) = lst s) : kindU s = ((j : Int), 0) := by unfold kindU; rw [kind_at h1 h2 h]
theorem kindU_no {s : ByteArray} (h : ∀ j, 1 ≤ j → j < 10 → lst (kn j) ≠ lst s) : kindU s = (0, 3) := by unfold kindU; rw [kind_no h]
theorem eq_lists {a b : ByteArray} : (a.toList == b.toList) = decide (lst a = lst b) := by rw [toList_lst, toList_lst, Bool.eq_iff_iff]; simp
set_option maxRecDepth 20000 in
set_option maxHeartbeats 1000000 in
theorem kindOf_any (s : ByteArray) (w : World) (hk : KN w) : Calls Tryz.prog 83 #[.string s] w fun e w' => e = .returned (.tuple #[.int .i64 (kindU s).1, .int .i64 (kindU s).2]) ∧ w = w' := by
  have HK := Lib.hid hk
  clear hk
  go_enter Tryz.func83, Tryz.ntmps83
  go_wp2_with fail
  go_loopw [4] (fun iv wr => ∃ j : Nat, iv = .int .i64 j ∧ 1 ≤ j ∧ j ≤ 10 ∧ (∀ i, 1 ≤ i → i < j → lst (kn i) ≠ lst s) ∧ w = wr) (fun iv _ => 10 - (intOf iv).toNat)
  case atStart => exact ⟨1, rfl, Nat.le_refl _, by decide, fun i h1 h2 => by omega, rfl⟩
  case round =>
    obtain ⟨j, rfl, hj1, hj, hne, rfl⟩ := hrel
    have HN := Lib.hid hne
    clear hne
    by_cases hlt : j < 10
    · have c0 := HK.out j hlt
      have e1 : ((j : Int) ≤ 9) := by omega
      have e2 : ((j : Int) < 10) := by omega
      by_cases he : lst (kn j) = lst s
      · have e3 : ((kn j).toList == s.toList) = true := by rw [eq_lists]; simp [he]
        have HU := Lib.hid (kindU_at hj1 hlt he)
        clear he
        generalize kn j = nm at c0 e3
        go_wp2_with fail
        exact bodyPost_ret (v := .tuple #[.int .i64 j, .int .i64 0]) (by simp [results, Tryz.results83, go_sem]) rfl ⟨by rw [HU.out], rfl⟩
      · have e3 : ((kn j).toList == s.toList) = false := by rw [eq_lists]; simp [he]
        have HN2 := Lib.hid (show ∀ i, 1 ≤ i → i < j + 1 → lst (kn i) ≠ lst s from fun i h1 h2 => by
          by_cases h : i = j
          · rw [h]; exact he
          · exact HN.out i h1 (by omega))
        clear he
        generalize kn j = nm at c0 e3
        go_wp2_with fail
        go_roundw
        case rel => exact ⟨j + 1, by go_num, by omega, by omega, HN2.out, by trivial⟩
        case measure =>
          simp [intOf]
          omega
    · have HU := Lib.hid (kindU_no (s := s) (fun i h1 h2 => HN.out i h1 (by omega)))
      have e1 : ¬ ((j : Int) ≤ 9) := by omega
      go_wp2_with fail
      exact bodyPost_ret (v := .tuple #[.int .i64 0, .int .i64 3]) (by simp [results, Tryz.results83, go_sem]) rfl ⟨by rw [HU.out], rfl⟩
set_option maxRecDepth 20000 in
set_option maxHeartbeats 4000000 in
theorem rkind_any (j : Nat) (D : Int) (w : World) (h1 : 1 ≤ j) (h2 : j < 10) (hD : D = (j : Int)) : Calls Tryz.prog 72 #[.int .i64 D] w fun e w' => e = .returned (.tuple #[.string (kn j), .int .i64 0]) ∧ Only [] w w' := by
  subst hD
  rcases j with _ | _ | _ | _ | _ | _ | _ | _ | _ | _ | j
  · omega
  all_goals first
    | omega
    | (go_enter Tryz.func72, Tryz.ntmps72
       go_wp2_with fail
       exact bodyPost_ret (v := .tuple #[.string (kn _), .int .i64 0]) (by simp [results, Tryz.results72, go_sem]; rfl) rfl ⟨rfl, (Only.refl [] w).alloc _⟩)
end Go.Proofs.YtlilfmpikampgaaGreatDoor

namespace Go.Proofs.YtlilfmpikampgaaGreatDoor
open Go.RowKit

set_option maxRecDepth 20000 in
set_option maxHeartbeats 1000000 in
theorem rkindOf_any (s : ByteArray) (w : World) : Calls Tryz.prog 61 #[.string s] w fun e w' => e = .returned (.tuple #[.int .i64 (kindU s).1, .int .i64 (kindU s).2]) ∧ Only [] w w' := by
  go_enter Tryz.func61, Tryz.ntmps61
  go_wp2_with fail
  go_loopw [4] (fun iv wr => ∃ j : Nat, iv = .int .i64 j ∧ 1 ≤ j ∧ j ≤ 10 ∧ (∀ i, 1 ≤ i → i < j → lst (kn i) ≠ lst s) ∧ Only [] w wr) (fun iv _ => 10 - (intOf iv).toNat)
  case atStart => exact ⟨1, rfl, Nat.le_refl _, by decide, fun i h1 h2 => by omega, Only.refl _ _⟩
  case round =>
    obtain ⟨j, rfl, hj1, hj, hne, ho⟩ := hrel
    have HN := Lib.hid hne
    have HO := Lib.hid ho
    clear hne ho
    by_cases hlt : j < 10
    · have e1 : ((j : Int) ≤ 9) := by omega
      by_cases he : lst (kn j) = lst s
      · have e3 : ((kn j).toList == s.toList) = true := by rw [eq_lists]; simp [he]
        have HU := Lib.hid (kindU_at hj1 hlt he)
        have HC := Lib.hid (fun w => rkind_any j (j : Int) w hj1 hlt rfl)
        clear he
        generalize kn j = nm at HC e3
        go_wp2_with fail
        (with_reducible refine (HC.out _).mono ?_)
        rintro e w1 ⟨rfl, o1⟩
        have HO1 := Lib.hid (HO.out.trans o1 (by simp))
        clear o1
        go_wp2_with fail
        exact bodyPost_ret (v := .tuple #[.int .i64 j, .int .i64 0]) (by simp [results, Tryz.results61, go_sem]) rfl ⟨by rw [HU.out], HO1.out⟩
      · have e3 : ((kn j).toList == s.toList) = false := by rw [eq_lists]; simp [he]
        have HN2 := Lib.hid (show ∀ i, 1 ≤ i → i < j + 1 → lst (kn i) ≠ lst s from fun i h1 h2 => by
          by_cases h : i = j
          · rw [h]; exact he
          · exact HN.out i h1 (by omega))
        have HC := Lib.hid (fun w => rkind_any j (j : Int) w hj1 hlt rfl)
        clear he
        generalize kn j = nm at HC e3
        go_wp2_with fail
        (with_reducible refine (HC.out _).mono ?_)
        rintro e w1 ⟨rfl, o1⟩
        have HO1 := Lib.hid (HO.out.trans o1 (by simp))
        clear o1
        go_wp2_with fail
        go_roundw
        case rel => exact ⟨j + 1, by go_num, by omega, by omega, HN2.out, HO1.out⟩
        case measure =>
          simp [intOf]
          omega
    · have HU := Lib.hid (kindU_no (s := s) (fun i h1 h2 => HN.out i h1 (by omega)))
      have e1 : ¬ ((j : Int) ≤ 9) := by omega
      go_wp2_with fail
      exact bodyPost_ret (v := .tuple #[.int .i64 0, .int .i64 3]) (by simp [results, Tryz.results61, go_sem]) rfl ⟨by rw [HU.out], HO.out⟩

/-! ### What a token of patterns is -/
theorem tailB_lst (p : UInt8 → Bool) (s : ByteArray) (j : Nat) : lst (s.extract (j + 1) (j + 1 + tailW p s j)) = tailB p s j := by
  rw [ext_lst, show j + 1 + tailW p s j - (j + 1) = tailW p s j by omega]
  rfl
end Go.Proofs.YtlilfmpikampgaaGreatDoor

namespace Go.Proofs.YtlilfmpikampgaaGreatDoor
open Go.RowKit

theorem runOf_full {p : UInt8 → Bool} {l : List UInt8} (h : ∀ c ∈ l, p c = true) : runOf p l = l.length := by
  induction l with
  | nil => rfl
  | cons b l ih => rw [runOf_yes l (h b (by simp)), ih (fun c hc => h c (by simp [hc]))]; rfl
theorem wid_dig {c : UInt8} {r : List UInt8} (h : ∀ b ∈ c :: r, isDig b = true) : wid (c :: r) = (c :: r).length := by
  have hc := isDig_bd (h c (by simp))
  have h1 : isSm c = false := by simp [isSm]; omega
  have h2 : isDig c = true := h c (by simp)
  have h3 : runOf isDig r = r.length := runOf_full (fun b hb => h b (by simp [hb]))
  have h4 : ¬ ((c :: r).head? = some 45 ∧ runOf isDig (c :: r).tail = 0) := fun e => by
    have e1 : c = 45 := by injection e.1
    rw [e1] at hc
    exact absurd hc.1 (by decide)
  unfold wid
  simp only [h1, h2, Bool.true_or, if_true, Bool.false_eq_true, if_false]
  unfold numW
  rw [if_neg h4, List.tail_cons, h3]
  have : otherW ((c :: r).drop (1 + r.length)) = 0 := by
    rw [List.drop_eq_nil_of_le (by simp; omega)]
    simp [otherW]
  rw [this]
  simp
  omega
theorem lf_dig {d : ByteArray} {c : UInt8} {r : List UInt8} (e : lst d = c :: r) (h : ∀ b ∈ c :: r, isDig b = true) : lf d = intT (c :: r) := by
  have hc := isDig_bd (h c (by simp))
  have h1 : isSm c = false := by simp [isSm]; omega
  have h2 : Lib.hasSuffix (c :: r) [105] = false := by
    by_cases hx : Lib.hasSuffix (c :: r) [105] = true
    · exfalso
      have hm : (105 : UInt8) ∈ c :: r := by
        have hs : [(105 : UInt8)] <:+ (c :: r) := by simpa [Lib.hasSuffix] using hx
        exact hs.subset (by simp)
      have := h 105 hm
      exact absurd this (by decide)
    · simpa using hx
  unfold lf
  rw [e]
  simp only [h1, Bool.false_eq_true, if_false]
  rw [if_neg (by omega), if_neg (by omega), h2]
  simp
theorem lst_inj {a b : ByteArray} (h : lst a = lst b) : a = b := by
  obtain ⟨⟨a⟩⟩ := a
  obtain ⟨⟨b⟩⟩ := b
  simp only [lst] at h
  rw [h]
theorem ext_all {d : ByteArray} {n : Nat} (h : d.size ≤ n) : d.extract 0 n = d := by
  apply lst_inj
  rw [ext_lst, List.drop_zero]
  exact List.take_of_length_le (by rw [lst_len]; omega)
/-- What layer 4 makes of digits: the number that they are. -/
theorem pspec_dig {d : ByteArray} (hd : ∀ b ∈ lst d, isDig b = true) : pspec d (.go [] 0) 0 = match refN (lst d) with | some n => .ok (.int n) | none => .error 0 := by
  cases e : lst d with
  | nil =>
    have hz : d.size = 0 := by rw [← lst_len, e]; rfl
    have h0 : nxt d 0 = 0 := by unfold nxt; rw [e]; rfl
    have hr : run d (.go [] 0) 0 = .error d.size := run_end (by omega)
    rw [show refN ([] : List UInt8) = none by kernel_rfl]
    unfold pspec
    rw [hr, hz]
  | cons c r =>
    rw [e] at hd
    have hc := isDig_bd (hd c (by simp))
    have hsz : d.size = (c :: r).length := by rw [← lst_len, e]
    have hat : (lst d)[0]? = some c := by rw [e]; rfl
    have hbl : isBl c = false := by simp [isBl]; omega
    have h0 : nxt d 0 = 0 := nxt_self hat hbl
    have hlt : nxt d 0 < d.size := by rw [h0, hsz]; simp
    have hfin : fin d 0 = d.size := by
      unfold fin
      rw [List.drop_zero, e, wid_dig hd, hsz]
      omega
    have hsg : isSg c = false := by simp [isSg]; omega
    have htk : tkAt d 0 = match refN (c :: r) with | some n => .term (.int n) | none => .bad := by
      unfold tkAt
      rw [hat, hfin, ext_all (Nat.le_refl _), lf_dig e hd, intT_ref]
      simp only [hsg, Bool.false_eq_true, if_false]
      cases refN (c :: r) <;> rfl
    have hend : nxt d (fin d 0) = d.size := by
      rw [hfin]
      unfold nxt
      rw [List.drop_eq_nil_of_le (by rw [lst_len]; omega)]
      rfl
    unfold pspec
    cases hn : refN (c :: r) with
    | none =>
      rw [run_no hlt (by rw [h0, htk, hn]; rfl), h0]
    | some n =>
      rw [run_yes hlt (σ' := .whole (.int n)) (by rw [h0, htk, hn]; rfl), run_whole, h0]
      simp only
      rw [hend]
      simp
theorem refN_dig {l : List UInt8} {n : Int} (hd : ∀ b ∈ l, isDig b = true) (h : refN l = some n) : 0 ≤ n := by
  obtain ⟨h1, h2⟩ := refN_some.1 h
  obtain ⟨h3, _⟩ := numP_some h1
  by_cases hn : 0 ≤ n
  · exact hn
  · exfalso
    have : (45 : UInt8) ∈ l := by
      rw [h3]
      unfold Lib.itoa
      rw [if_pos (by omega)]
      simp
    exact absurd (hd 45 this) (by decide)
theorem pU_dig {d : ByteArray} (hs : d.size ≤ 262144) (hd : ∀ b ∈ lst d, isDig b = true) : pU d = match refN (lst d) with | some n => (.int n, 0, 0) | none => (.zero, 40, 0) := by
  unfold pU
  rw [if_pos hs, pspec_dig hd]
  cases hn : refN (lst d) with
  | none => rfl
  | some n =>
    have : chk (.int n) = 0 := by
      unfold chk
      simp only [thr]
      rw [if_neg (by omega), if_pos (refN_some.1 hn).2]
    simp only [this, if_true]
end Go.Proofs.YtlilfmpikampgaaGreatDoor
