/-
  Running a program by reckoning, 9: the operands, calls, all operations but append.
  Nothing here speaks of the program.
-/
import Derived.Test.YtihlhmphgjlngaaE8m
namespace Go.Proofs.Ytihlhmphgjlngaa
open Go.RowKit

/-- What an operand holds. -/
def aev (gl : Nat) (T : Tb Value) : Operand → Option Value
  | .tmp t => some (match T.get t with | some v => v | none => undef)
  | .const v => cond (simple v) (some v) none
  | .global g => cond (Nat.ble (g + 1) gl) (some (.pointer (some ⟨g, 0, none⟩))) none
  | .func f => some (.func (.func f) #[] #[])
def EvR (r : Ren) (ev : Operand → Option Value) (ev' : Operand → Value) : Prop := ∀ x v, ev x = some v → VR r v (ev' x)
theorem EvR.le {r s : Ren} {ev : Operand → Option Value} {ev' : Operand → Value} (h : EvR r ev ev') (l : r.le s) : EvR s ev ev' := fun x v hx => (h x v hx).le l
def evL (ev : Operand → Option Value) : List Operand → Option (List Value)
  | [] => some []
  | x :: l => match ev x with
    | some v => match evL ev l with
      | some vs => some (v :: vs)
      | none => none
    | none => none
theorem evL_R {r : Ren} {ev : Operand → Option Value} {ev' : Operand → Value} (h : EvR r ev ev') : ∀ (l : List Operand) (vs : List Value), evL ev l = some vs → VRs r ⟨vs⟩ ⟨l.map ev'⟩
  | [], vs, e => by
    injection e with e
    subst e
    exact VRs.nil r
  | x :: l, vs, e => by
    simp only [evL] at e
    split at e
    · rename_i v hv
      split at e
      · rename_i vs' hvs
        injection e with e
        subst e
        obtain ⟨h1, h2⟩ := (evL_R h l vs' hvs).of_list
        refine ⟨by simpa using h1, fun i u u' e1 e2 => ?_⟩
        cases i with
        | zero =>
          simp at e1 e2
          subst e1 e2
          exact h x v hv
        | succ i =>
          simp only [List.getElem?_toArray, List.getElem?_cons_succ, List.map_cons] at e1 e2
          exact h2 i u u' e1 e2
      · cases e
    · cases e
def evP (ev : Operand → Option Value) : List (Nat × Operand) → Option (List (Nat × Value))
  | [] => some []
  | (i, x) :: l => match ev x with
    | some v => match evP ev l with
      | some vs => some ((i, v) :: vs)
      | none => none
    | none => none
theorem evP_R {r : Ren} {ev : Operand → Option Value} {ev' : Operand → Value} (h : EvR r ev ev') : ∀ (l : List (Nat × Operand)) (vs : List (Nat × Value)), evP ev l = some vs → PR r vs (l.map fun (i, x) => (i, ev' x))
  | [], vs, e => by
    injection e with e
    subst e
    exact trivial
  | (i, x) :: l, vs, e => by
    simp only [evP] at e
    split at e
    · rename_i v hv
      split at e
      · rename_i vs' hvs
        injection e with e
        subst e
        exact ⟨rfl, h x v hv, evP_R h l vs' hvs⟩
      · cases e
    · cases e
/-- An operand that may be wanting. -/
def evO (ev : Operand → Option Value) : Option Operand → Option (Option Value)
  | none => some none
  | some x => match ev x with
    | some v => some (some v)
    | none => none
theorem evO_R {r : Ren} {ev : Operand → Option Value} {ev' : Operand → Value} (h : EvR r ev ev') {x : Option Operand} {v : Option Value} (e : evO ev x = some v) : OVR r v (x.map ev') := by
  cases x with
  | none => injection e with e; subst e; exact trivial
  | some x =>
    simp only [evO] at e
    split at e
    · rename_i u hu
      injection e with e
      subst e
      exact h x u hu
    · cases e

inductive NR (r : Ren) : Next → Next → Prop
  | value {v v' : Value} : VR r v v' → NR r (.value v) (.value v')
  | skip : NR r .skip .skip
  | enter {f : FuncId} {a a' : Array Value} : VRs r a a' → NR r (.enter f a) (.enter f a')
def vN (s : Sem Value) : Sem Next := s.bind fun v => .pure (.value v)
def uN (s : Sem Unit) : Sem Next := s.bind fun _ => .pure .skip
theorem vN_R {P : Program} {r : Ren} {s s' : Sem Value} (h : SemR P VR r s s') : SemR P NR r (vN s) (do pure (.value (← s'))) := h.bind fun _ _ _ _ hv => .pure (.value hv)
theorem uN_R {P : Program} {r : Ren} {s s' : Sem Unit} (h : SemR P UR r s s') : SemR P NR r (uN s) (do s'; pure .skip) := h.bind fun _ _ _ _ _ => .pure .skip

section
variable {E : Env} {r : Ren}
def fEnter (E : Env) (f : FuncId) (args : Array Value) : Sem Next :=
  match E.fn.get f with
  | some _ => .pure (.enter f args)
  | none => no
theorem fEnter_R (ok : E.Ok) (f : FuncId) {a a' : Array Value} (h : VRs r a a') : SemR E.P NR r (fEnter E f a) (callFunc f a') := by
  unfold fEnter
  split
  · rename_i i hi
    obtain ⟨fn, h1, h2, _, _, h5⟩ := ok.fn f i hi
    unfold callFunc
    refine .programR ?_
    show SemR E.P NR r _ (match E.P.funcs[f]? with | none => stuck "call: no such function" | some fn => _)
    rw [h1]
    dsimp only
    rw [if_neg (by rw [h5]; simp), h2]
    exact .pure (.enter h)
  · exact .halt
/-- A method expression: the receiver is what it is. -/
def viaOk (E : Env) (t : TypeId) (path : Array FieldStep) (ptr : Bool) : Bool :=
  match path with
  | ⟨[]⟩ => match E.ty.get t with
    | some i => match i.under, ptr with
      | .pointer _, true => true
      | .pointer _, false => false
      | _, true => false
      | _, false => true
    | none => false
  | _ => false
theorem via_R (ok : E.Ok) {α β : Type} {R : Ren → α → β → Prop} {s : Sem α} {f : Value → Sem β} {t : TypeId} {path : Array FieldStep} {ptr : Bool} {v : Value} (h : viaOk E t path ptr = true) (k : SemR E.P R r s (f v)) : SemR E.P R r s (receiverVia t v path ptr >>= f) := by
  unfold viaOk at h
  split at h
  · split at h
    · rename_i i hi
      unfold receiverVia
      show SemR E.P R r s ((receiverAt t (.val v) ptr none) >>= f)
      unfold receiverAt
      rw [bind_assoc]
      refine semUnd ok hi ?_
      revert h
      cases i.under <;> cases ptr <;> intro h <;> first
        | (exfalso; revert h; simp; done)
        | exact k
    · cases h
  · cases h
def xbuiltin (E : Env) (b : Builtin) (ts : Array TypeId) (vs : List Value) : Sem Value :=
  match b, vs with
  | .len, [.map m] => match ts[0]? with
    | some t => xmapLen E t m
    | none => no
  | .clear, [.map m] => match ts[0]? with
    | some t => xmapClear E t m
    | none => no
  | .delete, [m, k] => match ts[0]? with
    | some t => xdelete E t m k
    | none => no
  | .len, [v] => match ts[0]? with
    | some t => xlen E t v
    | none => no
  | .cap, [v] => match ts[0]? with
    | some t => xcap E t v
    | none => no
  | .copy, [d, s] => match ts[0]? with
    | some t => xcopy E t d s
    | none => no
  | .clear, [v] => match ts[0]? with
    | some t => xclear E t v
    | none => no
  | .real, [.complex k re _] => .pure (.float k re)
  | .imag, [.complex k _ im] => .pure (.float k im)
  | .complex, [.float k re, .float k' im] => match decide (k = k') with
    | true => .pure (.complex k re im)
    | false => no
  | .min, [.int k x, .int _ y] => .pure (.int k (if y < x then y else x))
  | .max, [.int k x, .int _ y] => .pure (.int k (if y > x then y else x))
  | _, _ => no
theorem VRs.two {v u : Value} {vs' : Array Value} (h : VRs r ⟨[v, u]⟩ vs') : ∃ v' u', vs' = #[v', u'] ∧ VR r v v' ∧ VR r u u' := by
  obtain ⟨h1, h2⟩ := h
  obtain ⟨l⟩ := vs'
  simp at h1
  match l, h1 with
  | [a, b], _ => exact ⟨a, b, rfl, h2 0 v a rfl rfl, h2 1 u b rfl rfl⟩
theorem VRs.single {v : Value} {vs' : Array Value} (h : VRs r ⟨[v]⟩ vs') : ∃ v', vs' = #[v'] ∧ VR r v v' := by
  obtain ⟨h1, h2⟩ := h
  obtain ⟨l⟩ := vs'
  simp at h1
  match l, h1 with
  | [a], _ => exact ⟨a, rfl, h2 0 v a rfl rfl⟩
theorem xbuiltin_R (ok : E.Ok) (b : Builtin) (ts : Array TypeId) (ty : TypeId) (cs : Array Bool) {vs : List Value} {vs' : Array Value} (h : VRs r ⟨vs⟩ vs') : SemR E.P NR r (vN (xbuiltin E b ts vs)) (builtin b ts ty cs vs') := by
  unfold xbuiltin
  split <;> first | exact .halt | skip
  · obtain ⟨v', rfl, hv⟩ := h.single
    split
    · rename_i t ht
      exact vN_R (xmapLen_R ok t ty ts ht hv)
    · exact .halt
  · obtain ⟨v', rfl, hv⟩ := h.single
    split
    · rename_i t ht
      exact vN_R (xmapClear_R ok t ty ts ht hv)
    · exact .halt
  · obtain ⟨v', u', rfl, hv, hu⟩ := h.two
    split
    · rename_i t ht
      exact vN_R (xdelete_R ok t ts ty ht hv hu)
    · exact .halt
  · obtain ⟨v', rfl, hv⟩ := h.single
    split
    · rename_i t ht
      exact vN_R (xlen_R ok t ty ts ht hv #[v'] rfl)
    · exact .halt
  · obtain ⟨v', rfl, hv⟩ := h.single
    split
    · rename_i t ht
      exact vN_R (xcap_R ok t ty ts ht hv #[v'] rfl)
    · exact .halt
  · obtain ⟨v', u', rfl, hv, hu⟩ := h.two
    split
    · rename_i t ht
      exact vN_R (xcopy_R ok t ty ts ht hv hu #[v', u'] rfl rfl)
    · exact .halt
  · obtain ⟨v', rfl, hv⟩ := h.single
    split
    · rename_i t ht
      exact vN_R (xclear_R ok t ty ts ht hv #[v'] rfl)
    · exact .halt
  · obtain ⟨v', rfl, hv⟩ := h.single
    cases hv
    exact .pure (.value (.float _ _))
  · obtain ⟨v', rfl, hv⟩ := h.single
    cases hv
    exact .pure (.value (.float _ _))
  · obtain ⟨v', u', rfl, hv, hu⟩ := h.two
    cases hv
    cases hu
    split
    · rename_i hk
      show SemR E.P NR r _ (do pure (.value (← (if _ = _ then _ else _))))
      rw [if_pos (of_decide_eq_true hk)]
      exact .pure (.value (.complex _ _ _))
    · exact .halt
  · obtain ⟨v', u', rfl, hv, hu⟩ := h.two
    cases hv
    cases hu
    exact .pure (.value (.int _ _))
  · obtain ⟨v', u', rfl, hv, hu⟩ := h.two
    cases hv
    cases hu
    exact .pure (.value (.int _ _))
def xcall (E : Env) (ev : Operand → Option Value) (c : Call) : Sem Next :=
  match evL ev c.args.toList with
  | none => no
  | some ws => match c.callee with
    | .builtin b => vN (xbuiltin E b c.argTypes ws)
    | .value f => match ev f with
      | some (.func (.func g) first captured) => fEnter E g (first ++ ⟨ws⟩ ++ captured)
      | some (.func (.via t path g ptr) first _) => match viaOk E t path ptr, (first ++ (⟨ws⟩ : Array Value)) with
        | true, ⟨x :: l⟩ => fEnter E g ⟨x :: l⟩
        | _, _ => no
      | _ => no
    | .invoke _ _ => no
theorem xcall_R (ok : E.Ok) {ev : Operand → Option Value} {ev' : Operand → Value} (h : EvR r ev ev') (c : Call) (ty : TypeId) : SemR E.P NR r (xcall E ev c) (do let d ← resolve ev' c ty; invoke d.target d.args) := by
  unfold xcall
  split
  · exact .halt
  · rename_i ws has
    have ha := evL_R h _ _ has
    have ha' : VRs r ⟨ws⟩ (c.args.map ev') := by
      have : (⟨c.args.toList.map ev'⟩ : Array Value) = c.args.map ev' := by
        apply Array.ext'
        simp
      rwa [this] at ha
    unfold resolve
    split
    · rename_i b hb
      rw [hb]
      exact xbuiltin_R ok b _ _ _ ha'
    · rename_i f hf
      rw [hf]
      dsimp only
      split <;> first | exact .halt | skip
      · rename_i g first captured hg
        have hv := h f _ hg
        generalize ev' f = fv at hv
        cases hv with
        | func h1 h2 h3 h4 h5 => exact fEnter_R ok g ((VRs.app ⟨h2, h3⟩ ha').app ⟨h4, h5⟩)
      · rename_i t path g ptr first captured hg
        have hv := h f _ hg
        generalize ev' f = fv at hv
        split <;> first | exact .halt | skip
        rename_i x l hvia hl
        cases hv with
        | @func _ _ a' _ c' h1 h2 h3 h4 h5 =>
          have hall := VRs.app ⟨h2, h3⟩ ha'
          rw [hl] at hall
          show SemR E.P NR r _ (invoke (.fn (.via t path g ptr) c') (a' ++ c.args.map ev'))
          generalize (a' ++ c.args.map ev') = args at hall
          obtain ⟨k1, k2⟩ := hall
          obtain ⟨al⟩ := args
          simp at k1
          match al, k1 with
          | y :: m, k1 =>
            unfold invoke
            show SemR E.P NR r _ (receiverVia t y path ptr >>= fun z => callFunc g (#[z] ++ Array.extract ⟨y :: m⟩ 1 (Array.size ⟨y :: m⟩)))
            refine via_R ok hvia ?_
            have : (#[y] ++ Array.extract ⟨y :: m⟩ 1 (Array.size ⟨y :: m⟩)) = (⟨y :: m⟩ : Array Value) := by
              apply Array.ext'
              simp
            rw [this]
            exact fEnter_R ok g ⟨by simpa using k1, k2⟩
    · exact .halt

def xassert (E : Env) (x : Value) (asserted : TypeId) (ok : Bool) : Sem Value :=
  match x, E.ty.get asserted with
  | .iface t v, some i => match i.under with
    | .interface _ => no
    | _ => match Nat.beq t asserted, ok with
      | true, true => .pure (.tuple #[v, .bool true])
      | true, false => .pure v
      | false, true => match i.zero with
        | some z => .pure (.tuple #[z, .bool false])
        | none => no
      | false, false => no
  | _, _ => no
theorem xassert_R (ok : E.Ok) {x x' : Value} (hx : VR r x x') (xt asserted : TypeId) (b : Bool) : SemR E.P VR r (xassert E x asserted b) (Instr.typeAssert x' xt asserted b) := by
  unfold xassert
  split <;> first | exact .halt | skip
  rename_i t v i hi
  cases hx with
  | @iface _ _ v' hv =>
    split
    · exact .halt
    · rename_i hu
      have key : ∀ {s : Sem Value}, SemR E.P VR r s (if t = asserted then pure (if b = true then .tuple #[v', .bool true] else v') else (do if b = true then pure (.tuple #[← zeroValue asserted, .bool false]) else runtimePanic (.typeAssertion (some xt) (some t) asserted ""))) → SemR E.P VR r s (Instr.typeAssert (.iface t v') xt asserted b) := fun {s} k => by
        unfold Instr.typeAssert
        refine semUnd ok hi ?_
        cases hd : i.under with
        | interface m => exact absurd hd (fun h => hu m h)
        | _ => exact k
      refine key ?_
      split
      · rename_i h1
        rw [if_pos (Nat.eq_of_beq_eq_true h1)]
        exact .pure (.tuple rfl ((VRs.one hv).push (.bool true)).2)
      · rename_i h1
        rw [if_pos (Nat.eq_of_beq_eq_true h1)]
        exact .pure hv
      · rename_i h1
        rw [if_neg (Nat.ne_of_beq_eq_false h1)]
        split
        · rename_i z hz
          simp only [if_true]
          refine semZero ok hi hz fun hs => ?_
          exact .pure (.tuple rfl ((VRs.one (.simple hs)).push (.bool false)).2)
        · exact .halt
      · exact .halt
end
end Go.Proofs.Ytihlhmphgjlngaa
