/- Running a program by reckoning, 9: the operands, calls, all operations but append.
  Nothing here speaks of the program. Running a program by reckoning, 10: an operation, whatever it is (but append).
  Nothing here speaks of the program. Running a program by reckoning, 11: append: where the room is not known, the elder row is given up and the new one stands for it.
  Nothing here speaks of the program. -/
import Derived.Test.YtkodblhompphjaaVs
import Derived.ArgAppend
namespace Go.Proofs.Ytkodblhompphjaa
open Go.RowKit

/-- What an operand holds. -/
def aev (gl : Nat) (T : Tb Value) : Operand → Option Value
  | .tmp t => some (match T.get t with | some v => v | none => undef)
  | .const v => cond (simple v) (some v) none
  | .global g => cond (Nat.ble (g + 1) gl) (some (.pointer (some ⟨g, 0, none⟩))) none
  | .func f => some (.func (.func f) #[] #[])
def EvR (r : Ren) (ev : Operand → Option Value) (ev' : Operand → Value) : Prop := ∀ x v, ev x = some v → VR r v (ev' x)
theorem EvR.le {r s : Ren} {ev : Operand → Option Value} {ev' : Operand → Value} (h : EvR r ev ev') (l : r.le s) : EvR s ev ev' := fun x v hx => (h x v hx).le l
def evL (ev : Operand → Option Value) : List Operand → Option (List Value)
  | [] => some []
  | x :: l => match ev x with
    | some v => match evL ev l with
      | some vs => some (v :: vs)
      | none => none
    | none => none
theorem evL_R {r : Ren} {ev : Operand → Option Value} {ev' : Operand → Value} (h : EvR r ev ev') : ∀ (l : List Operand) (vs : List Value), evL ev l = some vs → VRs r ⟨vs⟩ ⟨l.map ev'⟩
  | [], vs, e => by
    injection e with e
    subst e
    exact VRs.nil r
  | x :: l, vs, e => by
    simp only [evL] at e
    split at e
    · rename_i v hv
      split at e
      · rename_i vs' hvs
        injection e with e
        subst e
        obtain ⟨h1, h2⟩ := (evL_R h l vs' hvs).of_list
        refine ⟨by simpa using h1, fun i u u' e1 e2 => ?_⟩
        cases i with
        | zero =>
          simp at e1 e2
          subst e1 e2
          exact h x v hv
        | succ i =>
          simp only [List.getElem?_toArray, List.getElem?_cons_succ, List.map_cons] at e1 e2
          exact h2 i u u' e1 e2
      · cases e
    · cases e
def evP (ev : Operand → Option Value) : List (Nat × Operand) → Option (List (Nat × Value))
  | [] => some []
  | (i, x) :: l => match ev x with
    | some v => match evP ev l with
      | some vs => some ((i, v) :: vs)
      | none => none
    | none => none
theorem evP_R {r : Ren} {ev : Operand → Option Value} {ev' : Operand → Value} (h : EvR r ev ev') : ∀ (l : List (Nat × Operand)) (vs : List (Nat × Value)), evP ev l = some vs → PR r vs (l.map fun (i, x) => (i, ev' x))
  | [], vs, e => by
    injection e with e
    subst e
    exact trivial
  | (i, x) :: l, vs, e => by
    simp only [evP] at e
    split at e
    · rename_i v hv
      split at e
      · rename_i vs' hvs
        injection e with e
        subst e
        exact ⟨rfl, h x v hv, evP_R h l vs' hvs⟩
      · cases e
    · cases e
/-- An operand that may be wanting. -/
def evO (ev : Operand → Option Value) : Option Operand → Option (Option Value)
  | none => some none
  | some x => match ev x with
    | some v => some (some v)
    | none => none
theorem evO_R {r : Ren} {ev : Operand → Option Value} {ev' : Operand → Value} (h : EvR r ev ev') {x : Option Operand} {v : Option Value} (e : evO ev x = some v) : OVR r v (x.map ev') := by
  cases x with
  | none => injection e with e; subst e; exact trivial
  | some x =>
    simp only [evO] at e
    split at e
    · rename_i u hu
      injection e with e
      subst e
      exact h x u hu
    · cases e

inductive NR (r : Ren) : Next → Next → Prop
  | value {v v' : Value} : VR r v v' → NR r (.value v) (.value v')
  | skip : NR r .skip .skip
  | enter {f : FuncId} {a a' : Array Value} : VRs r a a' → NR r (.enter f a) (.enter f a')
def vN (s : Sem Value) : Sem Next := s.bind fun v => .pure (.value v)
def uN (s : Sem Unit) : Sem Next := s.bind fun _ => .pure .skip
theorem vN_R {P : Program} {r : Ren} {s s' : Sem Value} (h : SemR P VR r s s') : SemR P NR r (vN s) (do pure (.value (← s'))) := h.bind fun _ _ _ _ hv => .pure (.value hv)
theorem uN_R {P : Program} {r : Ren} {s s' : Sem Unit} (h : SemR P UR r s s') : SemR P NR r (uN s) (do s'; pure .skip) := h.bind fun _ _ _ _ _ => .pure .skip

section
variable {E : Env} {r : Ren}
def fEnter (E : Env) (f : FuncId) (args : Array Value) : Sem Next :=
  match E.fn.get f with
  | some _ => .pure (.enter f args)
  | none => no
theorem fEnter_R (ok : E.Ok) (f : FuncId) {a a' : Array Value} (h : VRs r a a') : SemR E.P NR r (fEnter E f a) (callFunc f a') := by
  unfold fEnter
  split
  · rename_i i hi
    obtain ⟨fn, h1, h2, _, _, h5⟩ := ok.fn f i hi
    unfold callFunc
    refine .programR ?_
    show SemR E.P NR r _ (match E.P.funcs[f]? with | none => stuck "call: no such function" | some fn => _)
    rw [h1]
    dsimp only
    rw [if_neg (by rw [h5]; simp), h2]
    exact .pure (.enter h)
  · exact .halt
/-- A method expression: the receiver is what it is. -/
def viaOk (E : Env) (t : TypeId) (path : Array FieldStep) (ptr : Bool) : Bool :=
  match path with
  | ⟨[]⟩ => match E.ty.get t with
    | some i => match i.under, ptr with
      | .pointer _, true => true
      | .pointer _, false => false
      | _, true => false
      | _, false => true
    | none => false
  | _ => false
theorem via_R (ok : E.Ok) {α β : Type} {R : Ren → α → β → Prop} {s : Sem α} {f : Value → Sem β} {t : TypeId} {path : Array FieldStep} {ptr : Bool} {v : Value} (h : viaOk E t path ptr = true) (k : SemR E.P R r s (f v)) : SemR E.P R r s (receiverVia t v path ptr >>= f) := by
  unfold viaOk at h
  split at h
  · split at h
    · rename_i i hi
      unfold receiverVia
      show SemR E.P R r s ((receiverAt t (.val v) ptr none) >>= f)
      unfold receiverAt
      rw [bind_assoc]
      refine semUnd ok hi ?_
      revert h
      cases i.under <;> cases ptr <;> intro h <;> first
        | (exfalso; revert h; simp; done)
        | exact k
    · cases h
  · cases h
def xbuiltin (E : Env) (b : Builtin) (ts : Array TypeId) (vs : List Value) : Sem Value :=
  match b, vs with
  | .len, [.map m] => match ts[0]? with
    | some t => xmapLen E t m
    | none => no
  | .clear, [.map m] => match ts[0]? with
    | some t => xmapClear E t m
    | none => no
  | .delete, [m, k] => match ts[0]? with
    | some t => xdelete E t m k
    | none => no
  | .len, [v] => match ts[0]? with
    | some t => xlen E t v
    | none => no
  | .cap, [v] => match ts[0]? with
    | some t => xcap E t v
    | none => no
  | .copy, [d, s] => match ts[0]? with
    | some t => xcopy E t d s
    | none => no
  | .clear, [v] => match ts[0]? with
    | some t => xclear E t v
    | none => no
  | .real, [.complex k re _] => .pure (.float k re)
  | .imag, [.complex k _ im] => .pure (.float k im)
  | .complex, [.float k re, .float k' im] => match decide (k = k') with
    | true => .pure (.complex k re im)
    | false => no
  | .min, [.int k x, .int _ y] => .pure (.int k (if y < x then y else x))
  | .max, [.int k x, .int _ y] => .pure (.int k (if y > x then y else x))
  | _, _ => no
theorem VRs.two {v u : Value} {vs' : Array Value} (h : VRs r ⟨[v, u]⟩ vs') : ∃ v' u', vs' = #[v', u'] ∧ VR r v v' ∧ VR r u u' := by
  obtain ⟨h1, h2⟩ := h
  obtain ⟨l⟩ := vs'
  simp at h1
  match l, h1 with
  | [a, b], _ => exact ⟨a, b, rfl, h2 0 v a rfl rfl, h2 1 u b rfl rfl⟩
theorem VRs.single {v : Value} {vs' : Array Value} (h : VRs r ⟨[v]⟩ vs') : ∃ v', vs' = #[v'] ∧ VR r v v' := by
  obtain ⟨h1, h2⟩ := h
  obtain ⟨l⟩ := vs'
  simp at h1
  match l, h1 with
  | [a], _ => exact ⟨a, rfl, h2 0 v a rfl rfl⟩
theorem xbuiltin_R (ok : E.Ok) (b : Builtin) (ts : Array TypeId) (ty : TypeId) (cs : Array Bool) {vs : List Value} {vs' : Array Value} (h : VRs r ⟨vs⟩ vs') : SemR E.P NR r (vN (xbuiltin E b ts vs)) (builtin b ts ty cs vs') := by
  unfold xbuiltin
  split <;> first | exact .halt | skip
  · obtain ⟨v', rfl, hv⟩ := h.single
    split
    · rename_i t ht
      exact vN_R (xmapLen_R ok t ty ts ht hv)
    · exact .halt
  · obtain ⟨v', rfl, hv⟩ := h.single
    split
    · rename_i t ht
      exact vN_R (xmapClear_R ok t ty ts ht hv)
    · exact .halt
  · obtain ⟨v', u', rfl, hv, hu⟩ := h.two
    split
    · rename_i t ht
      exact vN_R (xdelete_R ok t ts ty ht hv hu)
    · exact .halt
  · obtain ⟨v', rfl, hv⟩ := h.single
    split
    · rename_i t ht
      exact vN_R (xlen_R ok t ty ts ht hv #[v'] rfl)
    · exact .halt
  · obtain ⟨v', rfl, hv⟩ := h.single
    split
    · rename_i t ht
      exact vN_R (xcap_R ok t ty ts ht hv #[v'] rfl)
    · exact .halt
  · obtain ⟨v', u', rfl, hv, hu⟩ := h.two
    split
    · rename_i t ht
      exact vN_R (xcopy_R ok t ty ts ht hv hu #[v', u'] rfl rfl)
    · exact .halt
  · obtain ⟨v', rfl, hv⟩ := h.single
    split
    · rename_i t ht
      exact vN_R (xclear_R ok t ty ts ht hv #[v'] rfl)
    · exact .halt
  · obtain ⟨v', rfl, hv⟩ := h.single
    cases hv
    exact .pure (.value (.float _ _))
  · obtain ⟨v', rfl, hv⟩ := h.single
    cases hv
    exact .pure (.value (.float _ _))
  · obtain ⟨v', u', rfl, hv, hu⟩ := h.two
    cases hv
    cases hu
    split
    · rename_i hk
      show SemR E.P NR r _ (do pure (.value (← (if _ = _ then _ else _))))
      rw [if_pos (of_decide_eq_true hk)]
      exact .pure (.value (.complex _ _ _))
    · exact .halt
  · obtain ⟨v', u', rfl, hv, hu⟩ := h.two
    cases hv
    cases hu
    exact .pure (.value (.int _ _))
  · obtain ⟨v', u', rfl, hv, hu⟩ := h.two
    cases hv
    cases hu
    exact .pure (.value (.int _ _))
def xcall (E : Env) (ev : Operand → Option Value) (c : Call) : Sem Next :=
  match evL ev c.args.toList with
  | none => no
  | some ws => match c.callee with
    | .builtin b => vN (xbuiltin E b c.argTypes ws)
    | .value f => match ev f with
      | some (.func (.func g) first captured) => fEnter E g (first ++ ⟨ws⟩ ++ captured)
      | some (.func (.via t path g ptr) first _) => match viaOk E t path ptr, (first ++ (⟨ws⟩ : Array Value)) with
        | true, ⟨x :: l⟩ => fEnter E g ⟨x :: l⟩
        | _, _ => no
      | _ => no
    | .invoke _ _ => no
theorem xcall_R (ok : E.Ok) {ev : Operand → Option Value} {ev' : Operand → Value} (h : EvR r ev ev') (c : Call) (ty : TypeId) : SemR E.P NR r (xcall E ev c) (do let d ← resolve ev' c ty; invoke d.target d.args) := by
  unfold xcall
  split
  · exact .halt
  · rename_i ws has
    have ha := evL_R h _ _ has
    have ha' : VRs r ⟨ws⟩ (c.args.map ev') := by
      have : (⟨c.args.toList.map ev'⟩ : Array Value) = c.args.map ev' := by
        apply Array.ext'
        simp
      rwa [this] at ha
    unfold resolve
    split
    · rename_i b hb
      rw [hb]
      exact xbuiltin_R ok b _ _ _ ha'
    · rename_i f hf
      rw [hf]
      dsimp only
      split <;> first | exact .halt | skip
      · rename_i g first captured hg
        have hv := h f _ hg
        generalize ev' f = fv at hv
        cases hv with
        | func h1 h2 h3 h4 h5 => exact fEnter_R ok g ((VRs.app ⟨h2, h3⟩ ha').app ⟨h4, h5⟩)
      · rename_i t path g ptr first captured hg
        have hv := h f _ hg
        generalize ev' f = fv at hv
        split <;> first | exact .halt | skip
        rename_i x l hvia hl
        cases hv with
        | @func _ _ a' _ c' h1 h2 h3 h4 h5 =>
          have hall := VRs.app ⟨h2, h3⟩ ha'
          rw [hl] at hall
          show SemR E.P NR r _ (invoke (.fn (.via t path g ptr) c') (a' ++ c.args.map ev'))
          generalize (a' ++ c.args.map ev') = args at hall
          obtain ⟨k1, k2⟩ := hall
          obtain ⟨al⟩ := args
          simp at k1
          match al, k1 with
          | y :: m, k1 =>
            unfold invoke
            show SemR E.P NR r _ (receiverVia t y path ptr >>= fun z => callFunc g (#[z] ++ Array.extract ⟨y :: m⟩ 1 (Array.size ⟨y :: m⟩)))
            refine via_R ok hvia ?_
            have : (#[y] ++ Array.extract ⟨y :: m⟩ 1 (Array.size ⟨y :: m⟩)) = (⟨y :: m⟩ : Array Value) := by
              apply Array.ext'
              simp
            rw [this]
            exact fEnter_R ok g ⟨by simpa using k1, k2⟩
    · exact .halt

def xassert (E : Env) (x : Value) (asserted : TypeId) (ok : Bool) : Sem Value :=
  match x, E.ty.get asserted with
  | .iface t v, some i => match i.under with
    | .interface _ => no
    | _ => match Nat.beq t asserted, ok with
      | true, true => .pure (.tuple #[v, .bool true])
      | true, false => .pure v
      | false, true => match i.zero with
        | some z => .pure (.tuple #[z, .bool false])
        | none => no
      | false, false => no
  | _, _ => no
theorem xassert_R (ok : E.Ok) {x x' : Value} (hx : VR r x x') (xt asserted : TypeId) (b : Bool) : SemR E.P VR r (xassert E x asserted b) (Instr.typeAssert x' xt asserted b) := by
  unfold xassert
  split <;> first | exact .halt | skip
  rename_i t v i hi
  cases hx with
  | @iface _ _ v' hv =>
    split
    · exact .halt
    · rename_i hu
      have key : ∀ {s : Sem Value}, SemR E.P VR r s (if t = asserted then pure (if b = true then .tuple #[v', .bool true] else v') else (do if b = true then pure (.tuple #[← zeroValue asserted, .bool false]) else runtimePanic (.typeAssertion (some xt) (some t) asserted ""))) → SemR E.P VR r s (Instr.typeAssert (.iface t v') xt asserted b) := fun {s} k => by
        unfold Instr.typeAssert
        refine semUnd ok hi ?_
        cases hd : i.under with
        | interface m => exact absurd hd (fun h => hu m h)
        | _ => exact k
      refine key ?_
      split
      · rename_i h1
        rw [if_pos (Nat.eq_of_beq_eq_true h1)]
        exact .pure (.tuple rfl ((VRs.one hv).push (.bool true)).2)
      · rename_i h1
        rw [if_pos (Nat.eq_of_beq_eq_true h1)]
        exact .pure hv
      · rename_i h1
        rw [if_neg (Nat.ne_of_beq_eq_false h1)]
        split
        · rename_i z hz
          simp only [if_true]
          refine semZero ok hi hz fun hs => ?_
          exact .pure (.tuple rfl ((VRs.one (.simple hs)).push (.bool false)).2)
        · exact .halt
      · exact .halt
end
end Go.Proofs.Ytkodblhompphjaa

namespace Go.Proofs.Ytkodblhompphjaa
open Go.RowKit

def xop (E : Env) (ev : Operand → Option Value) (o : Oper) : Sem Next :=
  match o.op with
  | .move x | .assign x => match ev x with
    | some v => .pure (.value v)
    | none => no
  | .pick c a b => match ev c, ev a, ev b with
    | some (.bool t), some u, some v => .pure (.value (cond t u v))
    | _, _, _ => no
  | .alloc t => vN (xalloc E t)
  | .box t x => match ev x with
    | some v => vN (xbox t v)
    | none => no
  | .build t ps => match evP ev ps.toList with
    | some l => vN (xbuild E t l)
    | none => no
  | .buildSlice t n ps => match evP ev ps.toList with
    | some l => vN (xbuildSlice E t n l)
    | none => no
  | .load t a => match ev a with
    | some v => vN (xload E t v)
    | none => no
  | .store t a x => match ev a, ev x with
    | some v, some u => uN (xstore E t v u)
    | _, _ => no
  | .nilCheck x => match ev x with
    | some (.pointer (some a)) => .pure (.value (.pointer (some a)))
    | some (.func (.func f) p q) => .pure (.value (.func (.func f) p q))
    | _ => no
  | .binOp op t x y _ => match ev x, ev y with
    | some a, some b => vN (xbinOp E op t x y a b)
    | _, _ => no
  | .unOp op _ x => match ev x with
    | some a => vN (xunOp op a)
    | none => no
  | .convert s d x => match ev x with
    | some a => vN (xconvert E s d a)
    | none => no
  | .makeInterface t x => match ev x, E.ty.get t with
    | some v, some i => match i.under with
      | .interface _ => no
      | _ => .pure (.value (.iface t v))
    | _, _ => no
  | .makeFunc fn first captured => match fn, evL ev first.toList, evL ev captured.toList with
    | .yield _, _, _ => no
    | fn, some p, some q => .pure (.value (.func fn ⟨p⟩ ⟨q⟩))
    | _, _, _ => no
  | .makeSlice t l c => match ev l, ev c with
    | some a, some b => vN (xmakeSlice E t a b)
    | _, _ => no
  | .slice t x lo hi mx => match ev x, evO ev lo, evO ev hi, evO ev mx with
    | some v, some a, some b, some c => vN (xslice E t v a b c)
    | _, _, _, _ => no
  | .fieldAddr t x f => match ev x with
    | some v => vN (xfieldAddr E t v f)
    | none => no
  | .field t x f => match ev x with
    | some v => vN (xfield E t v f)
    | none => no
  | .indexAddr t x i => match ev x, ev i with
    | some v, some u => vN (xindexAddr E t v u)
    | _, _ => no
  | .index t x i => match ev x, ev i with
    | some v, some u => vN (xindex E t v u)
    | _, _ => no
  | .range t x => match ev x with
    | some (.map m) => vN (xrangeM E t m)
    | some v => vN (xrange E t v)
    | none => no
  | .next it b => match ev it, b with
    | some v, true => vN (xnext v true)
    | some v, false => vN (xnextM v)
    | none, _ => no
  | .entry it => match ev it with
    | some v => vN (xentryM v)
    | none => no
  | .typeAssert x _ t b => match ev x with
    | some v => vN (xassert E v t b)
    | none => no
  | .extract x n => match ev x with
    | some v => vN (xextract v n)
    | none => no
  | .call c => xcall E ev c
  | .makeMap _ none => vN (.new (.map #[] 0) fun b => .pure (.map (some b)))
  | .makeMap t (some h) => match ev h, E.ty.get t with
    | some (.int _ _), some i => match i.under with
      | .map _ _ => vN (.new (.map #[] 0) fun b => .pure (.map (some b)))
      | _ => no
    | _, _ => no
  | .lookup t x k b => match ev x, ev k with
    | some v, some u => vN (xlookup E t v u b)
    | _, _ => no
  | .mapUpdate t m k x => match ev m, ev k, ev x with
    | some v, some u, some z => uN (xmapUpdate E t v u z)
    | _, _, _ => no
  | .insert t m k x => match ev m, ev k, ev x with
    | some v, some u, some z => uN (xmapUpdate E t v u z)
    | _, _, _ => no
  | _ => no

section
variable {E : Env} {r : Ren}
theorem xop_R (ok : E.Ok) {ev : Operand → Option Value} {ev' : Operand → Value} (h : EvR r ev ev') (o : Oper) : SemR E.P NR r (xop E ev o) (execOp ev' o) := by
  obtain ⟨dst, op, type, pos, after, guard⟩ := o
  unfold xop
  dsimp only
  split <;> first | exact .halt | skip
  · split
    · rename_i v hv
      exact .pure (.value (h _ v hv))
    · exact .halt
  · split
    · rename_i v hv
      exact .pure (.value (h _ v hv))
    · exact .halt
  · rename_i c a b
    split
    · rename_i t u v hc hu hv
      have h1 := h c _ hc
      unfold execOp
      dsimp only
      generalize ev' c = cv at h1
      cases h1
      cases t with
      | true => exact .pure (.value (h a u hu))
      | false => exact .pure (.value (h b v hv))
    · exact .halt
  · exact vN_R (xalloc_R ok _)
  · split
    · rename_i v hv
      exact vN_R (xbox_R _ (h _ v hv))
    · exact .halt
  · rename_i t ps
    split
    · rename_i l hl
      refine vN_R (xbuild_R ok t ?_)
      have := evP_R h _ _ hl
      simpa using this
    · exact .halt
  · rename_i t n ps
    split
    · rename_i l hl
      refine vN_R (xbuildSlice_R ok t n ?_)
      have := evP_R h _ _ hl
      simpa using this
    · exact .halt
  · split
    · rename_i v hv
      exact vN_R (xload_R ok _ (h _ v hv))
    · exact .halt
  · split
    · rename_i v u hv hu
      exact uN_R (xstore_R ok _ (h _ v hv) (h _ u hu))
    · exact .halt
  · rename_i x
    split <;> first | exact .halt | skip
    · rename_i a ha
      have h1 := h x _ ha
      unfold execOp
      dsimp only
      generalize ev' x = xv at h1
      cases h1 with
      | ptr hb => exact .pure (.value (.ptr hb))
    · rename_i f p q ha
      have h1 := h x _ ha
      unfold execOp
      dsimp only
      generalize ev' x = xv at h1
      cases h1 with
      | func h2 h3 h4 h5 h6 => exact .pure (.value (.func h2 h3 h4 h5 h6))
  · rename_i op t x y z
    split
    · rename_i a b ha hb
      exact vN_R (xbinOp_R ok op t x y (h _ _ ha) (h _ _ hb))
    · exact .halt
  · split
    · rename_i a ha
      exact vN_R (xunOp_R _ (h _ _ ha))
    · exact .halt
  · split
    · rename_i a ha
      exact vN_R (xconvert_R ok _ _ (h _ _ ha))
    · exact .halt
  · rename_i t x
    split <;> first | exact .halt | skip
    rename_i v i hv hi
    have h1 := h x _ hv
    have key : (∀ m, i.under ≠ .interface m) → SemR E.P NR r (.pure (.value (.iface t v))) (do pure (.value (← Instr.makeInterface t (ev' x)))) := fun hn => by
      unfold Instr.makeInterface
      rw [bind_assoc]
      refine semUnd ok hi ?_
      cases hd : i.under with
      | interface m => exact absurd hd (hn m)
      | _ => exact .pure (.value (.iface h1))
    split
    · exact .halt
    · rename_i hn
      exact key fun m hm => hn m hm
  · rename_i fn first captured
    split <;> first | exact .halt | skip
    rename_i fn' p q hne hp hq
    have h1 := evL_R h _ _ hp
    have h2 := evL_R h _ _ hq
    have e1 : (⟨first.toList.map ev'⟩ : Array Value) = first.map ev' := by
      apply Array.ext'
      simp
    have e2 : (⟨captured.toList.map ev'⟩ : Array Value) = captured.map ev' := by
      apply Array.ext'
      simp
    rw [e1] at h1
    rw [e2] at h2
    exact .pure (.value (.func (fun l hl => hne l hl) h1.1 h1.2 h2.1 h2.2))
  · split
    · rename_i a b ha hb
      exact vN_R (xmakeSlice_R ok _ (h _ _ ha) (h _ _ hb))
    · exact .halt
  · split
    · rename_i v a b c hv ha hb hc
      exact vN_R (xslice_R ok _ (h _ _ hv) (evO_R h ha) (evO_R h hb) (evO_R h hc))
    · exact .halt
  · split
    · rename_i v hv
      exact vN_R (xfieldAddr_R ok _ (h _ _ hv) _)
    · exact .halt
  · split
    · rename_i v hv
      exact vN_R (xfield_R ok _ (h _ _ hv) _)
    · exact .halt
  · split
    · rename_i v u hv hu
      exact vN_R (xindexAddr_R ok _ (h _ _ hv) (h _ _ hu))
    · exact .halt
  · split
    · rename_i v u hv hu
      exact vN_R (xindex_R ok _ (h _ _ hv) (h _ _ hu))
    · exact .halt
  · split
    · rename_i m hv
      exact vN_R (xrangeM_R ok _ (h _ _ hv))
    · rename_i hv
      exact vN_R (xrange_R ok _ (h _ _ (by assumption)))
    · exact .halt
  · split
    · rename_i v hv
      exact vN_R (xnext_R (h _ v hv) _ _)
    · rename_i v hv
      exact vN_R (xnextM_R (h _ v hv) _)
    · exact .halt
  · split
    · rename_i v hv
      exact vN_R (xentryM_R (h _ v hv))
    · exact .halt
  · split
    · rename_i v hv
      exact vN_R (xassert_R ok (h _ _ hv) _ _ _)
    · exact .halt
  · split
    · rename_i v hv
      exact vN_R (xextract_R (h _ _ hv) _)
    · exact .halt
  · exact xcall_R ok h _ _
  · exact vN_R (.new (.map 0 ⟨rfl, fun i e e' h => by simp at h⟩) fun _ _ _ _ hb => .pure (.map hb))
  · rename_i t hint
    split <;> first | exact .halt | skip
    rename_i k n i hv hi
    have h1 := h hint _ hv
    split
    · rename_i kt et hu
      unfold execOp
      dsimp only [Option.map]
      generalize ev' hint = xv at h1
      cases h1
      refine vN_R (s := .new (.map #[] 0) fun b => .pure (.map (some b))) ?_
      unfold Instr.makeMap
      refine semUnd ok hi ?_
      rw [hu]
      exact .new (.map 0 ⟨rfl, fun i e e' h => by simp at h⟩) fun _ _ _ _ hb => .pure (.map hb)
    · exact .halt
  · split
    · rename_i v u hv hu
      exact vN_R (xlookup_R ok _ (h _ _ hv) (h _ _ hu) _)
    · exact .halt
  · split
    · rename_i v u z hv hu hz
      exact uN_R (xmapUpdate_R ok _ (h _ _ hv) (h _ _ hu) (h _ _ hz))
    · exact .halt
  · split
    · rename_i v u z hv hu hz
      exact uN_R (xmapUpdate_R ok _ (h _ _ hv) (h _ _ hu) (h _ _ hz))
    · exact .halt
end
end Go.Proofs.Ytkodblhompphjaa

namespace Go.Proofs.Ytkodblhompphjaa
open Go.RowKit

section
variable {P : Program} {r : Ren} {W : AW} {w : World}
theorem WR.newX (h : WR P r W w) {o o' : Obj} {l : Bool} {x : Nat} (ho : OR P r x o o') (hl : l = false → x = 0) {w1 : World} (hw1 : w1.heap = w.heap.push o') : WR P (r.add W.next w.heap.size x) (W.new o l) w1 := by
  have hf := h.fresh
  have hle : r.le (r.add W.next w.heap.size x) := Ren.le_add hf
  refine ⟨fun k p hk => ?_, fun k o1 l1 hk => ?_, fun j k b y z hj hk h1 h2 => ?_⟩
  · unfold Ren.add at hk
    by_cases e : k = W.next
    · subst e; exact Nat.lt_succ_self _
    · rw [if_neg e] at hk
      exact Nat.lt_succ_of_lt (h.dom k p hk)
  · rw [AW.get_new] at hk
    by_cases e : k = W.next
    · rw [if_pos e] at hk
      injection hk with hk
      injection hk with hk1 hk2
      subst hk1 hk2 e
      exact ⟨w.heap.size, x, o', Ren.add_self _ _ _ _, by rw [hw1]; simp, ho.le hle, hl⟩
    · rw [if_neg e] at hk
      obtain ⟨b, y, o2, h1, h2, h3, h4⟩ := h.live k o1 l1 hk
      refine ⟨b, y, o2, (Ren.add_ne _ e).trans h1, ?_, h3.le hle, h4⟩
      have := get_lt h2
      rw [hw1, Array.getElem?_push, if_neg (by omega)]
      exact h2
  · unfold AW.holds at hj hk
    rw [AW.get_new] at hj hk
    have old : ∀ i z c, i ≠ W.next → W.get i ≠ none → r.add W.next w.heap.size x i = some (c, z) → c < w.heap.size := fun i z c hi hg hr => by
      rw [Ren.add_ne _ hi] at hr
      cases hgi : W.get i with
      | none => exact absurd hgi hg
      | some p =>
        obtain ⟨o2, l2⟩ := p
        obtain ⟨o3, h3, _⟩ := h.blk hgi hr
        exact get_lt h3
    by_cases e1 : j = W.next
    · by_cases e2 : k = W.next
      · rw [e1, e2]
      · rw [if_neg e2] at hk
        have := old k z b e2 hk h2
        rw [e1, Ren.add_self] at h1
        injection h1 with h1
        injection h1 with h1 _
        omega
    · rw [if_neg e1] at hj
      have h5 := old j y b e1 hj h1
      by_cases e2 : k = W.next
      · rw [e2, Ren.add_self] at h2
        injection h2 with h2
        injection h2 with h2 _
        omega
      · rw [if_neg e2] at hk
        rw [Ren.add_ne _ e1] at h1
        rw [Ren.add_ne _ e2] at h2
        exact h.inj j k b y z hj hk h1 h2
theorem Fr.newX (h : WR P r W w) (o o' : Obj) (l : Bool) (x : Nat) {w1 : World} (hw1 : w1.heap = w.heap.push o') (h0 : w1.os = w.os) (ht : w1.tape = w.tape) (hu : w1.output = w.output) : Fr r W w (r.add W.next w.heap.size x) (W.new o l) w1 := by
  refine ⟨Ren.le_add h.fresh, Nat.le_succ _, rfl, h0, ht, hu, by rw [hw1]; simp, fun b hb _ => ?_, fun k hk hr => (Ren.add_ne r (Nat.ne_of_lt hk)).trans hr, fun k hk hg => by rw [AW.get_new, if_neg (Nat.ne_of_lt hk)]; exact hg, fun k o1 hk => ⟨o1, by
    rw [AW.get_new, if_neg (fun e => by
      subst e
      obtain ⟨b, x, _, h1, _⟩ := h.live _ _ _ hk
      rw [h.fresh] at h1
      cases h1)]
    exact hk⟩, fun k b y hk hr hb => ?_⟩
  · rw [hw1, Array.getElem?_push, if_neg (by omega)]
  · unfold AW.holds at hk
    rw [AW.get_new] at hk
    by_cases e : k = W.next
    · subst e
      rw [Ren.add_self] at hr
      injection hr with hr
      injection hr with hr _
      omega
    · rw [if_neg e] at hk
      rw [Ren.add_ne _ e] at hr
      exact ⟨k, y, hk, hr, id⟩
theorem holds_of_gone {k i : Nat} (h : (W.set k none).holds i) : W.holds i ∧ i ≠ k := by
  unfold AW.holds at h ⊢
  rw [AW.get_set] at h
  by_cases e : i = k
  · rw [if_pos e] at h; exact absurd rfl h
  · rw [if_neg e] at h; exact ⟨h, e⟩
theorem WR.gone (h : WR P r W w) (k : Nat) : WR P r (W.set k none) w := by
  refine ⟨h.dom, fun j o l hj => ?_, fun i j b x y hi hj => h.inj i j b x y (holds_of_gone hi).1 (holds_of_gone hj).1⟩
  rw [AW.get_set] at hj
  by_cases e : j = k
  · rw [if_pos e] at hj; cases hj
  · rw [if_neg e] at hj; exact h.live j o l hj
theorem Fr.gone (r : Ren) (W : AW) (w : World) (k : Nat) (hk : ∀ o, W.get k ≠ some (o, false)) : Fr r W w r (W.set k none) w :=
  ⟨r.le_refl, Nat.le_refl _, rfl, rfl, rfl, rfl, Nat.le_refl _, fun _ _ _ => rfl, fun _ _ h => h, fun j _ hj => by
    rw [AW.get_set]
    split
    · rfl
    · exact hj, fun j o hj => ⟨o, by
    rw [AW.get_set, if_neg (fun e => by subst e; exact hk o hj)]
    exact hj⟩, fun i _ x h1 h2 _ => ⟨i, x, (holds_of_gone h1).1, h2, id⟩⟩
theorem next_set (W : AW) (k : Nat) (x : Option (Obj × Bool)) : (W.set k x).next = W.next := rfl
/-- A block goes, another number stands for its place. -/
theorem WR.moved (h : WR P r W w) {k b x x2 : Nat} {o o1 o2 : Obj} {l : Bool} (hk : W.get k = some (o, l)) (hr : r k = some (b, x)) (ho : OR P r x2 o1 o2) {w1 : World}
    (h1 : w1.heap[b]? = some o2) (h2 : ∀ c, c ≠ b → w1.heap[c]? = w.heap[c]?) : WR P (r.add W.next b x2) ((W.set k none).new o1 true) w1 := by
  have hf := h.fresh
  have hle : r.le (r.add W.next b x2) := Ren.le_add hf
  have hkl : W.holds k := by unfold AW.holds; rw [hk]; simp
  refine ⟨fun j p hj => ?_, fun j o3 l3 hj => ?_, fun i j c y z hi hj hri hrj => ?_⟩
  · unfold Ren.add at hj
    by_cases e : j = W.next
    · subst e; exact Nat.lt_succ_self _
    · rw [if_neg e] at hj
      exact Nat.lt_succ_of_lt (h.dom j p hj)
  · rw [AW.get_new] at hj
    by_cases e : j = (W.set k none).next
    · rw [if_pos e] at hj
      injection hj with hj
      injection hj with hj1 hj2
      subst hj1 hj2 e
      exact ⟨b, x2, o2, Ren.add_self _ _ _ _, h1, ho.le hle, fun h => by cases h⟩
    · rw [if_neg e, AW.get_set] at hj
      by_cases e2 : j = k
      · rw [if_pos e2] at hj; cases hj
      · rw [if_neg e2] at hj
        obtain ⟨b', y, o4, h3, h4, h5, h6⟩ := h.live j o3 l3 hj
        refine ⟨b', y, o4, (Ren.add_ne _ e).trans h3, ?_, h5.le hle, h6⟩
        rw [h2]
        · exact h4
        · rintro rfl
          exact e2 (h.inj j k b' y x (by unfold AW.holds; rw [hj]; simp) hkl h3 hr)
  · unfold AW.holds at hi hj
    rw [AW.get_new, next_set] at hi hj
    have old : ∀ i, i ≠ W.next → (W.set k none).get i ≠ none → W.holds i ∧ i ≠ k := fun i _ hg => holds_of_gone hg
    by_cases e1 : i = W.next
    · by_cases e2 : j = W.next
      · rw [e1, e2]
      · rw [if_neg e2] at hj
        obtain ⟨a1, a2⟩ := old j e2 hj
        rw [e1, Ren.add_self] at hri
        injection hri with hri
        injection hri with hri _
        subst hri
        rw [Ren.add_ne _ e2] at hrj
        exact absurd (h.inj j k b z x a1 hkl hrj hr) a2
    · rw [if_neg e1] at hi
      obtain ⟨a1, a2⟩ := old i e1 hi
      rw [Ren.add_ne _ e1] at hri
      by_cases e2 : j = W.next
      · rw [e2, Ren.add_self] at hrj
        injection hrj with hrj
        injection hrj with hrj _
        subst hrj
        exact absurd (h.inj i k b y x a1 hkl hri hr) a2
      · rw [if_neg e2] at hj
        obtain ⟨a3, _⟩ := old j e2 hj
        rw [Ren.add_ne _ e2] at hrj
        exact h.inj i j c y z a1 a3 hri hrj
theorem Fr.moved (h : WR P r W w) {k b x x2 : Nat} {o o1 : Obj} (hk : W.get k = some (o, true)) (hro : W.ro ≤ k) (hr : r k = some (b, x)) {w1 : World}
    (h0 : w1.os = w.os) (h3 : w1.tape = w.tape) (h4 : w1.output = w.output) (h5 : w1.heap.size = w.heap.size) (h2 : ∀ c, c ≠ b → w1.heap[c]? = w.heap[c]?) : Fr r W w (r.add W.next b x2) ((W.set k none).new o1 true) w1 := by
  have hkl : W.holds k := by unfold AW.holds; rw [hk]; simp
  refine ⟨Ren.le_add h.fresh, Nat.le_succ _, rfl, h0, h3, h4, Nat.le_of_eq h5.symm, fun c _ hn => h2 c ?_, fun j hj hr => (Ren.add_ne r (Nat.ne_of_lt hj)).trans hr, fun j hj hg => by
    rw [AW.get_new, next_set, if_neg (Nat.ne_of_lt hj), AW.get_set]
    split
    · rfl
    · exact hg, fun j o3 hj => ⟨o3, by
    rw [AW.get_new, next_set, if_neg (fun e => by
      subst e
      obtain ⟨b, x, _, h1, _⟩ := h.live _ _ _ hj
      rw [h.fresh] at h1
      cases h1), AW.get_set, if_neg (fun e => by subst e; rw [hk] at hj; cases hj)]
    exact hj⟩, fun j c y hj hrj hc => ?_⟩
  · rintro rfl
    exact hn k x hkl hro hr
  · unfold AW.holds at hj
    rw [AW.get_new, next_set] at hj
    by_cases e : j = W.next
    · subst e
      rw [Ren.add_self] at hrj
      injection hrj with hrj
      injection hrj with hrj _
      subst hrj
      exact ⟨k, x, hkl, hr, fun _ => hro⟩
    · rw [if_neg e] at hj
      rw [Ren.add_ne _ e] at hrj
      exact ⟨j, y, (holds_of_gone hj).1, hrj, id⟩

/-- What is loaded lies in the world's cells. -/
theorem loads_cells (h : WR P r W w) {a a' : Addr} (ha : AR r a a') : ∀ (n i : Nat) (acc acc' cs : Array Value) (W1 : AW), VRs r acc acc' → acc.size = i → (∀ j v', acc'[j]? = some v' → w.cell? (a'.add j) = some v') →
    arun P (loadCellsFrom a i n acc) W = some (cs, W1) → W1 = W ∧ ∃ cs', VRs r cs cs' ∧ cs.size = i + n ∧ ∀ j v', cs'[j]? = some v' → w.cell? (a'.add j) = some v'
  | 0, i, acc, acc', cs, W1, hv, hs, hc, e => by
    simp only [loadCellsFrom] at e
    injection e with e
    injection e with e1 e2
    subst e1 e2
    exact ⟨rfl, acc', hv, hs, hc⟩
  | n + 1, i, acc, acc', cs, W1, hv, hs, hc, e => by
    simp only [loadCellsFrom] at e
    obtain ⟨b', x, h1, h2⟩ := ha.add (n := i)
    change arun P (.load .plain (a.add i) fun v => loadCellsFrom a (i + 1) n (acc.push v)) W = some (cs, W1) at e
    simp only [arun] at e
    split at e
    · rename_i c ce fz l hsp hg
      rw [nthL_eq] at e
      split at e
      · rename_i v hvv
        obtain ⟨o', h3, h4, _⟩ := h.blk hg h1
        cases h4 with
        | cells h5 h6 =>
          obtain ⟨v', h7, h8⟩ := h6 _ v (by simpa using hvv)
          have hcell : w.cell? (a'.add i) = some v' := by
            rw [h2]
            generalize a.add i = q at hsp h7 h3
            obtain ⟨qb, qo, qs⟩ := q
            simp only at hsp
            subst hsp
            exact cell_of h3 h7
          obtain ⟨k1, cs', k2, k3, k4⟩ := loads_cells h ha n (i + 1) (acc.push v) (acc'.push v') cs W1 (hv.push h8) (by simp [hs]) (fun j u hu => by
            rw [Array.getElem?_push] at hu
            by_cases ej : j = acc'.size
            · rw [if_pos ej] at hu
              injection hu with hu
              subst hu
              rw [ej, hv.1, hs]
              exact hcell
            · rw [if_neg ej] at hu
              exact hc j u hu) e
          exact ⟨k1, cs', k2, by omega, k4⟩
      · cases e
    · cases e
theorem loads (h : WR P r W w) {a a' : Addr} (ha : AR r a a') {n : Nat} {cs : Array Value} {W1 : AW} (e : arun P (loadCells a n) W = some (cs, W1)) : W1 = W ∧ ∃ cs', VRs r cs cs' ∧ cs.size = n ∧ ∀ j v', cs'[j]? = some v' → w.cell? (a'.add j) = some v' := by
  obtain ⟨k1, cs', k2, k3, k4⟩ := loads_cells h ha n 0 #[] #[] cs W1 (VRs.nil r) rfl (fun j v' hj => by simp at hj) e
  exact ⟨k1, cs', k2, by omega, k4⟩

theorem heap_setCells_eq : ∀ (vs : List Value) (o : Nat) (w : World) (b : Nat) (c : Array Value) (e : TypeId) (fz : Nat × Nat), w.heap[b]? = some (.cells c e fz) → (w.setCells b o vs).heap[b]? = some (.cells ⟨putC c.toList o vs⟩ e fz)
  | [], o, w, b, c, e, fz, h => h
  | v :: vs, o, w, b, c, e, fz, h => by
    rw [World.setCells, heap_setCells_eq vs (o + 1) _ b _ e fz (heap_setCell_eq (o := o) v h)]
    simp only [putC, setL_eq, Array.toList_setIfInBounds]
theorem heap_setCells_ne : ∀ (vs : List Value) (o : Nat) (w : World) (b c : Nat), c ≠ b → (w.setCells b o vs).heap[c]? = w.heap[c]?
  | [], _, _, _, _, _ => rfl
  | v :: vs, o, w, b, c, h => by rw [World.setCells, heap_setCells_ne vs (o + 1) _ b c h, heap_setCell_ne w v h]
theorem setCells_rest : ∀ (vs : List Value) (o : Nat) (w : World) (b : Nat), (w.setCells b o vs).os = w.os ∧ (w.setCells b o vs).tape = w.tape ∧ (w.setCells b o vs).output = w.output ∧ (w.setCells b o vs).heap.size = w.heap.size
  | [], _, _, _ => ⟨rfl, rfl, rfl, rfl⟩
  | v :: vs, o, w, b => by
    obtain ⟨h1, h2, h3, h4⟩ := setCells_rest vs (o + 1) (w.setCell ⟨b, o, none⟩ v) b
    rw [World.setCells]
    exact ⟨h1, h2, h3, h4.trans (heap_setCell_size _ _ _)⟩
theorem putC_get : ∀ (vs cs : List Value) (o i : Nat), o + vs.length ≤ cs.length → (putC cs o vs)[i]? = if i < o then cs[i]? else if i < o + vs.length then vs[i - o]? else cs[i]?
  | [], cs, o, i, _ => by
    rw [putC, List.length_nil]
    split
    · rfl
    · rw [if_neg (by omega)]
  | v :: vs, cs, o, i, h => by
    simp only [List.length_cons] at h
    rw [putC, putC_get vs _ (o + 1) i (by rw [setL_eq, List.length_set]; omega), setL_eq]
    simp only [List.getElem?_set, List.length_cons]
    by_cases h1 : i < o
    · simp [h1, show i < o + 1 by omega, show ¬ o = i by omega]
    · by_cases h2 : i = o
      · subst h2
        simp [show i < cs.length by omega]
      · by_cases h3 : i < o + (vs.length + 1)
        · simp only [h1, show ¬ i < o + 1 by omega, show i < o + 1 + vs.length by omega, h3, if_true, if_false]
          rw [show i - o = (i - (o + 1)) + 1 by omega, List.getElem?_cons_succ]
        · simp only [h1, show ¬ i < o + 1 by omega, show ¬ i < o + 1 + vs.length by omega, h3, if_false, show ¬ o = i by omega]

/-- A row's cells, all of which are known, from its head on. -/
def headRow (W : AW) (a : Addr) (cap size : Nat) (elem : TypeId) : Bool :=
  match W.get a.block with
  | some (.cells c e (0, 0), true) => Nat.beq a.off 0 && a.spot.isNone && Nat.ble W.ro a.block && Nat.beq e elem && Nat.beq c.toList.length (cap * size)
  | _ => false
def tightRow (W : AW) (a : Addr) : Bool :=
  match W.get a.block with
  | some (.cells _ _ _, false) => a.spot.isNone
  | _ => false
def aappend (E : Env) (ts : Array TypeId) (s x : Value) (W : AW) : Option (Value × AW) :=
  match ts with
  | ⟨[t, t2]⟩ => match Nat.beq t t2, E.ty.get t with
    | true, some i => match i.under with
      | .slice elem => match E.ty.get elem, s, x with
        | some _, .slice base sLen sCap, .slice none 0 _ => cond (Nat.ble sLen sCap) (some (.slice base sLen sCap, W)) none
        | some j, .slice base sLen sCap, .slice (some xa) n _ => match j.zero with
          | some z => match arun E.P (loadCells xa (n * j.size)) W, Nat.beq z.cells.toList.length j.size, Nat.ble ((sLen + n) * j.bytes) 140737488355328, Nat.ble (sLen + n) 4611686018427387904, Nat.beq j.size 0 with
            | some (new, _), true, true, true, false =>
              match Nat.ble (sLen + n) sCap, base with
              | true, some a => match arun E.P (storeCells (a.add (sLen * j.size)) new.toList) W with
                | some (_, W2) => some (.slice (some a) (sLen + n) sCap, W2)
                | none => none
              | true, none => none
              | false, none => cond (Nat.beq sLen 0 && Nat.beq sCap 0) (some (.slice (some ⟨W.next, 0, none⟩) n n, W.new (.cells new elem) true)) none
              | false, some a => match arun E.P (loadCells a (sLen * j.size)) W with
                | some (old, _) => cond (tightRow W a) (some (.slice (some ⟨W.next, 0, none⟩) (sLen + n) (sLen + n), W.new (.cells (old ++ new) elem) true))
                    (cond (headRow W a sCap j.size elem && Nat.ble sLen sCap && new.toList.all oneCell) (some (.slice (some ⟨W.next, 0, none⟩) (sLen + n) (sLen + n), (W.set a.block none).new (.cells (old ++ new) elem) true)) none)
                | none => none
            | _, _, _, _, _ => none
          | none => none
        | _, _, _ => none
      | _ => none
    | _, _ => none
  | _ => none
end
end Go.Proofs.Ytkodblhompphjaa
