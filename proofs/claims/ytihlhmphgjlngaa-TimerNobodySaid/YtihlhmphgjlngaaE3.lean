/-
  Running a program by reckoning, 3: tables of the program's types and functions; the operations on memory, each as a plain tree, alike to the model's.
  Nothing here speaks of the program.
-/
import Derived.Test.YtihlhmphgjlngaaE2
namespace Go.Proofs.Ytihlhmphgjlngaa
open Go.RowKit

instance semLawful : LawfulMonad Sem := LawfulMonad.mk' Sem
  (id_map := fun x => by
    show Sem.bind x _ = x
    induction x with
    | pure a => rfl
    | halt h => rfl
    | load m a k ih => exact congrArg (Sem.load m a) (funext ih)
    | store m a v k ih => exact congrArg (Sem.store m a v) ih
    | new o k ih => exact congrArg (Sem.new o) (funext ih)
    | shape r k ih => exact congrArg (Sem.shape r) (funext ih)
    | freeze a n k ih => exact congrArg (Sem.freeze a n) ih
    | frozen a k ih => exact congrArg (Sem.frozen a) (funext ih)
    | getObj r k ih => exact congrArg (Sem.getObj r) (funext ih)
    | setObj r o k ih => exact congrArg (Sem.setObj r o) ih
    | choose q k ih => exact congrArg (Sem.choose q) (funext ih)
    | sys c k ih => exact congrArg (Sem.sys c) (funext ih)
    | program k ih => exact congrArg Sem.program (funext ih)
    | mark m k ih => exact congrArg (Sem.mark m) ih)
  (pure_bind := fun _ _ => rfl)
  (bind_assoc := fun x f g => by
    show Sem.bind (Sem.bind x f) g = Sem.bind x fun a => Sem.bind (f a) g
    induction x with
    | pure a => rfl
    | halt h => rfl
    | load m a k ih => exact congrArg (Sem.load m a) (funext ih)
    | store m a v k ih => exact congrArg (Sem.store m a v) ih
    | new o k ih => exact congrArg (Sem.new o) (funext ih)
    | shape r k ih => exact congrArg (Sem.shape r) (funext ih)
    | freeze a n k ih => exact congrArg (Sem.freeze a n) ih
    | frozen a k ih => exact congrArg (Sem.frozen a) (funext ih)
    | getObj r k ih => exact congrArg (Sem.getObj r) (funext ih)
    | setObj r o k ih => exact congrArg (Sem.setObj r o) ih
    | choose q k ih => exact congrArg (Sem.choose q) (funext ih)
    | sys c k ih => exact congrArg (Sem.sys c) (funext ih)
    | program k ih => exact congrArg Sem.program (funext ih)
    | mark m k ih => exact congrArg (Sem.mark m) ih)

/-- A table whose places are reckoned when they are asked for. -/
def Tb.tab {α : Type} : Nat → (Nat → Option α) → Tb α
  | 0, _ => .e
  | d + 1, g => .n (Tb.tab d fun j => g (2 * j + 1)) (g 0) (Tb.tab d fun j => g (2 * j + 2))
theorem Tb.tab_get {α : Type} {x : α} : ∀ (d : Nat) (g : Nat → Option α) (k : Nat), (Tb.tab d g).get k = some x → g k = some x
  | 0, _, _, h => by cases h
  | d + 1, g, k, h => by
    simp only [Tb.tab, Tb.get, beq_dec] at h
    by_cases h0 : k = 0
    · subst h0
      simpa using h
    · simp only [h0, decide_false, cond_false] at h
      by_cases hk : k % 2 = 1
      · simp only [hk, decide_true, cond_true] at h
        have := Tb.tab_get d _ _ h
        rwa [show 2 * (k / 2) + 1 = k by omega] at this
      · simp only [hk, decide_false, cond_false] at h
        have := Tb.tab_get d _ _ h
        rwa [show 2 * (k / 2 - 1) + 2 = k by omega] at this

/-- A value without addresses in one cell; in cells. -/
def simple1 : Value → Bool
  | .bool _ | .int _ _ | .float _ _ | .complex _ _ _ | .string _ | .pointer none | .slice none _ _ | .map none | .nilFunc | .nilIface => true
  | .func (.func _) ⟨[]⟩ ⟨[]⟩ => true
  | _ => false
def simple : Value → Bool
  | .agg cs => cs.toList.all simple1
  | v => simple1 v
theorem VR.simple1 {r : Ren} {v : Value} (h : simple1 v = true) : VR r v v := by
  unfold Go.Proofs.Ytihlhmphgjlngaa.simple1 at h
  split at h <;> first | cases h; done | skip
  all_goals first | exact .bool _ | exact .int _ _ | exact .float _ _ | exact .complex _ _ _ | exact .string _ | exact .pnil | exact .snil _ _ | exact .mnil | exact .fnil | exact .inil | skip
  exact .func (fun l hl => by cases hl) rfl (fun i v v' hv => by simp at hv) rfl (fun i v v' hv => by simp at hv)
theorem VRs.simple {r : Ren} {cs : Array Value} (h : cs.toList.all Go.Proofs.Ytihlhmphgjlngaa.simple1 = true) : VRs r cs cs := by
  refine ⟨rfl, fun i v v' h1 h2 => ?_⟩
  rw [h1] at h2
  injection h2 with h2
  subst h2
  rw [List.all_eq_true] at h
  exact .simple1 (h v (by rw [Array.mem_toList_iff]; exact Array.mem_of_getElem? h1))
theorem VR.simple {r : Ren} {v : Value} (h : simple v = true) : VR r v v := by
  unfold Go.Proofs.Ytihlhmphgjlngaa.simple at h
  split at h
  · exact .agg rfl (VRs.simple h).2
  · exact .simple1 h
theorem VRs.simpleCells {r : Ren} {v : Value} (h : Go.Proofs.Ytihlhmphgjlngaa.simple v = true) : VRs r v.cells v.cells := (VR.simple h).cells

structure TI where
  under : TypeDesc
  zero : Option Value
  size : Nat
  bytes : Nat
  cmp : List (Nat × Nat)
  stood : Bool
  guard : Bool
/-- The fields of a struct that count when it is compared: where they lie, their types. -/
def cmpF (l : List Field) : List (Nat × Nat) := l.filterMap fun f => if f.name ≠ "_" then some (f.offset, f.type) else none
def cmpOf : TypeDesc → List (Nat × Nat)
  | .struct fs => cmpF fs.toList
  | _ => []
structure FI where
  code : Code
  ntmps : Nat
  results : List ResultVar
structure Env where
  P : Program
  ty : Tb TI
  fn : Tb FI
structure Env.Ok (E : Env) : Prop where
  ty : ∀ t i, E.ty.get t = some i → E.P.underlying t = some i.under ∧ ∃ j, E.P.info? t = some j ∧ j.size = i.size ∧ j.bytes = i.bytes ∧ (∀ z, i.zero = some z → j.zero = some z ∧ simple z = true) ∧ i.cmp = cmpOf i.under ∧ i.stood = E.P.stoodInHeld t ∧ i.guard = E.P.eqGuardType E.P.depth t
  fn : ∀ f i, E.fn.get f = some i → ∃ fn, E.P.funcs[f]? = some fn ∧ fn.body = some i.code ∧ fn.ntmps = i.ntmps ∧ fn.results.toList = i.results ∧ (fn.name == "runtime.NumGoroutine") = false
  mixed : E.P.follows .mixedOrders = true
def mkTI (P : Program) (t : Nat) : Option TI :=
  match P.underlying t, P.info? t with
  | some u, some j => some ⟨u, match j.zero with | some z => cond (simple z) (some z) none | none => none, j.size, j.bytes, cmpOf u, P.stoodInHeld t, P.eqGuardType P.depth t⟩
  | _, _ => none
def mkFI (P : Program) (f : Nat) : Option FI :=
  match P.funcs[f]? with
  | some fn => cond (fn.name == "runtime.NumGoroutine") none (match fn.body with | some c => some ⟨c, fn.ntmps, fn.results.toList⟩ | none => none)
  | none => none
def mkEnv (P : Program) (dt df : Nat) : Env := ⟨P, Tb.tab dt (mkTI P), Tb.tab df (mkFI P)⟩
theorem mkEnv_ok (P : Program) (dt df : Nat) (hm : P.follows .mixedOrders = true) : (mkEnv P dt df).Ok := by
  refine ⟨fun t i h => ?_, fun f i h => ?_, hm⟩
  · have h1 := Tb.tab_get _ _ _ h
    unfold mkTI at h1
    split at h1
    · rename_i u j hu hj
      injection h1 with h1
      subst h1
      refine ⟨hu, j, hj, rfl, rfl, fun z hz => ?_, rfl, rfl, rfl⟩
      simp only at hz
      split at hz
      · rename_i z' hz'
        cases hs : Go.Proofs.Ytihlhmphgjlngaa.simple z' with
        | true =>
          rw [hs] at hz
          injection hz with hz
          subst hz
          exact ⟨hz', hs⟩
        | false => rw [hs] at hz; cases hz
      · cases hz
    · cases h1
  · have h1 := Tb.tab_get _ _ _ h
    unfold mkFI at h1
    split at h1
    · rename_i fn hfn
      cases hs : (fn.name == "runtime.NumGoroutine") with
      | true => rw [hs] at h1; cases h1
      | false =>
        rw [hs] at h1
        simp only [cond_false] at h1
        split at h1
        · rename_i c hc
          injection h1 with h1
          subst h1
          exact ⟨fn, hfn, hc, rfl, rfl, hs⟩
        · cases h1
    · cases h1

abbrev no {α : Type} : Sem α := .halt .blocked
def isA : TypeDesc → Bool
  | .struct _ | .array _ _ => true
  | _ => false

section
variable {E : Env} {r : Ren}
/-- Right hand: a look into the types. -/
theorem semUnd (ok : E.Ok) {α β : Type} {R : Ren → α → β → Prop} {t : TypeId} {i : TI} (h : E.ty.get t = some i) {s : Sem α} {f : TypeDesc → Sem β} (k : SemR E.P R r s (f i.under)) : SemR E.P R r s (underlying t >>= f) := by
  refine .programR ?_
  show SemR E.P R r s (Sem.bind (match E.P.underlying t with | some d => pure d | none => stuck "no such type") f)
  rw [(ok.ty t i h).1]
  exact k
theorem semIsAgg (ok : E.Ok) {α β : Type} {R : Ren → α → β → Prop} {t : TypeId} {i : TI} (h : E.ty.get t = some i) {s : Sem α} {f : Bool → Sem β} (k : SemR E.P R r s (f (isA i.under))) : SemR E.P R r s (isAgg t >>= f) := by
  unfold isAgg
  rw [bind_assoc]
  refine semUnd ok h ?_
  unfold isA at k
  revert k
  cases i.under <;> exact id
theorem semSize (ok : E.Ok) {α β : Type} {R : Ren → α → β → Prop} {t : TypeId} {i : TI} (h : E.ty.get t = some i) {s : Sem α} {f : Nat → Sem β} (k : SemR E.P R r s (f i.size)) : SemR E.P R r s (sizeOf t >>= f) := by
  obtain ⟨_, j, hj, h1, h2, h3, _⟩ := ok.ty t i h
  refine .programR ?_
  show SemR E.P R r s (Sem.bind (Sem.bind (match E.P.info? t with | some i => pure i | none => stuck "no such type") _) f)
  rw [hj]
  rw [← h1] at k
  exact k
theorem semInfo (ok : E.Ok) {α β : Type} {R : Ren → α → β → Prop} {t : TypeId} {i : TI} (h : E.ty.get t = some i) {s : Sem α} {f : TypeInfo → Sem β} (k : ∀ j : TypeInfo, j.size = i.size → j.bytes = i.bytes → (∀ z, i.zero = some z → j.zero = some z) → SemR E.P R r s (f j)) : SemR E.P R r s (typeInfo t >>= f) := by
  obtain ⟨_, j, hj, h1, h2, h3, _⟩ := ok.ty t i h
  refine .programR ?_
  show SemR E.P R r s (Sem.bind (match E.P.info? t with | some i => pure i | none => stuck "no such type") f)
  rw [hj]
  exact k j h1 h2 fun z hz => (h3 z hz).1
theorem semZero (ok : E.Ok) {α β : Type} {R : Ren → α → β → Prop} {t : TypeId} {i : TI} {z : Value} (h : E.ty.get t = some i) (hz : i.zero = some z) {s : Sem α} {f : Value → Sem β} (k : simple z = true → SemR E.P R r s (f z)) : SemR E.P R r s (zeroValue t >>= f) := by
  obtain ⟨_, j, hj, h1, h2, h3, _⟩ := ok.ty t i h
  obtain ⟨h4, h5⟩ := h3 z hz
  refine .programR ?_
  show SemR E.P R r s (Sem.bind (Sem.bind (match E.P.info? t with | some i => pure i | none => stuck "no such type") _) f)
  rw [hj]
  show SemR E.P R r s (Sem.bind (match j.zero with | some v => pure v | none => unsupported (.resourceLimit "a value of more than 2^22 cells")) f)
  rw [h4]
  exact k h5

theorem loadCellsFrom_R {P : Program} {a a' : Addr} (n : Nat) : ∀ (r : Ren) (i : Nat) (acc acc' : Array Value), AR r a a' → VRs r acc acc' → SemR P VRs r (loadCellsFrom a i n acc) (loadCellsFrom a' i n acc') := by
  induction n with
  | zero => intro r i acc acc' _ h; exact .pure h
  | succ n ih =>
    intro r i acc acc' ha h
    exact .load (ha.add i) fun s v v' l hv => ih s (i + 1) _ _ (ha.le l) ((h.le l).push hv)
theorem loadCells_R {P : Program} {a a' : Addr} (n : Nat) (ha : AR r a a') : SemR P VRs r (loadCells a n) (loadCells a' n) := loadCellsFrom_R n r 0 _ _ ha (VRs.nil r)
def UR (_ : Ren) (_ _ : Unit) : Prop := True
theorem storeCells_R {P : Program} {a a' : Addr} (ha : AR r a a') : ∀ (vs vs' : List Value) (i : Nat), VRs r vs.toArray vs'.toArray → SemR P UR r (storeCells a vs i) (storeCells a' vs' i)
  | [], [], _, _ => .pure trivial
  | [], v' :: l', _, h => by have := h.1; simp at this
  | v :: l, [], _, h => by have := h.1; simp at this
  | v :: l, v' :: l', i, h => by
    obtain ⟨h1, h2⟩ := h.of_list
    refine .store (ha.add i) (h2 0 v v' rfl rfl) (storeCells_R ha l l' (i + 1) ⟨by simpa using h1, fun j u u' e e' => ?_⟩)
    simp only [List.getElem?_toArray] at e e'
    exact h2 (j + 1) u u' (by simpa using e) (by simpa using e')
theorem cells_OR {P : Program} {c c' : Array Value} {e : TypeId} (h : VRs r c c') : OR P r 0 (.cells c e) (.cells c' e) :=
  .cells (by simp [h.1]) fun i v hv => h.at hv

/-- An address that is no nil. -/
def adr : Value → Option Addr
  | .pointer (some a) => some a
  | _ => none
theorem adr_R {v v' : Value} {a : Addr} (h : VR r v v') (ha : adr v = some a) : ∃ a', v' = .pointer (some a') ∧ v = .pointer (some a) ∧ AR r a a' := by
  unfold adr at ha
  split at ha
  · injection ha with ha
    subst ha
    cases h with
    | ptr h => exact ⟨_, rfl, rfl, _, _, h, rfl⟩
  · cases ha

def xload (E : Env) (t : TypeId) (v : Value) : Sem Value :=
  match adr v, E.ty.get t with
  | some a, some i => match isA i.under with
    | true => (loadCells a i.size).bind fun cs => .pure (.agg cs)
    | false => .load .plain a .pure
  | _, _ => no
theorem loadVar_R (ok : E.Ok) {t : TypeId} {i : TI} (h : E.ty.get t = some i) {a a' : Addr} (ha : AR r a a') :
    SemR E.P VR r (match isA i.under with | true => (loadCells a i.size).bind fun cs => .pure (.agg cs) | false => .load .plain a .pure) (loadVar t a') := by
  unfold loadVar
  refine semIsAgg ok h ?_
  cases isA i.under with
  | true =>
    simp only [if_true]
    refine semSize ok h ?_
    exact (loadCells_R i.size ha).bind fun s c c' l hc => .pure (.agg hc.1 hc.2)
  | false =>
    simp only [Bool.false_eq_true, if_false]
    exact .load ha fun s v v' l hv => .pure hv
theorem xload_R (ok : E.Ok) (t : TypeId) {v v' : Value} (hv : VR r v v') : SemR E.P VR r (xload E t v) (Instr.loadAt t v') := by
  unfold xload
  split
  · rename_i a i ha hi
    obtain ⟨a', rfl, rfl, h⟩ := adr_R hv ha
    exact loadVar_R ok hi h
  · exact .halt
def xstore (E : Env) (t : TypeId) (v x : Value) : Sem Unit :=
  match adr v, E.ty.get t with
  | some a, some i => match Nat.beq x.cells.toList.length i.size with
    | true => storeCells a x.cells.toList
    | false => no
  | _, _ => no
theorem xstore_R (ok : E.Ok) (t : TypeId) {v v' x x' : Value} (hv : VR r v v') (hx : VR r x x') : SemR E.P UR r (xstore E t v x) (Instr.storeAt t v' x') := by
  unfold xstore
  split
  · rename_i a i ha hi
    obtain ⟨a', rfl, rfl, h⟩ := adr_R hv ha
    split
    · rename_i hn
      unfold Instr.storeAt
      show SemR E.P UR r _ (storeVar t a' x')
      unfold storeVar
      refine semSize ok hi ?_
      have hc := hx.cells
      have h1 : x'.cells.size = i.size := by
        rw [hc.1]
        simpa using Nat.eq_of_beq_eq_true hn
      rw [if_neg (by omega)]
      exact storeCells_R h _ _ 0 (by simpa using hc)
    · exact .halt
  · exact .halt
def xalloc (E : Env) (t : TypeId) : Sem Value :=
  match E.ty.get t with
  | some i => match i.zero with
    | some z => .new (.cells z.cells t) fun b => .pure (.pointer (some ⟨b, 0, none⟩))
    | none => no
  | none => no
theorem xalloc_R (ok : E.Ok) (t : TypeId) : SemR E.P VR r (xalloc E t) (Instr.alloc t true (.tuple #[])) := by
  unfold xalloc
  split
  · rename_i i hi
    split
    · rename_i z hz
      unfold Instr.alloc
      exact semZero ok hi hz fun hs => .new (cells_OR (VRs.simpleCells hs)) fun _ _ _ _ hb => .pure (.ptr hb)
    · exact .halt
  · exact .halt
def xbox (t : TypeId) (v : Value) : Sem Value := .new (.cells v.cells t) fun b => .pure (.pointer (some ⟨b, 0, none⟩))
theorem xbox_R {P : Program} (t : TypeId) {v v' : Value} (hv : VR r v v') : SemR P VR r (xbox t v) (Instr.box t v') :=
  .new (cells_OR hv.cells) fun _ _ _ _ hb => .pure (.ptr hb)
def xfieldAddr (E : Env) (s : TypeId) (v : Value) (f : Nat) : Sem Value :=
  match adr v, E.ty.get s with
  | some a, some i => match i.under with
    | .struct fields => match nthL fields.toList f with
      | some fd => match E.ty.get fd.type with
        | some j => match Nat.beq j.size 0 with
          | false => .pure (.pointer (some (a.add fd.offset)))
          | true => no
        | none => no
      | none => no
    | _ => no
  | _, _ => no
theorem AR.ptr {a a' : Addr} (h : AR r a a') : VR r (.pointer (some a)) (.pointer (some a')) := by
  obtain ⟨b', x, h1, rfl⟩ := h
  obtain ⟨ab, ao, asp⟩ := a
  exact .ptr h1
theorem xfieldAddr_R (ok : E.Ok) (s : TypeId) {v v' : Value} (hv : VR r v v') (f : Nat) : SemR E.P VR r (xfieldAddr E s v f) (Instr.fieldAt s v' f) := by
  unfold xfieldAddr
  split
  · rename_i a i ha hi
    obtain ⟨a', rfl, rfl, h⟩ := adr_R hv ha
    split
    · rename_i fields hu
      split
      · rename_i fd hf
        split
        · rename_i j hj
          split
          · rename_i hn
            unfold Instr.fieldAt
            refine semUnd ok hi ?_
            rw [nthL_eq] at hf
            simp only [hu]
            have hf' : fields[f]? = some fd := by simpa using hf
            simp only [hf']
            show SemR E.P VR r _ (fieldPlace a' fd >>= fun x => pure (.pointer (some x)))
            unfold fieldPlace
            rw [bind_assoc]
            refine semSize ok hj ?_
            rw [if_neg (Nat.ne_of_beq_eq_false hn)]
            exact .pure (h.add _).ptr
          · exact .halt
        · exact .halt
      · exact .halt
    · exact .halt
  · exact .halt
/-- An int that is no less than 0. -/
def nat? : Value → Option Nat
  | .int _ (.ofNat n) => some n
  | _ => none
theorem nat_R {v v' : Value} {n : Nat} (h : VR r v v') (hn : nat? v = some n) : ∃ k, v' = .int k (n : Int) ∧ v = .int k (n : Int) := by
  unfold nat? at hn
  split at hn
  · injection hn with hn
    subst hn
    cases h
    exact ⟨_, rfl, rfl⟩
  · cases hn
def xindexAddr (E : Env) (t : TypeId) (x ix : Value) : Sem Value :=
  match nat? ix, E.ty.get t with
  | some n, some i => match i.under, x with
    | .array len elem, .pointer (some a) => match Nat.ble (n + 1) len, E.ty.get elem with
      | true, some j => .pure (.pointer (some (a.add (n * j.size))))
      | _, _ => no
    | .slice elem, .slice (some a) len _ => match Nat.ble (n + 1) len, E.ty.get elem with
      | true, some j => .pure (.pointer (some (a.add (n * j.size))))
      | _, _ => no
    | _, _ => no
  | _, _ => no
theorem xindexAddr_R (ok : E.Ok) (t : TypeId) {x x' ix ix' : Value} (hx : VR r x x') (hi : VR r ix ix') : SemR E.P VR r (xindexAddr E t x ix) (Instr.indexAt t x' ix') := by
  unfold xindexAddr
  split
  · rename_i n i hn ht
    obtain ⟨k, rfl, rfl⟩ := nat_R hi hn
    split
    · rename_i len elem a hu
      split
      · rename_i j hlt hj
        cases hx with
        | @ptr b o b' z sp hb =>
          unfold Instr.indexAt
          show SemR E.P VR r _ (underlying t >>= _)
          refine semUnd ok ht ?_
          rw [hu]
          show SemR E.P VR r _ (underlying t >>= _)
          refine semUnd ok ht ?_
          have h1 : n < len := Nat.le_of_ble_eq_true hlt
          simp only
          rw [if_pos ⟨Int.natCast_nonneg n, by omega⟩]
          refine semSize ok hj ?_
          exact .pure (AR.ptr (AR.add ⟨b', z, hb, rfl⟩ _))
      · exact .halt
    · rename_i elem a len c hu
      split
      · rename_i j hlt hj
        cases hx with
        | @slice b o b' z _ _ sp hb =>
          unfold Instr.indexAt
          show SemR E.P VR r _ (underlying t >>= _)
          refine semUnd ok ht ?_
          rw [hu]
          show SemR E.P VR r _ (underlying t >>= _)
          refine semUnd ok ht ?_
          have h1 : n < len := Nat.le_of_ble_eq_true hlt
          simp only
          rw [if_pos ⟨Int.natCast_nonneg n, by omega⟩]
          refine semSize ok hj ?_
          exact .pure (AR.ptr (AR.add ⟨b', z, hb, rfl⟩ _))
      · exact .halt
    · exact .halt
  · exact .halt
end
end Go.Proofs.Ytihlhmphgjlngaa
