/- Running a program by reckoning, 3: tables of the program's types and functions; the operations on memory, each as a plain tree, alike to the model's.
  Nothing here speaks of the program. Running a program by reckoning, 4: parts of values, slices, what is built, reckoning with numbers, texts and floats.
  Nothing here speaks of the program. -/
import Derived.Test.YtkodblhompphjaaVo
namespace Go.Proofs.Ytkodblhompphjaa
open Go.RowKit

instance semLawful : LawfulMonad Sem := LawfulMonad.mk' Sem
  (id_map := fun x => by
    show Sem.bind x _ = x
    induction x with
    | pure a => rfl
    | halt h => rfl
    | load m a k ih => exact congrArg (Sem.load m a) (funext ih)
    | store m a v k ih => exact congrArg (Sem.store m a v) ih
    | new o k ih => exact congrArg (Sem.new o) (funext ih)
    | shape r k ih => exact congrArg (Sem.shape r) (funext ih)
    | freeze a n k ih => exact congrArg (Sem.freeze a n) ih
    | frozen a k ih => exact congrArg (Sem.frozen a) (funext ih)
    | getObj r k ih => exact congrArg (Sem.getObj r) (funext ih)
    | setObj r o k ih => exact congrArg (Sem.setObj r o) ih
    | choose q k ih => exact congrArg (Sem.choose q) (funext ih)
    | sys c k ih => exact congrArg (Sem.sys c) (funext ih)
    | program k ih => exact congrArg Sem.program (funext ih)
    | mark m k ih => exact congrArg (Sem.mark m) ih)
  (pure_bind := fun _ _ => rfl)
  (bind_assoc := fun x f g => by
    show Sem.bind (Sem.bind x f) g = Sem.bind x fun a => Sem.bind (f a) g
    induction x with
    | pure a => rfl
    | halt h => rfl
    | load m a k ih => exact congrArg (Sem.load m a) (funext ih)
    | store m a v k ih => exact congrArg (Sem.store m a v) ih
    | new o k ih => exact congrArg (Sem.new o) (funext ih)
    | shape r k ih => exact congrArg (Sem.shape r) (funext ih)
    | freeze a n k ih => exact congrArg (Sem.freeze a n) ih
    | frozen a k ih => exact congrArg (Sem.frozen a) (funext ih)
    | getObj r k ih => exact congrArg (Sem.getObj r) (funext ih)
    | setObj r o k ih => exact congrArg (Sem.setObj r o) ih
    | choose q k ih => exact congrArg (Sem.choose q) (funext ih)
    | sys c k ih => exact congrArg (Sem.sys c) (funext ih)
    | program k ih => exact congrArg Sem.program (funext ih)
    | mark m k ih => exact congrArg (Sem.mark m) ih)

/-- A table whose places are reckoned when they are asked for. -/
def Tb.tab {α : Type} : Nat → (Nat → Option α) → Tb α
  | 0, _ => .e
  | d + 1, g => .n (Tb.tab d fun j => g (2 * j + 1)) (g 0) (Tb.tab d fun j => g (2 * j + 2))
theorem Tb.tab_get {α : Type} {x : α} : ∀ (d : Nat) (g : Nat → Option α) (k : Nat), (Tb.tab d g).get k = some x → g k = some x
  | 0, _, _, h => by cases h
  | d + 1, g, k, h => by
    simp only [Tb.tab, Tb.get, beq_dec] at h
    by_cases h0 : k = 0
    · subst h0
      simpa using h
    · simp only [h0, decide_false, cond_false] at h
      by_cases hk : k % 2 = 1
      · simp only [hk, decide_true, cond_true] at h
        have := Tb.tab_get d _ _ h
        rwa [show 2 * (k / 2) + 1 = k by omega] at this
      · simp only [hk, decide_false, cond_false] at h
        have := Tb.tab_get d _ _ h
        rwa [show 2 * (k / 2 - 1) + 2 = k by omega] at this

/-- A value without addresses in one cell; in cells. -/
def simple1 : Value → Bool
  | .bool _ | .int _ _ | .float _ _ | .complex _ _ _ | .string _ | .pointer none | .slice none _ _ | .map none | .nilFunc | .nilIface => true
  | .func (.func _) ⟨[]⟩ ⟨[]⟩ => true
  | _ => false
def simple : Value → Bool
  | .agg cs => cs.toList.all simple1
  | v => simple1 v
theorem VR.simple1 {r : Ren} {v : Value} (h : simple1 v = true) : VR r v v := by
  unfold Go.Proofs.Ytkodblhompphjaa.simple1 at h
  split at h <;> first | cases h; done | skip
  all_goals first | exact .bool _ | exact .int _ _ | exact .float _ _ | exact .complex _ _ _ | exact .string _ | exact .pnil | exact .snil _ _ | exact .mnil | exact .fnil | exact .inil | skip
  exact .func (fun l hl => by cases hl) rfl (fun i v v' hv => by simp at hv) rfl (fun i v v' hv => by simp at hv)
theorem VRs.simple {r : Ren} {cs : Array Value} (h : cs.toList.all Go.Proofs.Ytkodblhompphjaa.simple1 = true) : VRs r cs cs := by
  refine ⟨rfl, fun i v v' h1 h2 => ?_⟩
  rw [h1] at h2
  injection h2 with h2
  subst h2
  rw [List.all_eq_true] at h
  exact .simple1 (h v (by rw [Array.mem_toList_iff]; exact Array.mem_of_getElem? h1))
theorem VR.simple {r : Ren} {v : Value} (h : simple v = true) : VR r v v := by
  unfold Go.Proofs.Ytkodblhompphjaa.simple at h
  split at h
  · exact .agg rfl (VRs.simple h).2
  · exact .simple1 h
theorem VRs.simpleCells {r : Ren} {v : Value} (h : Go.Proofs.Ytkodblhompphjaa.simple v = true) : VRs r v.cells v.cells := (VR.simple h).cells

structure TI where
  under : TypeDesc
  zero : Option Value
  size : Nat
  bytes : Nat
  cmp : List (Nat × Nat)
  stood : Bool
  guard : Bool
/-- The fields of a struct that count when it is compared: where they lie, their types. -/
def cmpF (l : List Field) : List (Nat × Nat) := l.filterMap fun f => if f.name ≠ "_" then some (f.offset, f.type) else none
def cmpOf : TypeDesc → List (Nat × Nat)
  | .struct fs => cmpF fs.toList
  | _ => []
structure FI where
  code : Code
  ntmps : Nat
  results : List ResultVar
structure Env where
  P : Program
  ty : Tb TI
  fn : Tb FI
structure Env.Ok (E : Env) : Prop where
  ty : ∀ t i, E.ty.get t = some i → E.P.underlying t = some i.under ∧ ∃ j, E.P.info? t = some j ∧ j.size = i.size ∧ j.bytes = i.bytes ∧ (∀ z, i.zero = some z → j.zero = some z ∧ simple z = true) ∧ i.cmp = cmpOf i.under ∧ i.stood = E.P.stoodInHeld t ∧ i.guard = E.P.eqGuardType E.P.depth t
  fn : ∀ f i, E.fn.get f = some i → ∃ fn, E.P.funcs[f]? = some fn ∧ fn.body = some i.code ∧ fn.ntmps = i.ntmps ∧ fn.results.toList = i.results ∧ (fn.name == "runtime.NumGoroutine") = false
  mixed : E.P.follows .mixedOrders = true
def mkTI (P : Program) (t : Nat) : Option TI :=
  match P.underlying t, P.info? t with
  | some u, some j => some ⟨u, match j.zero with | some z => cond (simple z) (some z) none | none => none, j.size, j.bytes, cmpOf u, P.stoodInHeld t, P.eqGuardType P.depth t⟩
  | _, _ => none
def mkFI (P : Program) (f : Nat) : Option FI :=
  match P.funcs[f]? with
  | some fn => cond (fn.name == "runtime.NumGoroutine") none (match fn.body with | some c => some ⟨c, fn.ntmps, fn.results.toList⟩ | none => none)
  | none => none
def mkEnv (P : Program) (dt df : Nat) : Env := ⟨P, Tb.tab dt (mkTI P), Tb.tab df (mkFI P)⟩
theorem mkEnv_ok (P : Program) (dt df : Nat) (hm : P.follows .mixedOrders = true) : (mkEnv P dt df).Ok := by
  refine ⟨fun t i h => ?_, fun f i h => ?_, hm⟩
  · have h1 := Tb.tab_get _ _ _ h
    unfold mkTI at h1
    split at h1
    · rename_i u j hu hj
      injection h1 with h1
      subst h1
      refine ⟨hu, j, hj, rfl, rfl, fun z hz => ?_, rfl, rfl, rfl⟩
      simp only at hz
      split at hz
      · rename_i z' hz'
        cases hs : Go.Proofs.Ytkodblhompphjaa.simple z' with
        | true =>
          rw [hs] at hz
          injection hz with hz
          subst hz
          exact ⟨hz', hs⟩
        | false => rw [hs] at hz; cases hz
      · cases hz
    · cases h1
  · have h1 := Tb.tab_get _ _ _ h
    unfold mkFI at h1
    split at h1
    · rename_i fn hfn
      cases hs : (fn.name == "runtime.NumGoroutine") with
      | true => rw [hs] at h1; cases h1
      | false =>
        rw [hs] at h1
        simp only [cond_false] at h1
        split at h1
        · rename_i c hc
          injection h1 with h1
          subst h1
          exact ⟨fn, hfn, hc, rfl, rfl, hs⟩
        · cases h1
    · cases h1

abbrev no {α : Type} : Sem α := .halt .blocked
def isA : TypeDesc → Bool
  | .struct _ | .array _ _ => true
  | _ => false

section
variable {E : Env} {r : Ren}
/-- Right hand: a look into the types. -/
theorem semUnd (ok : E.Ok) {α β : Type} {R : Ren → α → β → Prop} {t : TypeId} {i : TI} (h : E.ty.get t = some i) {s : Sem α} {f : TypeDesc → Sem β} (k : SemR E.P R r s (f i.under)) : SemR E.P R r s (underlying t >>= f) := by
  refine .programR ?_
  show SemR E.P R r s (Sem.bind (match E.P.underlying t with | some d => pure d | none => stuck "no such type") f)
  rw [(ok.ty t i h).1]
  exact k
theorem semIsAgg (ok : E.Ok) {α β : Type} {R : Ren → α → β → Prop} {t : TypeId} {i : TI} (h : E.ty.get t = some i) {s : Sem α} {f : Bool → Sem β} (k : SemR E.P R r s (f (isA i.under))) : SemR E.P R r s (isAgg t >>= f) := by
  unfold isAgg
  rw [bind_assoc]
  refine semUnd ok h ?_
  unfold isA at k
  revert k
  cases i.under <;> exact id
theorem semSize (ok : E.Ok) {α β : Type} {R : Ren → α → β → Prop} {t : TypeId} {i : TI} (h : E.ty.get t = some i) {s : Sem α} {f : Nat → Sem β} (k : SemR E.P R r s (f i.size)) : SemR E.P R r s (sizeOf t >>= f) := by
  obtain ⟨_, j, hj, h1, h2, h3, _⟩ := ok.ty t i h
  refine .programR ?_
  show SemR E.P R r s (Sem.bind (Sem.bind (match E.P.info? t with | some i => pure i | none => stuck "no such type") _) f)
  rw [hj]
  rw [← h1] at k
  exact k
theorem semInfo (ok : E.Ok) {α β : Type} {R : Ren → α → β → Prop} {t : TypeId} {i : TI} (h : E.ty.get t = some i) {s : Sem α} {f : TypeInfo → Sem β} (k : ∀ j : TypeInfo, j.size = i.size → j.bytes = i.bytes → (∀ z, i.zero = some z → j.zero = some z) → SemR E.P R r s (f j)) : SemR E.P R r s (typeInfo t >>= f) := by
  obtain ⟨_, j, hj, h1, h2, h3, _⟩ := ok.ty t i h
  refine .programR ?_
  show SemR E.P R r s (Sem.bind (match E.P.info? t with | some i => pure i | none => stuck "no such type") f)
  rw [hj]
  exact k j h1 h2 fun z hz => (h3 z hz).1
theorem semZero (ok : E.Ok) {α β : Type} {R : Ren → α → β → Prop} {t : TypeId} {i : TI} {z : Value} (h : E.ty.get t = some i) (hz : i.zero = some z) {s : Sem α} {f : Value → Sem β} (k : simple z = true → SemR E.P R r s (f z)) : SemR E.P R r s (zeroValue t >>= f) := by
  obtain ⟨_, j, hj, h1, h2, h3, _⟩ := ok.ty t i h
  obtain ⟨h4, h5⟩ := h3 z hz
  refine .programR ?_
  show SemR E.P R r s (Sem.bind (Sem.bind (match E.P.info? t with | some i => pure i | none => stuck "no such type") _) f)
  rw [hj]
  show SemR E.P R r s (Sem.bind (match j.zero with | some v => pure v | none => unsupported (.resourceLimit "a value of more than 2^22 cells")) f)
  rw [h4]
  exact k h5

theorem loadCellsFrom_R {P : Program} {a a' : Addr} (n : Nat) : ∀ (r : Ren) (i : Nat) (acc acc' : Array Value), AR r a a' → VRs r acc acc' → SemR P VRs r (loadCellsFrom a i n acc) (loadCellsFrom a' i n acc') := by
  induction n with
  | zero => intro r i acc acc' _ h; exact .pure h
  | succ n ih =>
    intro r i acc acc' ha h
    exact .load (ha.add i) fun s v v' l hv => ih s (i + 1) _ _ (ha.le l) ((h.le l).push hv)
theorem loadCells_R {P : Program} {a a' : Addr} (n : Nat) (ha : AR r a a') : SemR P VRs r (loadCells a n) (loadCells a' n) := loadCellsFrom_R n r 0 _ _ ha (VRs.nil r)
def UR (_ : Ren) (_ _ : Unit) : Prop := True
theorem storeCells_R {P : Program} {a a' : Addr} (ha : AR r a a') : ∀ (vs vs' : List Value) (i : Nat), VRs r vs.toArray vs'.toArray → SemR P UR r (storeCells a vs i) (storeCells a' vs' i)
  | [], [], _, _ => .pure trivial
  | [], v' :: l', _, h => by have := h.1; simp at this
  | v :: l, [], _, h => by have := h.1; simp at this
  | v :: l, v' :: l', i, h => by
    obtain ⟨h1, h2⟩ := h.of_list
    refine .store (ha.add i) (h2 0 v v' rfl rfl) (storeCells_R ha l l' (i + 1) ⟨by simpa using h1, fun j u u' e e' => ?_⟩)
    simp only [List.getElem?_toArray] at e e'
    exact h2 (j + 1) u u' (by simpa using e) (by simpa using e')
theorem cells_OR {P : Program} {c c' : Array Value} {e : TypeId} (h : VRs r c c') : OR P r 0 (.cells c e) (.cells c' e) :=
  .cells (by simp [h.1]) fun i v hv => h.at hv

/-- An address that is no nil. -/
def adr : Value → Option Addr
  | .pointer (some a) => some a
  | _ => none
theorem adr_R {v v' : Value} {a : Addr} (h : VR r v v') (ha : adr v = some a) : ∃ a', v' = .pointer (some a') ∧ v = .pointer (some a) ∧ AR r a a' := by
  unfold adr at ha
  split at ha
  · injection ha with ha
    subst ha
    cases h with
    | ptr h => exact ⟨_, rfl, rfl, _, _, h, rfl⟩
  · cases ha

def xload (E : Env) (t : TypeId) (v : Value) : Sem Value :=
  match adr v, E.ty.get t with
  | some a, some i => match isA i.under with
    | true => (loadCells a i.size).bind fun cs => .pure (.agg cs)
    | false => .load .plain a .pure
  | _, _ => no
theorem loadVar_R (ok : E.Ok) {t : TypeId} {i : TI} (h : E.ty.get t = some i) {a a' : Addr} (ha : AR r a a') :
    SemR E.P VR r (match isA i.under with | true => (loadCells a i.size).bind fun cs => .pure (.agg cs) | false => .load .plain a .pure) (loadVar t a') := by
  unfold loadVar
  refine semIsAgg ok h ?_
  cases isA i.under with
  | true =>
    simp only [if_true]
    refine semSize ok h ?_
    exact (loadCells_R i.size ha).bind fun s c c' l hc => .pure (.agg hc.1 hc.2)
  | false =>
    simp only [Bool.false_eq_true, if_false]
    exact .load ha fun s v v' l hv => .pure hv
theorem xload_R (ok : E.Ok) (t : TypeId) {v v' : Value} (hv : VR r v v') : SemR E.P VR r (xload E t v) (Instr.loadAt t v') := by
  unfold xload
  split
  · rename_i a i ha hi
    obtain ⟨a', rfl, rfl, h⟩ := adr_R hv ha
    exact loadVar_R ok hi h
  · exact .halt
def xstore (E : Env) (t : TypeId) (v x : Value) : Sem Unit :=
  match adr v, E.ty.get t with
  | some a, some i => match Nat.beq x.cells.toList.length i.size with
    | true => storeCells a x.cells.toList
    | false => no
  | _, _ => no
theorem xstore_R (ok : E.Ok) (t : TypeId) {v v' x x' : Value} (hv : VR r v v') (hx : VR r x x') : SemR E.P UR r (xstore E t v x) (Instr.storeAt t v' x') := by
  unfold xstore
  split
  · rename_i a i ha hi
    obtain ⟨a', rfl, rfl, h⟩ := adr_R hv ha
    split
    · rename_i hn
      unfold Instr.storeAt
      show SemR E.P UR r _ (storeVar t a' x')
      unfold storeVar
      refine semSize ok hi ?_
      have hc := hx.cells
      have h1 : x'.cells.size = i.size := by
        rw [hc.1]
        simpa using Nat.eq_of_beq_eq_true hn
      rw [if_neg (by omega)]
      exact storeCells_R h _ _ 0 (by simpa using hc)
    · exact .halt
  · exact .halt
def xalloc (E : Env) (t : TypeId) : Sem Value :=
  match E.ty.get t with
  | some i => match i.zero with
    | some z => .new (.cells z.cells t) fun b => .pure (.pointer (some ⟨b, 0, none⟩))
    | none => no
  | none => no
theorem xalloc_R (ok : E.Ok) (t : TypeId) : SemR E.P VR r (xalloc E t) (Instr.alloc t true (.tuple #[])) := by
  unfold xalloc
  split
  · rename_i i hi
    split
    · rename_i z hz
      unfold Instr.alloc
      exact semZero ok hi hz fun hs => .new (cells_OR (VRs.simpleCells hs)) fun _ _ _ _ hb => .pure (.ptr hb)
    · exact .halt
  · exact .halt
def xbox (t : TypeId) (v : Value) : Sem Value := .new (.cells v.cells t) fun b => .pure (.pointer (some ⟨b, 0, none⟩))
theorem xbox_R {P : Program} (t : TypeId) {v v' : Value} (hv : VR r v v') : SemR P VR r (xbox t v) (Instr.box t v') :=
  .new (cells_OR hv.cells) fun _ _ _ _ hb => .pure (.ptr hb)
def xfieldAddr (E : Env) (s : TypeId) (v : Value) (f : Nat) : Sem Value :=
  match adr v, E.ty.get s with
  | some a, some i => match i.under with
    | .struct fields => match nthL fields.toList f with
      | some fd => match E.ty.get fd.type with
        | some j => match Nat.beq j.size 0 with
          | false => .pure (.pointer (some (a.add fd.offset)))
          | true => no
        | none => no
      | none => no
    | _ => no
  | _, _ => no
theorem AR.ptr {a a' : Addr} (h : AR r a a') : VR r (.pointer (some a)) (.pointer (some a')) := by
  obtain ⟨b', x, h1, rfl⟩ := h
  obtain ⟨ab, ao, asp⟩ := a
  exact .ptr h1
theorem xfieldAddr_R (ok : E.Ok) (s : TypeId) {v v' : Value} (hv : VR r v v') (f : Nat) : SemR E.P VR r (xfieldAddr E s v f) (Instr.fieldAt s v' f) := by
  unfold xfieldAddr
  split
  · rename_i a i ha hi
    obtain ⟨a', rfl, rfl, h⟩ := adr_R hv ha
    split
    · rename_i fields hu
      split
      · rename_i fd hf
        split
        · rename_i j hj
          split
          · rename_i hn
            unfold Instr.fieldAt
            refine semUnd ok hi ?_
            rw [nthL_eq] at hf
            simp only [hu]
            have hf' : fields[f]? = some fd := by simpa using hf
            simp only [hf']
            show SemR E.P VR r _ (fieldPlace a' fd >>= fun x => pure (.pointer (some x)))
            unfold fieldPlace
            rw [bind_assoc]
            refine semSize ok hj ?_
            rw [if_neg (Nat.ne_of_beq_eq_false hn)]
            exact .pure (h.add _).ptr
          · exact .halt
        · exact .halt
      · exact .halt
    · exact .halt
  · exact .halt
/-- An int that is no less than 0. -/
def nat? : Value → Option Nat
  | .int _ (.ofNat n) => some n
  | _ => none
theorem nat_R {v v' : Value} {n : Nat} (h : VR r v v') (hn : nat? v = some n) : ∃ k, v' = .int k (n : Int) ∧ v = .int k (n : Int) := by
  unfold nat? at hn
  split at hn
  · injection hn with hn
    subst hn
    cases h
    exact ⟨_, rfl, rfl⟩
  · cases hn
def xindexAddr (E : Env) (t : TypeId) (x ix : Value) : Sem Value :=
  match nat? ix, E.ty.get t with
  | some n, some i => match i.under, x with
    | .array len elem, .pointer (some a) => match Nat.ble (n + 1) len, E.ty.get elem with
      | true, some j => .pure (.pointer (some (a.add (n * j.size))))
      | _, _ => no
    | .slice elem, .slice (some a) len _ => match Nat.ble (n + 1) len, E.ty.get elem with
      | true, some j => .pure (.pointer (some (a.add (n * j.size))))
      | _, _ => no
    | _, _ => no
  | _, _ => no
theorem xindexAddr_R (ok : E.Ok) (t : TypeId) {x x' ix ix' : Value} (hx : VR r x x') (hi : VR r ix ix') : SemR E.P VR r (xindexAddr E t x ix) (Instr.indexAt t x' ix') := by
  unfold xindexAddr
  split
  · rename_i n i hn ht
    obtain ⟨k, rfl, rfl⟩ := nat_R hi hn
    split
    · rename_i len elem a hu
      split
      · rename_i j hlt hj
        cases hx with
        | @ptr b o b' z sp hb =>
          unfold Instr.indexAt
          show SemR E.P VR r _ (underlying t >>= _)
          refine semUnd ok ht ?_
          rw [hu]
          show SemR E.P VR r _ (underlying t >>= _)
          refine semUnd ok ht ?_
          have h1 : n < len := Nat.le_of_ble_eq_true hlt
          simp only
          rw [if_pos ⟨Int.natCast_nonneg n, by omega⟩]
          refine semSize ok hj ?_
          exact .pure (AR.ptr (AR.add ⟨b', z, hb, rfl⟩ _))
      · exact .halt
    · rename_i elem a len c hu
      split
      · rename_i j hlt hj
        cases hx with
        | @slice b o b' z _ _ sp hb =>
          unfold Instr.indexAt
          show SemR E.P VR r _ (underlying t >>= _)
          refine semUnd ok ht ?_
          rw [hu]
          show SemR E.P VR r _ (underlying t >>= _)
          refine semUnd ok ht ?_
          have h1 : n < len := Nat.le_of_ble_eq_true hlt
          simp only
          rw [if_pos ⟨Int.natCast_nonneg n, by omega⟩]
          refine semSize ok hj ?_
          exact .pure (AR.ptr (AR.add ⟨b', z, hb, rfl⟩ _))
      · exact .halt
    · exact .halt
  · exact .halt
end
end Go.Proofs.Ytkodblhompphjaa

namespace Go.Proofs.Ytkodblhompphjaa
open Go.RowKit

section
variable {E : Env} {r : Ren}
/-- A part of a row of cells. -/
def xpart (E : Env) (t : TypeId) (cs : Array Value) (off : Nat) : Sem Value :=
  match E.ty.get t with
  | some i => match isA i.under with
    | true => .pure (.agg ⟨(cs.toList.drop off).take i.size⟩)
    | false => match nthL cs.toList off with
      | some v => .pure v
      | none => no
  | none => no
theorem extract_list (cs : Array Value) (a n : Nat) : (⟨(cs.toList.drop a).take n⟩ : Array Value) = cs.extract a (a + n) := by
  apply Array.ext'
  simp [Array.toList_extract, List.extract_eq_take_drop]
theorem xpart_R (ok : E.Ok) (t : TypeId) {cs cs' : Array Value} (h : VRs r cs cs') (off : Nat) : SemR E.P VR r (xpart E t cs off) (part t cs' off) := by
  unfold xpart
  split
  · rename_i i hi
    unfold part
    refine semIsAgg ok hi ?_
    cases isA i.under with
    | true =>
      simp only [if_true]
      refine semSize ok hi ?_
      rw [extract_list]
      have := h.cut off (off + i.size)
      exact .pure (.agg this.1 this.2)
    | false =>
      simp only [Bool.false_eq_true, if_false]
      rw [nthL_eq]
      cases hv : cs.toList[off]? with
      | none => exact .halt
      | some v =>
        obtain ⟨v', h1, h2⟩ := h.at (i := off) (v := v) (by simpa using hv)
        simp only [h1]
        exact .pure h2
  · exact .halt
def xfield (E : Env) (t : TypeId) (x : Value) (f : Nat) : Sem Value :=
  match x, E.ty.get t with
  | .agg cs, some i => match i.under with
    | .struct fields => match nthL fields.toList f with
      | some fd => xpart E fd.type cs fd.offset
      | none => no
    | _ => no
  | _, _ => no
theorem xfield_R (ok : E.Ok) (t : TypeId) {x x' : Value} (hx : VR r x x') (f : Nat) : SemR E.P VR r (xfield E t x f) (Instr.field t x' f) := by
  unfold xfield
  split
  · rename_i cs i hi
    cases hx with
    | @agg _ cs' h1 h2 =>
      split
      · rename_i fields hu
        split
        · rename_i fd hf
          unfold Instr.field
          refine semUnd ok hi ?_
          rw [nthL_eq] at hf
          have hf' : fields[f]? = some fd := by simpa using hf
          simp only [hu, hf']
          exact xpart_R ok fd.type ⟨h1, h2⟩ fd.offset
        · exact .halt
      · exact .halt
  · exact .halt
def xindex (E : Env) (t : TypeId) (x ix : Value) : Sem Value :=
  match nat? ix, E.ty.get t with
  | some n, some i => match i.under, x with
    | .array len elem, .agg cs => match Nat.ble (n + 1) len, E.ty.get elem with
      | true, some j => xpart E elem cs (n * j.size)
      | _, _ => no
    | .string, .string s => match nthL s.data.toList n with
      | some b => .pure (.int .u8 b.toNat)
      | none => no
    | _, _ => no
  | _, _ => no
theorem xindex_R (ok : E.Ok) (t : TypeId) {x x' ix ix' : Value} (hx : VR r x x') (hi : VR r ix ix') : SemR E.P VR r (xindex E t x ix) (Instr.index t x' ix') := by
  unfold xindex
  split
  · rename_i n i hn ht
    obtain ⟨k, rfl, rfl⟩ := nat_R hi hn
    split
    · rename_i len elem cs hu
      split
      · rename_i j hlt hj
        cases hx with
        | @agg _ cs' h1 h2 =>
          unfold Instr.index
          show SemR E.P VR r _ (underlying t >>= _)
          refine semUnd ok ht ?_
          rw [hu]
          have h3 : n < len := Nat.le_of_ble_eq_true hlt
          simp only
          rw [if_pos ⟨Int.natCast_nonneg n, by omega⟩]
          refine semSize ok hj ?_
          exact xpart_R ok elem ⟨h1, h2⟩ _
      · exact .halt
    · rename_i s hu
      cases hx
      split
      · rename_i b hb
        unfold Instr.index
        show SemR E.P VR r _ (underlying t >>= _)
        refine semUnd ok ht ?_
        rw [hu]
        rw [nthL_eq] at hb
        have hb' : s[(n : Int).toNat]? = some b := by
          have h3 : s.data[n]? = some b := by simpa using hb
          have h4 : n < s.data.size := get_lt h3
          rw [Int.toNat_natCast]
          show s[n]? = some b
          rw [getElem?_pos s n h4]
          rw [Array.getElem?_eq_getElem h4] at h3
          exact h3
        simp only [Int.natCast_nonneg, if_true, hb']
        exact .pure (.int _ _)
      · exact .halt
    · exact .halt
  · exact .halt
def xextract (x : Value) (n : Nat) : Sem Value :=
  match x with
  | .tuple vs => match nthL vs.toList n with
    | some v => .pure v
    | none => no
  | _ => no
theorem xextract_R {P : Program} {x x' : Value} (hx : VR r x x') (n : Nat) : SemR P VR r (xextract x n) (Instr.extract x' n) := by
  unfold xextract
  split
  · rename_i vs
    cases hx with
    | @tuple _ vs' h1 h2 =>
      rw [nthL_eq]
      split
      · rename_i v hv
        obtain ⟨v', h3, h4⟩ := VRs.at ⟨h1, h2⟩ (i := n) (v := v) (by simpa using hv)
        unfold Instr.extract
        simp only [h3]
        exact .pure h4
      · exact .halt
  · exact .halt

/-- A bound that is told, or not. -/
def OVR (r : Ren) : Option Value → Option Value → Prop
  | none, none => True
  | some v, some v' => VR r v v'
  | _, _ => False
def bnd (v : Option Value) (d : Nat) : Option Nat :=
  match v with
  | none => some d
  | some v => nat? v
theorem bnd_R {lo lo' : Option Value} {d l : Nat} (h : OVR r lo lo') (hl : bnd lo d = some l) : (lo = none ∧ lo' = none ∧ l = d) ∨ ∃ k, lo.isSome = true ∧ lo' = some (.int k (l : Int)) := by
  cases lo with
  | none =>
    cases lo' with
    | none => injection hl with hl; exact .inl ⟨rfl, rfl, hl.symm⟩
    | some v' => exact h.elim
  | some v =>
    cases lo' with
    | none => exact h.elim
    | some v' =>
      obtain ⟨k, rfl, _⟩ := nat_R h hl
      exact .inr ⟨k, rfl, rfl⟩
theorem sliceBound_eq (k : IntKind) (n y : Nat) (c : BoundsCode) (h : n ≤ y) : Instr.sliceBound (.int k (n : Int)) y c = pure n := by
  unfold Instr.sliceBound asIntOf
  simp only [pure_bind]
  rw [if_pos ⟨Int.natCast_nonneg n, by omega⟩, Int.toNat_natCast]
theorem bounds_eq (b : Bool) {len c l h : Nat} {lo lo' hi hi' : Option Value} (hl : OVR r lo lo') (hh : OVR r hi hi') (el : bnd lo 0 = some l) (eh : bnd hi len = some h) (h1 : l ≤ h) (h2 : h ≤ c) :
    Instr.sliceBounds b len c lo' hi' none = pure (l, h, c) := by
  unfold Instr.sliceBounds
  rcases bnd_R hl el with ⟨rfl, rfl, rfl⟩ | ⟨k, _, rfl⟩
  · rcases bnd_R hh eh with ⟨rfl, rfl, rfl⟩ | ⟨k2, _, rfl⟩
    · simp
    · simp [sliceBound_eq _ _ _ _ h2]
  · rcases bnd_R hh eh with ⟨rfl, rfl, rfl⟩ | ⟨k2, _, rfl⟩
    · simp [sliceBound_eq _ _ _ _ h1]
    · simp [sliceBound_eq _ _ _ _ h1, sliceBound_eq _ _ _ _ h2]
theorem bounds3_eq (b : Bool) {len c l h m : Nat} {lo lo' hi hi' mx mx' : Option Value} (hl : OVR r lo lo') (hh : OVR r hi hi') (hm : OVR r mx mx') (el : bnd lo 0 = some l) (eh : bnd hi len = some h) (em : bnd mx c = some m) (shi : hi.isSome = true) (h1 : l ≤ h) (h2 : h ≤ m) (h3 : m ≤ c) :
    Instr.sliceBounds b len c lo' hi' mx' = pure (l, h, m) := by
  rcases bnd_R hm em with ⟨rfl, rfl, rfl⟩ | ⟨k3, _, rfl⟩
  · exact bounds_eq b hl hh el eh h1 h2
  · unfold Instr.sliceBounds
    rcases bnd_R hh eh with ⟨rfl, _, _⟩ | ⟨k2, _, rfl⟩
    · cases shi
    · rcases bnd_R hl el with ⟨rfl, rfl, rfl⟩ | ⟨k, _, rfl⟩
      · simp [sliceBound_eq _ _ _ _ h2, sliceBound_eq _ _ _ _ h3]
      · simp [sliceBound_eq _ _ _ _ h1, sliceBound_eq _ _ _ _ h2, sliceBound_eq _ _ _ _ h3]
/-- A place n behind a. -/
def adrAt (a : Option Addr) (m l n : Nat) : Option Addr := cond (Nat.beq m l) a (match a with | some a => some (a.add n) | none => none)
def xslice (E : Env) (t : TypeId) (x : Value) (lo hi mx : Option Value) : Sem Value :=
  match E.ty.get t with
  | none => no
  | some i => match i.under, x with
    | .string, .string s => match mx, bnd lo 0, bnd hi s.data.toList.length with
      | none, some l, some h => match Nat.ble l h, Nat.ble h s.data.toList.length with
        | true, true => .pure (.string ⟨⟨(s.data.toList.drop l).take (h - l)⟩⟩)
        | _, _ => no
      | _, _, _ => no
    | .slice elem, .slice a len c => match bnd lo 0, bnd hi len, bnd mx c, E.ty.get elem with
      | some l, some h, some m, some j => match Nat.ble l h, Nat.ble h m, Nat.ble m c with
        | true, true, true =>
          match a, mx.isSome, Nat.beq m l && !Nat.beq l 0 with
          | none, false, _ => .pure (.slice none (h - l) (m - l))
          | some a, false, false => .pure (.slice (adrAt (some a) m l (l * j.size)) (h - l) (m - l))
          | some _, false, true => .pure (.chan none)
          | some a, _, _ => match hi.isSome || !mx.isSome with
            | true => .shape a.block fun t => match t with
              | some _ => .pure (.slice (adrAt (some a) m l (l * j.size)) (h - l) (m - l))
              | none => no
            | false => no
          | _, _, _ => no
        | _, _, _ => no
      | _, _, _, _ => no
    | .array n elem, .pointer (some a) => match mx, bnd lo 0, bnd hi n, E.ty.get elem with
      | none, some l, some h, some j => match Nat.ble l h, Nat.ble h n with
        | true, true => .shape a.block fun t => match t with
          | some _ => .pure (.slice (adrAt (some a) n l (l * j.size)) (h - l) (n - l))
          | none => no
        | _, _ => no
      | _, _, _, _ => no
    | _, _ => no
theorem adrAt_R {a a' : Addr} (h : AR r a a') (m l n : Nat) : ∃ b b', adrAt (some a) m l n = some b ∧ (if m = l then some a' else some (a'.add n)) = some b' ∧ AR r b b' := by
  unfold adrAt
  rw [beq_dec]
  by_cases e : m = l
  · simp [e, h]
  · simp [e, h.add n]
theorem sub_add_right {m l x : Nat} (h : l ≤ m) : m + x - l = m - l + x := by omega
theorem AR.slice {a a' : Addr} {n c c' x : Nat} (h : AR r a a') (hx : ∀ b' y, r a.block = some (b', y) → y = x) (hc : c' = c + x) : VR r (.slice (some a) n c) (.slice (some a') n c') := by
  obtain ⟨b', y, h1, rfl⟩ := h
  obtain ⟨ab, ao, asp⟩ := a
  have := hx b' y h1
  subst this hc
  exact .slice h1
theorem xslice_R (ok : E.Ok) (t : TypeId) {x x' : Value} (hx : VR r x x') {lo lo' hi hi' mx mx' : Option Value} (hl : OVR r lo lo') (hh : OVR r hi hi') (hm : OVR r mx mx') : SemR E.P VR r (xslice E t x lo hi mx) (Instr.sliceAt t x' lo' hi' mx') := by
  unfold xslice
  split
  · exact .halt
  · rename_i i hit
    split
    · rename_i s hu
      cases hx
      split
      · rename_i l h el eh
        split
        · rename_i h1 h2
          have hmx : mx' = none := by
            cases mx' with
            | none => rfl
            | some v => exact hm.elim
          subst hmx
          unfold Instr.sliceAt
          refine semUnd ok hit ?_
          rw [hu]
          show SemR E.P VR r _ (Instr.slice t (.string s) lo' _ none)
          unfold Instr.slice
          refine semUnd ok hit ?_
          rw [hu]
          have h3 := Nat.le_of_ble_eq_true h1
          have h4 := Nat.le_of_ble_eq_true h2
          have e := bounds_eq (r := r) false (c := s.size) hl hh el (by simpa using eh) h3 (by simpa using h4)
          simp only [Option.isSome_none, Bool.false_eq_true, if_false, pure_bind, e]
          have : s.extract l h = ⟨⟨(s.data.toList.drop l).take (h - l)⟩⟩ := by
            apply ByteArray.ext
            rw [ByteArray.data_extract]
            apply Array.ext'
            simp [Array.toList_extract, List.extract_eq_take_drop]
          rw [this]
          exact .pure (.string _)
        · exact .halt
      · exact .halt
    · rename_i elem a len c hu
      split
      · rename_i l h m j el eh em hj
        split
        · rename_i h1 h2 h3
          have h1 := Nat.le_of_ble_eq_true h1
          have h2 := Nat.le_of_ble_eq_true h2
          have h3 := Nat.le_of_ble_eq_true h3
          split
          · rename_i hmx
            cases hx
            have hmx' : mx = none := by simpa using hmx
            subst hmx'
            have hmx2 : mx' = none := by
              cases mx' with
              | none => rfl
              | some v => exact hm.elim
            subst hmx2
            injection em with em
            subst em
            unfold Instr.sliceAt
            refine semUnd ok hit ?_
            rw [hu]
            show SemR E.P VR r _ (Instr.slice t _ lo' _ none)
            unfold Instr.slice
            refine semUnd ok hit ?_
            rw [hu]
            simp only [bounds_eq (r := r) true (c := c) hl hh el eh h1 h2, pure_bind]
            refine semSize ok hj ?_
            by_cases e : c = l
            · simp only [e, if_true]
              exact .pure (.snil _ _)
            · simp only [e, if_false]
              exact .pure (.snil _ _)
          · rename_i ad hmx hz
            have hmx' : mx = none := by simpa using hmx
            subst hmx'
            have hmx2 : mx' = none := by
              cases mx' with
              | none => rfl
              | some v => exact hm.elim
            subst hmx2
            injection em with em
            subst em
            cases hx with
            | @slice b o b' z _ _ sp hb =>
              unfold Instr.sliceAt
              refine semUnd ok hit ?_
              rw [hu]
              show SemR E.P VR r _ (Instr.slice t _ lo' _ none)
              unfold Instr.slice
              refine semUnd ok hit ?_
              rw [hu]
              simp only [bounds_eq (r := r) true (c := c + z) hl hh el eh h1 (by omega), pure_bind]
              refine semSize ok hj ?_
              rw [sub_add_right (by omega)]
              have hA : AR r ⟨b, o, sp⟩ ⟨b', o, sp⟩ := ⟨b', z, hb, rfl⟩
              have uniq : ∀ {q : Addr}, q.block = b → ∀ c1 y, r q.block = some (c1, y) → y = z := fun hq c1 y hy => by
                rw [hq, hb] at hy
                injection hy with hy
                injection hy with _ hy
                exact hy.symm
              have blk : ∀ n, (Addr.add ⟨b, o, sp⟩ n).block = b := fun n => by
                unfold Addr.add
                split <;> rfl
              unfold adrAt
              rw [beq_dec]
              by_cases e : c = l
              · subst e
                have h0 : c = 0 := by
                  simp only [beq_dec, decide_true, Bool.true_and, Bool.not_eq_false', decide_eq_true_eq] at hz
                  exact hz
                subst h0
                simp only [decide_true, cond_true, Nat.zero_mul, Option.map_some]
                have : (if 0 + z = 0 then some (⟨b', o, sp⟩ : Addr) else some (Addr.add ⟨b', o, sp⟩ 0)) = some ⟨b', o, sp⟩ := by
                  split <;> rfl
                rw [this]
                exact .pure (AR.slice hA (uniq rfl) rfl)
              · simp only [e, decide_false, cond_false, Option.map_some]
                rw [if_neg (by omega)]
                exact .pure (AR.slice (hA.add _) (uniq (blk _)) rfl)
          · rename_i ad hmx hz
            have hmx' : mx = none := by simpa using hmx
            subst hmx'
            have hmx2 : mx' = none := by
              cases mx' with
              | none => rfl
              | some v => exact hm.elim
            subst hmx2
            injection em with em
            subst em
            cases hx with
            | @slice b o b' z _ _ sp hb =>
              unfold Instr.sliceAt
              refine semUnd ok hit ?_
              rw [hu]
              show SemR E.P VR r _ (Instr.slice t _ lo' _ none)
              unfold Instr.slice
              refine semUnd ok hit ?_
              rw [hu]
              simp only [bounds_eq (r := r) true (c := c + z) hl hh el eh h1 (by omega), pure_bind]
              refine semSize ok hj ?_
              have e : c = l := by
                simp only [beq_dec, Bool.and_eq_true, decide_eq_true_eq] at hz
                exact hz.1
              rw [show h - l = 0 by omega]
              exact .pure (.sgone _ _)
          · rename_i ad hx1 hx2 hx3 hsome
            split
            · rename_i hhi
              cases hx with
              | @slice b o b' z _ _ sp hb =>
                refine .shapeL hb fun tt htt => ?_
                split
                · have hz0 := htt rfl
                  subst hz0
                  unfold Instr.sliceAt
                  refine semUnd ok hit ?_
                  rw [hu]
                  show SemR E.P VR r _ (Instr.slice t _ lo' _ mx')
                  unfold Instr.slice
                  refine semUnd ok hit ?_
                  rw [hu]
                  have e3 : Instr.sliceBounds true len (c + 0) lo' hi' mx' = pure (l, h, m) := by
                    cases hms : mx.isSome with
                    | true =>
                      rw [hms] at hhi
                      exact bounds3_eq true hl hh hm el eh em (by simpa using hhi) h1 h2 h3
                    | false =>
                      have hmx' : mx = none := by simpa using hms
                      subst hmx'
                      have hmx2 : mx' = none := by
                        cases mx' with
                        | none => rfl
                        | some v => exact hm.elim
                      subst hmx2
                      injection em with em
                      subst em
                      exact bounds_eq (r := r) true hl hh el eh h1 h2
                  simp only [e3, pure_bind]
                  refine semSize ok hj ?_
                  have hA : AR r ⟨b, o, sp⟩ ⟨b', o, sp⟩ := ⟨b', 0, hb, rfl⟩
                  obtain ⟨q, q', hq1, hq2, hq3⟩ := adrAt_R hA m l (l * j.size)
                  rw [hq1]
                  simp only [Option.map_some, hq2]
                  have hqb : q.block = b := by
                    unfold adrAt at hq1
                    cases hbb : Nat.beq m l with
                    | true => rw [hbb] at hq1; injection hq1 with hq1; rw [← hq1]
                    | false =>
                      rw [hbb] at hq1
                      injection hq1 with hq1
                      rw [← hq1]
                      unfold Addr.add
                      split <;> rfl
                  exact .pure (AR.slice hq3 (fun c1 y hy => by
                    rw [hqb, hb] at hy
                    injection hy with hy
                    injection hy with _ hy
                    exact hy.symm) rfl)
                · exact .halt
            · exact .halt
          · exact .halt
        · exact .halt
      · exact .halt
    · rename_i n elem ad hu
      split
      · rename_i l h j el eh hj
        split
        · rename_i h1 h2
          have h1 := Nat.le_of_ble_eq_true h1
          have h2 := Nat.le_of_ble_eq_true h2
          have hmx : mx' = none := by
            cases mx' with
            | none => rfl
            | some v => exact hm.elim
          subst hmx
          cases hx with
          | @ptr b o b' z sp hb =>
            refine .shapeL hb fun tt htt => ?_
            split
            · have hz0 := htt rfl
              subst hz0
              unfold Instr.sliceAt
              refine semUnd ok hit ?_
              rw [hu]
              show SemR E.P VR r _ (Instr.sliceBounds false n n lo' _ none >>= _)
              simp only [bounds_eq (r := r) false (c := n) hl hh el eh h1 h2, pure_bind]
              refine semSize ok hj ?_
              have hA : AR r ⟨b, o, sp⟩ ⟨b', o, sp⟩ := ⟨b', 0, hb, rfl⟩
              obtain ⟨q, q', hq1, hq2, hq3⟩ := adrAt_R hA n l (l * j.size)
              rw [hq1]
              have hq2' : some (if n = l then (⟨b', o, sp⟩ : Addr) else Addr.add ⟨b', o, sp⟩ (l * j.size)) = some q' := by
                rw [← hq2]
                split <;> rfl
              rw [hq2']
              have hqb : q.block = b := by
                unfold adrAt at hq1
                cases hbb : Nat.beq n l with
                | true => rw [hbb] at hq1; injection hq1 with hq1; rw [← hq1]
                | false =>
                  rw [hbb] at hq1
                  injection hq1 with hq1
                  rw [← hq1]
                  unfold Addr.add
                  split <;> rfl
              exact .pure (AR.slice hq3 (fun c1 y hy => by
                rw [hqb, hb] at hy
                injection hy with hy
                injection hy with _ hy
                exact hy.symm) rfl)
            · exact .halt
        · exact .halt
      · exact .halt
    · exact .halt
end
end Go.Proofs.Ytkodblhompphjaa
