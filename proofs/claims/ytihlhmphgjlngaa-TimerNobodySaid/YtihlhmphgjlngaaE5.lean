/-
  Running a program by reckoning, 5: what is built; numbers, floats, texts.
  Nothing here speaks of the program.
-/
import Derived.Test.YtihlhmphgjlngaaE4
namespace Go.Proofs.Ytihlhmphgjlngaa
open Go.RowKit

/-- A tree without memory, all of whose results are S. -/
inductive Pl {α : Type} (S : α → Prop) : Sem α → Prop
  | pure {a : α} : S a → Pl S (.pure a)
  | halt {h : Halt} : Pl S (.halt h)
  | choose {q : Question} {k : Nat → Sem α} : (∀ n, Pl S (k n)) → Pl S (.choose q k)
  | program {k : Program → Sem α} : (∀ p, Pl S (k p)) → Pl S (.program k)
  | mark {m : Mark} {k : Sem α} : Pl S k → Pl S (.mark m k)
theorem Pl.bind {α β : Type} {S : α → Prop} {T : β → Prop} {s : Sem α} {f : α → Sem β} (h : Pl S s) (hf : ∀ a, S a → Pl T (f a)) : Pl T (s.bind f) := by
  induction h with
  | pure h => exact hf _ h
  | halt => exact .halt
  | choose _ ih => exact .choose ih
  | program _ ih => exact .program ih
  | mark _ ih => exact .mark ih
theorem Pl.bind' {α β : Type} {S : α → Prop} {T : β → Prop} {s : Sem α} {f : α → Sem β} (h : Pl S s) (hf : ∀ a, S a → Pl T (f a)) : Pl T (s >>= f) := h.bind hf
theorem Pl.R {α : Type} {S : α → Prop} {s : Sem α} (h : Pl S s) {P : Program} {R : Ren → α → α → Prop} {r : Ren} (hr : ∀ a, S a → R r a a) : SemR P R r s s := by
  induction h with
  | pure h => exact .pure (hr _ h)
  | halt => exact .halt
  | choose _ ih => exact .choose (ih 0)
  | program _ ih => exact .program (ih P)
  | mark _ ih => exact .mark ih
def Sc (v : Value) : Prop := simple1 v = true
theorem Pl.VR {s : Sem Value} (h : Pl Sc s) {P : Program} {r : Ren} : SemR P VR r s s := h.R fun _ hv => .simple1 hv
def Tr {α : Type} (_ : α) : Prop := True

theorem panic_Pl {α : Type} {S : α → Prop} (m : String) : Pl S (runtimePanic (.error m) : Sem α) := .program fun _ => .halt
theorem intArith_Pl (op : BinOp) (k : IntKind) (x y : Int) : Pl Sc (Op.intArith op k x y) := by
  unfold Op.intArith
  split <;> first | exact .pure rfl | exact .halt
theorem intDiv_Pl (op : BinOp) (k : IntKind) (x y : Int) : Pl Sc (Op.intDiv op k x y) := by
  unfold Op.intDiv
  split
  · exact panic_Pl _
  · split <;> first | exact .pure rfl | exact .halt
theorem intBits_Pl (op : BinOp) (k : IntKind) (x y : Int) : Pl Sc (Op.intBits op k x y) := by
  unfold Op.intBits
  dsimp only
  split <;> first | exact .pure rfl | exact .halt
theorem shift_Pl (op : BinOp) (k j : IntKind) (x y : Int) : Pl Sc (Op.shift op k x j y) := by
  unfold Op.shift
  split
  · exact panic_Pl _
  · dsimp only
    split <;> first | exact .pure rfl | exact .halt
theorem intCmp_Pl (op : BinOp) (x y : Int) : Pl Sc (Op.intCmp op x y) := by
  unfold Op.intCmp
  split <;> first | exact .pure rfl | exact .halt
theorem stringOp_Pl (op : BinOp) (x y : ByteArray) : Pl Sc (Op.stringOp op x y) := by
  unfold Op.stringOp
  dsimp only
  split
  · split
    · exact .halt
    · exact .pure rfl
  all_goals first | exact .pure rfl | exact .halt
theorem floatCmp_Pl (op : BinOp) (k : FloatKind) (x y : Nat) : Pl Sc (Op.floatCmp op k x y) := by
  unfold Op.floatCmp
  dsimp only
  split <;> first | exact .pure rfl | exact .halt
def Fl (v : Value) : Prop := ∃ k b, v = .float k b
theorem Fl.sc {v : Value} (h : Fl v) : Sc v := by obtain ⟨k, b, rfl⟩ := h; rfl
theorem Pl.mono {α : Type} {S T : α → Prop} {s : Sem α} (h : Pl S s) (hst : ∀ a, S a → T a) : Pl T s := by
  induction h with
  | pure h => exact .pure (hst _ h)
  | halt => exact .halt
  | choose _ ih => exact .choose ih
  | program _ ih => exact .program ih
  | mark _ ih => exact .mark ih
theorem floatArith_Pl (op : BinOp) (k : FloatKind) (x y : Nat) : Pl Fl (Op.floatArith op k x y) := by
  unfold Op.floatArith
  dsimp only
  split
  all_goals first
    | exact .halt
    | (refine Pl.bind' (S := Tr) (.pure trivial) fun o _ => ?_
       split
       · exact .pure ⟨_, _, rfl⟩
       · exact .choose fun n => .pure ⟨_, _, rfl⟩)
theorem floatToFloat_Pl (s : FloatKind) (b : Nat) (d : FloatKind) : Pl Fl (Conv.floatToFloat s b d) := by
  unfold Conv.floatToFloat
  split
  · exact .pure ⟨_, _, rfl⟩
  · split
    · exact .choose fun n => .pure ⟨_, _, rfl⟩
    · exact .pure ⟨_, _, rfl⟩
    · dsimp only
      split
      · exact .choose fun n => .pure ⟨_, _, rfl⟩
      · exact .pure ⟨_, _, rfl⟩
theorem arith_Pl (op : BinOp) (k : FloatKind) (x y : Nat) : Pl Tr (Op.Complex.arith op k x y) := by
  unfold Op.Complex.arith
  refine Pl.bind' (floatArith_Pl op k x y) fun v hv => ?_
  obtain ⟨k, b, rfl⟩ := hv
  exact .pure trivial
theorem cmp_Pl (op : BinOp) (k : FloatKind) (x y : Nat) : Pl Tr (Op.Complex.cmp op k x y) := by
  unfold Op.Complex.cmp
  refine Pl.bind' (floatCmp_Pl op k x y) fun v _ => ?_
  unfold asBool
  split
  · exact .pure trivial
  · exact .halt
theorem conv_Pl (s : FloatKind) (x : Nat) (d : FloatKind) : Pl Tr (Op.Complex.conv s x d) := by
  unfold Op.Complex.conv
  split
  · exact .pure trivial
  · refine Pl.bind' (floatToFloat_Pl s x d) fun v hv => ?_
    obtain ⟨k, b, rfl⟩ := hv
    exact .pure trivial
theorem product_Pl (a b c d : Nat) : Pl Tr (Op.Complex.product a b c d) := by
  unfold Op.Complex.product Op.Complex.sub Op.Complex.mul Op.Complex.add
  refine Pl.bind' (arith_Pl _ _ _ _) fun _ _ => Pl.bind' (arith_Pl _ _ _ _) fun _ _ => Pl.bind' (arith_Pl _ _ _ _) fun _ _ => Pl.bind' (arith_Pl _ _ _ _) fun _ _ => Pl.bind' (arith_Pl _ _ _ _) fun _ _ => Pl.bind' (arith_Pl _ _ _ _) fun _ _ => .pure trivial
theorem corrected_Pl (s a b c d : Nat) : Pl Tr (Op.Complex.corrected s a b c d) := by
  unfold Op.Complex.corrected Op.Complex.sub Op.Complex.mul Op.Complex.add
  repeat (refine Pl.bind' (arith_Pl _ _ _ _) fun _ _ => ?_)
  exact .pure trivial
theorem quotient_Pl (a b c d : Nat) : Pl Tr (Op.Complex.quotient a b c d) := by
  unfold Op.Complex.quotient Op.Complex.sub Op.Complex.mul Op.Complex.add Op.Complex.quo
  dsimp only
  refine Pl.bind' (cmp_Pl _ _ _ _) fun _ _ => ?_
  split
  all_goals
    repeat (refine Pl.bind' (arith_Pl _ _ _ _) fun _ _ => ?_)
    refine Pl.bind' (S := Tr) (.pure trivial) fun _ _ => ?_
    refine Pl.bind' (cmp_Pl _ _ _ _) fun _ _ => Pl.bind' (cmp_Pl _ _ _ _) fun _ _ => ?_
    split
    · exact .pure trivial
    · split
      · repeat (refine Pl.bind' (arith_Pl _ _ _ _) fun _ _ => ?_)
        exact .pure trivial
      · split
        · exact corrected_Pl _ _ _ _ _
        · split
          · exact corrected_Pl _ _ _ _ _
          · exact .pure trivial
theorem complexOp_Pl (op : BinOp) (k : FloatKind) (a b c d : Nat) : Pl Sc (Op.complexOp op k a b c d) := by
  unfold Op.complexOp
  split
  · exact Pl.bind' (arith_Pl _ _ _ _) fun _ _ => Pl.bind' (arith_Pl _ _ _ _) fun _ _ => .pure rfl
  · exact Pl.bind' (arith_Pl _ _ _ _) fun _ _ => Pl.bind' (arith_Pl _ _ _ _) fun _ _ => .pure rfl
  · refine Pl.bind' (conv_Pl _ _ _) fun _ _ => Pl.bind' (conv_Pl _ _ _) fun _ _ => Pl.bind' (conv_Pl _ _ _) fun _ _ => Pl.bind' (conv_Pl _ _ _) fun _ _ => ?_
    refine Pl.bind' (S := Tr) ?_ fun _ _ => Pl.bind' (conv_Pl _ _ _) fun _ _ => Pl.bind' (conv_Pl _ _ _) fun _ _ => .pure rfl
    first | exact product_Pl _ _ _ _ | exact quotient_Pl _ _ _ _
  · refine Pl.bind' (conv_Pl _ _ _) fun _ _ => Pl.bind' (conv_Pl _ _ _) fun _ _ => Pl.bind' (conv_Pl _ _ _) fun _ _ => Pl.bind' (conv_Pl _ _ _) fun _ _ => ?_
    refine Pl.bind' (S := Tr) ?_ fun _ _ => Pl.bind' (conv_Pl _ _ _) fun _ _ => Pl.bind' (conv_Pl _ _ _) fun _ _ => .pure rfl
    first | exact product_Pl _ _ _ _ | exact quotient_Pl _ _ _ _
  · exact Pl.bind' (cmp_Pl _ _ _ _) fun _ _ => Pl.bind' (cmp_Pl _ _ _ _) fun _ _ => .pure rfl
  · exact Pl.bind' (cmp_Pl _ _ _ _) fun _ _ => Pl.bind' (cmp_Pl _ _ _ _) fun _ _ => .pure rfl
  · exact .halt
/-- A number, a float, a complex number, a text. -/
def scal : Value → Bool
  | .int _ _ | .float _ _ | .complex _ _ _ | .string _ => true
  | _ => false
theorem scal_eq {r : Ren} {v v' : Value} (h : VR r v v') (hs : scal v = true) : v' = v := by
  cases h <;> first | rfl | cases hs
def scalPair (a b : Value) : Bool :=
  match a, b with
  | .int .., .int .. | .float .., .float .. | .complex .., .complex .. | .string _, .string _ => true
  | _, _ => false
theorem binOp_Pl (op : BinOp) (t : TypeId) {x y : Value} (hx : scal x = true) (hy : scal y = true) (hxy : scalPair x y = true) : Pl Sc (binOp op t x y) := by
  cases x <;> cases y <;> first | cases hx; done | cases hy; done | cases hxy; done | skip
  · cases op <;> simp only [binOp] <;> first
      | exact shift_Pl _ _ _ _ _
      | (split
         · exact .halt
         · first | exact intArith_Pl _ _ _ _ | exact intDiv_Pl _ _ _ _ | exact intBits_Pl _ _ _ _ | exact intCmp_Pl _ _ _)
  · cases op <;> simp only [binOp] <;>
      (split
       · exact .halt
       · first | exact (floatArith_Pl _ _ _ _).mono fun _ h => h.sc | exact floatCmp_Pl _ _ _ _)
  · cases op <;> simp only [binOp] <;>
      (split
       · exact .halt
       · exact complexOp_Pl _ _ _ _ _ _)
  · cases op <;> simp only [binOp] <;> exact stringOp_Pl _ _ _
theorem unary_Pl (op : UnOp) {x : Value} (hx : simple1 x = true) : Pl Sc (Op.unary op x) := by
  unfold Op.unary
  split <;> first | exact intArith_Pl _ _ _ _ | exact intBits_Pl _ _ _ _ | exact .pure rfl | exact .halt
theorem floatToInt_Pl (s : FloatKind) (b : Nat) (d : IntKind) : Pl Sc (Conv.floatToInt s b d) := by
  unfold Conv.floatToInt
  dsimp only
  split
  · split
    · exact .pure rfl
    · exact .choose fun n => .pure rfl
  · exact .choose fun n => .pure rfl
theorem complexToComplex_Pl (s : FloatKind) (a b : Nat) (d : FloatKind) : Pl Sc (Conv.complexToComplex s a b d) := by
  unfold Conv.complexToComplex
  refine Pl.bind' (floatToFloat_Pl _ _ _) fun v hv => ?_
  obtain ⟨k, x, rfl⟩ := hv
  refine Pl.bind' (floatToFloat_Pl _ _ _) fun v hv => ?_
  obtain ⟨k, x, rfl⟩ := hv
  exact .pure rfl

section
variable {E : Env} {r : Ren}
def xconvert (E : Env) (src dst : TypeId) (x : Value) : Sem Value :=
  match E.ty.get src, E.ty.get dst with
  | some _, some d => match d.under, x with
    | .int k, .int _ n => Conv.intToInt k n
    | .float k, .int _ n => Conv.intToFloat k n
    | .int k, .float s b => Conv.floatToInt s b k
    | .float k, .float s b => Conv.floatToFloat s b k
    | .complex k, .complex s a b => Conv.complexToComplex s a b k
    | .string, .int _ n => Conv.intToString n
    | .string, .string s => .pure (.string s)
    | _, _ => no
  | _, _ => no
theorem xconvert_R (ok : E.Ok) (src dst : TypeId) {x x' : Value} (hx : VR r x x') : SemR E.P VR r (xconvert E src dst x) (convert src dst x') := by
  unfold xconvert
  split
  · rename_i s d hs hd
    unfold convert
    split <;> first | exact .halt | skip
    all_goals
      rename_i hu
      cases hx
      refine semUnd ok hs ?_
      refine semUnd ok hd ?_
      rw [hu]
    · exact SemR.pure (.int _ _)
    · exact SemR.pure (.float _ _)
    · exact (floatToInt_Pl _ _ _).VR
    · exact ((floatToFloat_Pl _ _ _).mono fun _ h => h.sc).VR
    · exact (complexToComplex_Pl _ _ _ _).VR
    · exact SemR.pure (.string _)
    · exact SemR.pure (.string _)
  · exact .halt

/-- The values of a part, laid over a row from a place on. -/
def putC : List Value → Nat → List Value → List Value
  | cs, _, [] => cs
  | cs, o, v :: l => putC (setL cs o v) (o + 1) l
theorem putC_length : ∀ (l cs : List Value) (o : Nat), (putC cs o l).length = cs.length
  | [], cs, o => rfl
  | v :: l, cs, o => by
    simp only [putC]
    rw [putC_length l, setL_eq, List.length_set]
theorem foldl_putC (off : Nat) : ∀ (l : List Value) (k : Nat) (cs : Array Value), (l.zipIdx k).foldl (fun cs (x : Value × Nat) => cs.setIfInBounds (off + x.2) x.1) cs = ⟨putC cs.toList (off + k) l⟩
  | [], k, cs => rfl
  | v :: l, k, cs => by
    rw [List.zipIdx_cons, List.foldl_cons, foldl_putC off l (k + 1)]
    simp only [putC, setL_eq, Array.toList_setIfInBounds, Nat.add_assoc]
theorem VRs.putC {l l' : List Value} : ∀ {cs cs' : List Value} (o : Nat), VRs r ⟨cs⟩ ⟨cs'⟩ → VRs r ⟨l⟩ ⟨l'⟩ → VRs r ⟨Go.Proofs.Ytihlhmphgjlngaa.putC cs o l⟩ ⟨Go.Proofs.Ytihlhmphgjlngaa.putC cs' o l'⟩ := by
  induction l generalizing l' with
  | nil =>
    intro cs cs' o h k
    cases l' with
    | nil => exact h
    | cons v' l' => have := k.1; simp at this
  | cons v l ih =>
    intro cs cs' o h k
    cases l' with
    | nil => have := k.1; simp at this
    | cons v' l' =>
      obtain ⟨k1, k2⟩ := k.of_list
      refine ih (o + 1) ?_ ⟨by simpa using k1, fun i u u' h1 h2 => k2 (i + 1) u u' (by simpa using h1) (by simpa using h2)⟩
      rw [setL_eq, setL_eq]
      have := h.set (k2 0 v v' rfl rfl) o
      simpa using this
def PR (r : Ren) : List (Nat × Value) → List (Nat × Value) → Prop
  | [], [] => True
  | (i, v) :: l, (j, u) :: l' => i = j ∧ VR r v u ∧ PR r l l'
  | _, _ => False
def xfill (place : Nat → Option (Nat × Nat)) : List Value → List (Nat × Value) → Option (List Value)
  | cs, [] => some cs
  | cs, (i, v) :: rest =>
    match place i with
    | none => none
    | some (off, size) =>
      match Nat.beq v.cells.toList.length size, Nat.ble (off + size) cs.length with
      | true, true => xfill place (Go.Proofs.Ytihlhmphgjlngaa.putC cs off v.cells.toList) rest
      | _, _ => none
theorem xfill_R (place : Nat → Option (Nat × Nat)) : ∀ (ps ps' : List (Nat × Value)) (cs cs' : List Value) (c : List Value), PR r ps ps' → VRs r ⟨cs⟩ ⟨cs'⟩ → xfill place cs ps = some c → ∃ c', Instr.fill place ⟨cs'⟩ ps' = some c' ∧ VRs r ⟨c⟩ c'
  | [], [], cs, cs', c, _, h, e => by
    injection e with e
    subst e
    exact ⟨_, rfl, h⟩
  | [], _ :: _, _, _, _, hp, _, _ => hp.elim
  | (i, v) :: ps, [], _, _, _, hp, _, _ => hp.elim
  | (i, v) :: ps, (j, u) :: ps', cs, cs', c, hp, h, e => by
    obtain ⟨rfl, hv, hp⟩ := hp
    simp only [xfill] at e
    split at e
    · cases e
    · rename_i off size hpl
      split at e
      · rename_i h1 h2
        have hc := hv.cells
        have h1 := Nat.eq_of_beq_eq_true h1
        have h2 := Nat.le_of_ble_eq_true h2
        have hcs : cs'.length = cs.length := by simpa using h.1
        have hus : u.cells.size = size := by rw [hc.1, ← h1]; simp
        have hput := VRs.putC (l := v.cells.toList) (l' := u.cells.toList) off h (by simpa using hc)
        obtain ⟨c', h3, h4⟩ := xfill_R place ps ps' _ _ c hp hput e
        refine ⟨c', ?_, h4⟩
        simp only [Instr.fill, hpl]
        rw [if_neg (by simp; omega)]
        rw [← h3]
        congr 1
        have := foldl_putC off u.cells.toList 0 ⟨cs'⟩
        rw [← Array.foldl_toList, Array.toList_zipIdx]
        exact this
      · cases e

theorem places_R (ok : E.Ok) {α β : Type} {R : Ren → α → β → Prop} {s : Sem α} : ∀ (fs : List Field) (f : List (Nat × Nat) → Sem β), (fs.all fun x => (E.ty.get x.type).isSome) = true →
    SemR E.P R r s (f (fs.map fun x => (x.offset, ((E.ty.get x.type).map TI.size).getD 0))) → SemR E.P R r s ((fs.mapM fun x => do pure (x.offset, ← sizeOf x.type)) >>= f)
  | [], f, _, k => k
  | x :: fs, f, ha, k => by
    simp only [List.all_cons, Bool.and_eq_true] at ha
    obtain ⟨h1, h2⟩ := ha
    obtain ⟨i, hi⟩ := Option.isSome_iff_exists.1 h1
    rw [List.mapM_cons]
    simp only [bind_assoc, pure_bind]
    refine semSize ok hi ?_
    refine places_R ok fs (fun l => f ((x.offset, i.size) :: l)) h2 ?_
    simpa [hi] using k
def xbuild (E : Env) (t : TypeId) (ps : List (Nat × Value)) : Sem Value :=
  match E.ty.get t with
  | some i => match i.zero, i.under with
    | some z, .struct fields => match fields.toList.all fun x => (E.ty.get x.type).isSome with
      | true => match xfill (fun j => match nthL fields.toList j with | some x => some (x.offset, match E.ty.get x.type with | some i => i.size | none => 0) | none => none) z.cells.toList ps with
        | some c => .pure (.agg ⟨c⟩)
        | none => no
      | false => no
    | some z, .array _ elem => match E.ty.get elem with
      | some j => match xfill (fun n => some (n * j.size, j.size)) z.cells.toList ps with
        | some c => .pure (.agg ⟨c⟩)
        | none => no
      | none => no
    | _, _ => no
  | none => no
theorem xbuild_R (ok : E.Ok) (t : TypeId) {ps : List (Nat × Value)} {ps' : Array (Nat × Value)} (hp : PR r ps ps'.toList) : SemR E.P VR r (xbuild E t ps) (Instr.build t ps') := by
  unfold xbuild
  split
  · rename_i i hi
    split
    · rename_i z fields hz hu
      split
      · rename_i hall
        split
        · rename_i c hc
          unfold Instr.build
          refine semZero ok hi hz fun hs => ?_
          dsimp only
          refine semUnd ok hi ?_
          rw [hu]
          dsimp only
          rw [Array.mapM_eq_mapM_toList, bind_map_left]
          refine places_R ok fields.toList _ hall ?_
          have hzc : VRs r ⟨z.cells.toList⟩ ⟨z.cells.toList⟩ := by simpa using VRs.simpleCells hs
          obtain ⟨c', h1, h2⟩ := xfill_R _ ps ps'.toList _ _ c hp hzc hc
          have : (fun j : Nat => ((fields.toList.map fun x => (x.offset, ((E.ty.get x.type).map TI.size).getD 0)).toArray)[j]?) = (fun j => match nthL fields.toList j with | some x => some (x.offset, match E.ty.get x.type with | some i => i.size | none => 0) | none => none) := by
            funext j
            rw [nthL_eq]
            simp only [List.getElem?_toArray, List.getElem?_map]
            cases hx : fields.toList[j]? with
            | none => rfl
            | some x =>
              simp only [Option.map_some]
              cases E.ty.get x.type <;> rfl
          rw [this]
          simp only [Array.toArray_toList] at h1
          rw [h1]
          exact .pure (.agg h2.1 h2.2)
        · exact .halt
      · exact .halt
    · rename_i z n elem hz hu
      split
      · rename_i j hj
        split
        · rename_i c hc
          unfold Instr.build
          refine semZero ok hi hz fun hs => ?_
          dsimp only
          refine semUnd ok hi ?_
          rw [hu]
          dsimp only
          refine semSize ok hj ?_
          have hzc : VRs r ⟨z.cells.toList⟩ ⟨z.cells.toList⟩ := by simpa using VRs.simpleCells hs
          obtain ⟨c', h1, h2⟩ := xfill_R _ ps ps'.toList _ _ c hp hzc hc
          simp only [Array.toArray_toList] at h1
          rw [h1]
          exact .pure (.agg h2.1 h2.2)
        · exact .halt
      · exact .halt
    · exact .halt
  · exact .halt
end
end Go.Proofs.Ytihlhmphgjlngaa
