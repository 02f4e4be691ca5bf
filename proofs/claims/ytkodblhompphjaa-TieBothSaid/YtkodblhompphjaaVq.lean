/- Running a program by reckoning, 5: what is built; numbers, floats, texts.
  Nothing here speaks of the program. Running a program by reckoning, 6: rows made, equality, lengths, ranges over texts.
  Nothing here speaks of the program. Running a program by reckoning, 7: equality, lengths, copies, ranges over texts, interfaces; an operation; a region in its order.
  Nothing here speaks of the program. -/
import Derived.Test.YtkodblhompphjaaVp
namespace Go.Proofs.Ytkodblhompphjaa
open Go.RowKit

/-- A tree without memory, all of whose results are S. -/
inductive Pl {α : Type} (S : α → Prop) : Sem α → Prop
  | pure {a : α} : S a → Pl S (.pure a)
  | halt {h : Halt} : Pl S (.halt h)
  | choose {q : Question} {k : Nat → Sem α} : (∀ n, Pl S (k n)) → Pl S (.choose q k)
  | program {k : Program → Sem α} : (∀ p, Pl S (k p)) → Pl S (.program k)
  | mark {m : Mark} {k : Sem α} : Pl S k → Pl S (.mark m k)
theorem Pl.bind {α β : Type} {S : α → Prop} {T : β → Prop} {s : Sem α} {f : α → Sem β} (h : Pl S s) (hf : ∀ a, S a → Pl T (f a)) : Pl T (s.bind f) := by
  induction h with
  | pure h => exact hf _ h
  | halt => exact .halt
  | choose _ ih => exact .choose ih
  | program _ ih => exact .program ih
  | mark _ ih => exact .mark ih
theorem Pl.bind' {α β : Type} {S : α → Prop} {T : β → Prop} {s : Sem α} {f : α → Sem β} (h : Pl S s) (hf : ∀ a, S a → Pl T (f a)) : Pl T (s >>= f) := h.bind hf
theorem Pl.R {α : Type} {S : α → Prop} {s : Sem α} (h : Pl S s) {P : Program} {R : Ren → α → α → Prop} {r : Ren} (hr : ∀ a, S a → R r a a) : SemR P R r s s := by
  induction h with
  | pure h => exact .pure (hr _ h)
  | halt => exact .halt
  | choose _ ih => exact .choose (ih 0)
  | program _ ih => exact .program (ih P)
  | mark _ ih => exact .mark ih
def Sc (v : Value) : Prop := simple1 v = true
theorem Pl.VR {s : Sem Value} (h : Pl Sc s) {P : Program} {r : Ren} : SemR P VR r s s := h.R fun _ hv => .simple1 hv
def Tr {α : Type} (_ : α) : Prop := True

theorem panic_Pl {α : Type} {S : α → Prop} (m : String) : Pl S (runtimePanic (.error m) : Sem α) := .program fun _ => .halt
theorem intArith_Pl (op : BinOp) (k : IntKind) (x y : Int) : Pl Sc (Op.intArith op k x y) := by
  unfold Op.intArith
  split <;> first | exact .pure rfl | exact .halt
theorem intDiv_Pl (op : BinOp) (k : IntKind) (x y : Int) : Pl Sc (Op.intDiv op k x y) := by
  unfold Op.intDiv
  split
  · exact panic_Pl _
  · split <;> first | exact .pure rfl | exact .halt
theorem intBits_Pl (op : BinOp) (k : IntKind) (x y : Int) : Pl Sc (Op.intBits op k x y) := by
  unfold Op.intBits
  dsimp only
  split <;> first | exact .pure rfl | exact .halt
theorem shift_Pl (op : BinOp) (k j : IntKind) (x y : Int) : Pl Sc (Op.shift op k x j y) := by
  unfold Op.shift
  split
  · exact panic_Pl _
  · dsimp only
    split <;> first | exact .pure rfl | exact .halt
theorem intCmp_Pl (op : BinOp) (x y : Int) : Pl Sc (Op.intCmp op x y) := by
  unfold Op.intCmp
  split <;> first | exact .pure rfl | exact .halt
theorem stringOp_Pl (op : BinOp) (x y : ByteArray) : Pl Sc (Op.stringOp op x y) := by
  unfold Op.stringOp
  dsimp only
  split
  · split
    · exact .halt
    · exact .pure rfl
  all_goals first | exact .pure rfl | exact .halt
theorem floatCmp_Pl (op : BinOp) (k : FloatKind) (x y : Nat) : Pl Sc (Op.floatCmp op k x y) := by
  unfold Op.floatCmp
  dsimp only
  split <;> first | exact .pure rfl | exact .halt
def Fl (v : Value) : Prop := ∃ k b, v = .float k b
theorem Fl.sc {v : Value} (h : Fl v) : Sc v := by obtain ⟨k, b, rfl⟩ := h; rfl
theorem Pl.mono {α : Type} {S T : α → Prop} {s : Sem α} (h : Pl S s) (hst : ∀ a, S a → T a) : Pl T s := by
  induction h with
  | pure h => exact .pure (hst _ h)
  | halt => exact .halt
  | choose _ ih => exact .choose ih
  | program _ ih => exact .program ih
  | mark _ ih => exact .mark ih
theorem floatArith_Pl (op : BinOp) (k : FloatKind) (x y : Nat) : Pl Fl (Op.floatArith op k x y) := by
  unfold Op.floatArith
  dsimp only
  split
  all_goals first
    | exact .halt
    | (refine Pl.bind' (S := Tr) (.pure trivial) fun o _ => ?_
       split
       · exact .pure ⟨_, _, rfl⟩
       · exact .choose fun n => .pure ⟨_, _, rfl⟩)
theorem floatToFloat_Pl (s : FloatKind) (b : Nat) (d : FloatKind) : Pl Fl (Conv.floatToFloat s b d) := by
  unfold Conv.floatToFloat
  split
  · exact .pure ⟨_, _, rfl⟩
  · split
    · exact .choose fun n => .pure ⟨_, _, rfl⟩
    · exact .pure ⟨_, _, rfl⟩
    · dsimp only
      split
      · exact .choose fun n => .pure ⟨_, _, rfl⟩
      · exact .pure ⟨_, _, rfl⟩
theorem arith_Pl (op : BinOp) (k : FloatKind) (x y : Nat) : Pl Tr (Op.Complex.arith op k x y) := by
  unfold Op.Complex.arith
  refine Pl.bind' (floatArith_Pl op k x y) fun v hv => ?_
  obtain ⟨k, b, rfl⟩ := hv
  exact .pure trivial
theorem cmp_Pl (op : BinOp) (k : FloatKind) (x y : Nat) : Pl Tr (Op.Complex.cmp op k x y) := by
  unfold Op.Complex.cmp
  refine Pl.bind' (floatCmp_Pl op k x y) fun v _ => ?_
  unfold asBool
  split
  · exact .pure trivial
  · exact .halt
theorem conv_Pl (s : FloatKind) (x : Nat) (d : FloatKind) : Pl Tr (Op.Complex.conv s x d) := by
  unfold Op.Complex.conv
  split
  · exact .pure trivial
  · refine Pl.bind' (floatToFloat_Pl s x d) fun v hv => ?_
    obtain ⟨k, b, rfl⟩ := hv
    exact .pure trivial
theorem product_Pl (a b c d : Nat) : Pl Tr (Op.Complex.product a b c d) := by
  unfold Op.Complex.product Op.Complex.sub Op.Complex.mul Op.Complex.add
  refine Pl.bind' (arith_Pl _ _ _ _) fun _ _ => Pl.bind' (arith_Pl _ _ _ _) fun _ _ => Pl.bind' (arith_Pl _ _ _ _) fun _ _ => Pl.bind' (arith_Pl _ _ _ _) fun _ _ => Pl.bind' (arith_Pl _ _ _ _) fun _ _ => Pl.bind' (arith_Pl _ _ _ _) fun _ _ => .pure trivial
theorem corrected_Pl (s a b c d : Nat) : Pl Tr (Op.Complex.corrected s a b c d) := by
  unfold Op.Complex.corrected Op.Complex.sub Op.Complex.mul Op.Complex.add
  repeat (refine Pl.bind' (arith_Pl _ _ _ _) fun _ _ => ?_)
  exact .pure trivial
theorem quotient_Pl (a b c d : Nat) : Pl Tr (Op.Complex.quotient a b c d) := by
  unfold Op.Complex.quotient Op.Complex.sub Op.Complex.mul Op.Complex.add Op.Complex.quo
  dsimp only
  refine Pl.bind' (cmp_Pl _ _ _ _) fun _ _ => ?_
  split
  all_goals
    repeat (refine Pl.bind' (arith_Pl _ _ _ _) fun _ _ => ?_)
    refine Pl.bind' (S := Tr) (.pure trivial) fun _ _ => ?_
    refine Pl.bind' (cmp_Pl _ _ _ _) fun _ _ => Pl.bind' (cmp_Pl _ _ _ _) fun _ _ => ?_
    split
    · exact .pure trivial
    · split
      · repeat (refine Pl.bind' (arith_Pl _ _ _ _) fun _ _ => ?_)
        exact .pure trivial
      · split
        · exact corrected_Pl _ _ _ _ _
        · split
          · exact corrected_Pl _ _ _ _ _
          · exact .pure trivial
theorem complexOp_Pl (op : BinOp) (k : FloatKind) (a b c d : Nat) : Pl Sc (Op.complexOp op k a b c d) := by
  unfold Op.complexOp
  split
  · exact Pl.bind' (arith_Pl _ _ _ _) fun _ _ => Pl.bind' (arith_Pl _ _ _ _) fun _ _ => .pure rfl
  · exact Pl.bind' (arith_Pl _ _ _ _) fun _ _ => Pl.bind' (arith_Pl _ _ _ _) fun _ _ => .pure rfl
  · refine Pl.bind' (conv_Pl _ _ _) fun _ _ => Pl.bind' (conv_Pl _ _ _) fun _ _ => Pl.bind' (conv_Pl _ _ _) fun _ _ => Pl.bind' (conv_Pl _ _ _) fun _ _ => ?_
    refine Pl.bind' (S := Tr) ?_ fun _ _ => Pl.bind' (conv_Pl _ _ _) fun _ _ => Pl.bind' (conv_Pl _ _ _) fun _ _ => .pure rfl
    first | exact product_Pl _ _ _ _ | exact quotient_Pl _ _ _ _
  · refine Pl.bind' (conv_Pl _ _ _) fun _ _ => Pl.bind' (conv_Pl _ _ _) fun _ _ => Pl.bind' (conv_Pl _ _ _) fun _ _ => Pl.bind' (conv_Pl _ _ _) fun _ _ => ?_
    refine Pl.bind' (S := Tr) ?_ fun _ _ => Pl.bind' (conv_Pl _ _ _) fun _ _ => Pl.bind' (conv_Pl _ _ _) fun _ _ => .pure rfl
    first | exact product_Pl _ _ _ _ | exact quotient_Pl _ _ _ _
  · exact Pl.bind' (cmp_Pl _ _ _ _) fun _ _ => Pl.bind' (cmp_Pl _ _ _ _) fun _ _ => .pure rfl
  · exact Pl.bind' (cmp_Pl _ _ _ _) fun _ _ => Pl.bind' (cmp_Pl _ _ _ _) fun _ _ => .pure rfl
  · exact .halt
/-- A number, a float, a complex number, a text. -/
def scal : Value → Bool
  | .int _ _ | .float _ _ | .complex _ _ _ | .string _ => true
  | _ => false
theorem scal_eq {r : Ren} {v v' : Value} (h : VR r v v') (hs : scal v = true) : v' = v := by
  cases h <;> first | rfl | cases hs
def scalPair (a b : Value) : Bool :=
  match a, b with
  | .int .., .int .. | .float .., .float .. | .complex .., .complex .. | .string _, .string _ => true
  | _, _ => false
theorem binOp_Pl (op : BinOp) (t : TypeId) {x y : Value} (hx : scal x = true) (hy : scal y = true) (hxy : scalPair x y = true) : Pl Sc (binOp op t x y) := by
  cases x <;> cases y <;> first | cases hx; done | cases hy; done | cases hxy; done | skip
  · cases op <;> simp only [binOp] <;> first
      | exact shift_Pl _ _ _ _ _
      | (split
         · exact .halt
         · first | exact intArith_Pl _ _ _ _ | exact intDiv_Pl _ _ _ _ | exact intBits_Pl _ _ _ _ | exact intCmp_Pl _ _ _)
  · cases op <;> simp only [binOp] <;>
      (split
       · exact .halt
       · first | exact (floatArith_Pl _ _ _ _).mono fun _ h => h.sc | exact floatCmp_Pl _ _ _ _)
  · cases op <;> simp only [binOp] <;>
      (split
       · exact .halt
       · exact complexOp_Pl _ _ _ _ _ _)
  · cases op <;> simp only [binOp] <;> exact stringOp_Pl _ _ _
theorem unary_Pl (op : UnOp) {x : Value} (hx : simple1 x = true) : Pl Sc (Op.unary op x) := by
  unfold Op.unary
  split <;> first | exact intArith_Pl _ _ _ _ | exact intBits_Pl _ _ _ _ | exact .pure rfl | exact .halt
theorem floatToInt_Pl (s : FloatKind) (b : Nat) (d : IntKind) : Pl Sc (Conv.floatToInt s b d) := by
  unfold Conv.floatToInt
  dsimp only
  split
  · split
    · exact .pure rfl
    · exact .choose fun n => .pure rfl
  · exact .choose fun n => .pure rfl
theorem complexToComplex_Pl (s : FloatKind) (a b : Nat) (d : FloatKind) : Pl Sc (Conv.complexToComplex s a b d) := by
  unfold Conv.complexToComplex
  refine Pl.bind' (floatToFloat_Pl _ _ _) fun v hv => ?_
  obtain ⟨k, x, rfl⟩ := hv
  refine Pl.bind' (floatToFloat_Pl _ _ _) fun v hv => ?_
  obtain ⟨k, x, rfl⟩ := hv
  exact .pure rfl

section
variable {E : Env} {r : Ren}
def xconvert (E : Env) (src dst : TypeId) (x : Value) : Sem Value :=
  match E.ty.get src, E.ty.get dst with
  | some _, some d => match d.under, x with
    | .int k, .int _ n => Conv.intToInt k n
    | .float k, .int _ n => Conv.intToFloat k n
    | .int k, .float s b => Conv.floatToInt s b k
    | .float k, .float s b => Conv.floatToFloat s b k
    | .complex k, .complex s a b => Conv.complexToComplex s a b k
    | .string, .int _ n => Conv.intToString n
    | .string, .string s => .pure (.string s)
    | _, _ => no
  | _, _ => no
theorem xconvert_R (ok : E.Ok) (src dst : TypeId) {x x' : Value} (hx : VR r x x') : SemR E.P VR r (xconvert E src dst x) (convert src dst x') := by
  unfold xconvert
  split
  · rename_i s d hs hd
    unfold convert
    split <;> first | exact .halt | skip
    all_goals
      rename_i hu
      cases hx
      refine semUnd ok hs ?_
      refine semUnd ok hd ?_
      rw [hu]
    · exact SemR.pure (.int _ _)
    · exact SemR.pure (.float _ _)
    · exact (floatToInt_Pl _ _ _).VR
    · exact ((floatToFloat_Pl _ _ _).mono fun _ h => h.sc).VR
    · exact (complexToComplex_Pl _ _ _ _).VR
    · exact SemR.pure (.string _)
    · exact SemR.pure (.string _)
  · exact .halt

/-- The values of a part, laid over a row from a place on. -/
def putC : List Value → Nat → List Value → List Value
  | cs, _, [] => cs
  | cs, o, v :: l => putC (setL cs o v) (o + 1) l
theorem putC_length : ∀ (l cs : List Value) (o : Nat), (putC cs o l).length = cs.length
  | [], cs, o => rfl
  | v :: l, cs, o => by
    simp only [putC]
    rw [putC_length l, setL_eq, List.length_set]
theorem foldl_putC (off : Nat) : ∀ (l : List Value) (k : Nat) (cs : Array Value), (l.zipIdx k).foldl (fun cs (x : Value × Nat) => cs.setIfInBounds (off + x.2) x.1) cs = ⟨putC cs.toList (off + k) l⟩
  | [], k, cs => rfl
  | v :: l, k, cs => by
    rw [List.zipIdx_cons, List.foldl_cons, foldl_putC off l (k + 1)]
    simp only [putC, setL_eq, Array.toList_setIfInBounds, Nat.add_assoc]
theorem VRs.putC {l l' : List Value} : ∀ {cs cs' : List Value} (o : Nat), VRs r ⟨cs⟩ ⟨cs'⟩ → VRs r ⟨l⟩ ⟨l'⟩ → VRs r ⟨Go.Proofs.Ytkodblhompphjaa.putC cs o l⟩ ⟨Go.Proofs.Ytkodblhompphjaa.putC cs' o l'⟩ := by
  induction l generalizing l' with
  | nil =>
    intro cs cs' o h k
    cases l' with
    | nil => exact h
    | cons v' l' => have := k.1; simp at this
  | cons v l ih =>
    intro cs cs' o h k
    cases l' with
    | nil => have := k.1; simp at this
    | cons v' l' =>
      obtain ⟨k1, k2⟩ := k.of_list
      refine ih (o + 1) ?_ ⟨by simpa using k1, fun i u u' h1 h2 => k2 (i + 1) u u' (by simpa using h1) (by simpa using h2)⟩
      rw [setL_eq, setL_eq]
      have := h.set (k2 0 v v' rfl rfl) o
      simpa using this
def PR (r : Ren) : List (Nat × Value) → List (Nat × Value) → Prop
  | [], [] => True
  | (i, v) :: l, (j, u) :: l' => i = j ∧ VR r v u ∧ PR r l l'
  | _, _ => False
def xfill (place : Nat → Option (Nat × Nat)) : List Value → List (Nat × Value) → Option (List Value)
  | cs, [] => some cs
  | cs, (i, v) :: rest =>
    match place i with
    | none => none
    | some (off, size) =>
      match Nat.beq v.cells.toList.length size, Nat.ble (off + size) cs.length with
      | true, true => xfill place (Go.Proofs.Ytkodblhompphjaa.putC cs off v.cells.toList) rest
      | _, _ => none
theorem xfill_R (place : Nat → Option (Nat × Nat)) : ∀ (ps ps' : List (Nat × Value)) (cs cs' : List Value) (c : List Value), PR r ps ps' → VRs r ⟨cs⟩ ⟨cs'⟩ → xfill place cs ps = some c → ∃ c', Instr.fill place ⟨cs'⟩ ps' = some c' ∧ VRs r ⟨c⟩ c'
  | [], [], cs, cs', c, _, h, e => by
    injection e with e
    subst e
    exact ⟨_, rfl, h⟩
  | [], _ :: _, _, _, _, hp, _, _ => hp.elim
  | (i, v) :: ps, [], _, _, _, hp, _, _ => hp.elim
  | (i, v) :: ps, (j, u) :: ps', cs, cs', c, hp, h, e => by
    obtain ⟨rfl, hv, hp⟩ := hp
    simp only [xfill] at e
    split at e
    · cases e
    · rename_i off size hpl
      split at e
      · rename_i h1 h2
        have hc := hv.cells
        have h1 := Nat.eq_of_beq_eq_true h1
        have h2 := Nat.le_of_ble_eq_true h2
        have hcs : cs'.length = cs.length := by simpa using h.1
        have hus : u.cells.size = size := by rw [hc.1, ← h1]; simp
        have hput := VRs.putC (l := v.cells.toList) (l' := u.cells.toList) off h (by simpa using hc)
        obtain ⟨c', h3, h4⟩ := xfill_R place ps ps' _ _ c hp hput e
        refine ⟨c', ?_, h4⟩
        simp only [Instr.fill, hpl]
        rw [if_neg (by simp; omega)]
        rw [← h3]
        congr 1
        have := foldl_putC off u.cells.toList 0 ⟨cs'⟩
        rw [← Array.foldl_toList, Array.toList_zipIdx]
        exact this
      · cases e

theorem places_R (ok : E.Ok) {α β : Type} {R : Ren → α → β → Prop} {s : Sem α} : ∀ (fs : List Field) (f : List (Nat × Nat) → Sem β), (fs.all fun x => (E.ty.get x.type).isSome) = true →
    SemR E.P R r s (f (fs.map fun x => (x.offset, ((E.ty.get x.type).map TI.size).getD 0))) → SemR E.P R r s ((fs.mapM fun x => do pure (x.offset, ← sizeOf x.type)) >>= f)
  | [], f, _, k => k
  | x :: fs, f, ha, k => by
    simp only [List.all_cons, Bool.and_eq_true] at ha
    obtain ⟨h1, h2⟩ := ha
    obtain ⟨i, hi⟩ := Option.isSome_iff_exists.1 h1
    rw [List.mapM_cons]
    simp only [bind_assoc, pure_bind]
    refine semSize ok hi ?_
    refine places_R ok fs (fun l => f ((x.offset, i.size) :: l)) h2 ?_
    simpa [hi] using k
def xbuild (E : Env) (t : TypeId) (ps : List (Nat × Value)) : Sem Value :=
  match E.ty.get t with
  | some i => match i.zero, i.under with
    | some z, .struct fields => match fields.toList.all fun x => (E.ty.get x.type).isSome with
      | true => match xfill (fun j => match nthL fields.toList j with | some x => some (x.offset, match E.ty.get x.type with | some i => i.size | none => 0) | none => none) z.cells.toList ps with
        | some c => .pure (.agg ⟨c⟩)
        | none => no
      | false => no
    | some z, .array _ elem => match E.ty.get elem with
      | some j => match xfill (fun n => some (n * j.size, j.size)) z.cells.toList ps with
        | some c => .pure (.agg ⟨c⟩)
        | none => no
      | none => no
    | _, _ => no
  | none => no
theorem xbuild_R (ok : E.Ok) (t : TypeId) {ps : List (Nat × Value)} {ps' : Array (Nat × Value)} (hp : PR r ps ps'.toList) : SemR E.P VR r (xbuild E t ps) (Instr.build t ps') := by
  unfold xbuild
  split
  · rename_i i hi
    split
    · rename_i z fields hz hu
      split
      · rename_i hall
        split
        · rename_i c hc
          unfold Instr.build
          refine semZero ok hi hz fun hs => ?_
          dsimp only
          refine semUnd ok hi ?_
          rw [hu]
          dsimp only
          rw [Array.mapM_eq_mapM_toList, bind_map_left]
          refine places_R ok fields.toList _ hall ?_
          have hzc : VRs r ⟨z.cells.toList⟩ ⟨z.cells.toList⟩ := by simpa using VRs.simpleCells hs
          obtain ⟨c', h1, h2⟩ := xfill_R _ ps ps'.toList _ _ c hp hzc hc
          have : (fun j : Nat => ((fields.toList.map fun x => (x.offset, ((E.ty.get x.type).map TI.size).getD 0)).toArray)[j]?) = (fun j => match nthL fields.toList j with | some x => some (x.offset, match E.ty.get x.type with | some i => i.size | none => 0) | none => none) := by
            funext j
            rw [nthL_eq]
            simp only [List.getElem?_toArray, List.getElem?_map]
            cases hx : fields.toList[j]? with
            | none => rfl
            | some x =>
              simp only [Option.map_some]
              cases E.ty.get x.type <;> rfl
          rw [this]
          simp only [Array.toArray_toList] at h1
          rw [h1]
          exact .pure (.agg h2.1 h2.2)
        · exact .halt
      · exact .halt
    · rename_i z n elem hz hu
      split
      · rename_i j hj
        split
        · rename_i c hc
          unfold Instr.build
          refine semZero ok hi hz fun hs => ?_
          dsimp only
          refine semUnd ok hi ?_
          rw [hu]
          dsimp only
          refine semSize ok hj ?_
          have hzc : VRs r ⟨z.cells.toList⟩ ⟨z.cells.toList⟩ := by simpa using VRs.simpleCells hs
          obtain ⟨c', h1, h2⟩ := xfill_R _ ps ps'.toList _ _ c hp hzc hc
          simp only [Array.toArray_toList] at h1
          rw [h1]
          exact .pure (.agg h2.1 h2.2)
        · exact .halt
      · exact .halt
    · exact .halt
  · exact .halt
end
end Go.Proofs.Ytkodblhompphjaa

namespace Go.Proofs.Ytkodblhompphjaa
open Go.RowKit

/-- n cells of zeros. -/
def zrow (zero : Array Value) (n : Nat) : Array Value := (Array.range n).map (zero[· % zero.size]!)
theorem zrow_simple {zero : Array Value} (h : zero.toList.all simple1 = true) (n : Nat) : (zrow zero n).toList.all simple1 = true := by
  rw [List.all_eq_true] at h ⊢
  intro v hv
  simp only [zrow, Array.toList_map, List.mem_map] at hv
  obtain ⟨i, _, rfl⟩ := hv
  by_cases hi : i % zero.size < zero.size
  · rw [getElem!_pos zero _ hi]
    exact h _ (by rw [Array.mem_toList_iff]; exact Array.getElem_mem hi)
  · rw [getElem!_neg zero _ hi]
    rfl
theorem simple_cells {z : Value} (h : simple z = true) : z.cells.toList.all simple1 = true := by
  unfold simple at h
  split at h
  · exact h
  · rename_i hn
    cases z <;> first | (exact absurd rfl (hn _)) | (simp only [Value.cells, List.all_cons, List.all_nil, Bool.and_true]; exact h)

section
variable {E : Env} {r : Ren}
def xbuildSlice (E : Env) (t : TypeId) (len : Nat) (ps : List (Nat × Value)) : Sem Value :=
  match E.ty.get t with
  | some i => match i.under with
    | .slice elem => match E.ty.get elem with
      | some j => match Nat.ble (len * j.size) 16777216, (match Nat.beq (len * j.size) 0 with | true => some #[] | false => match j.zero with | some z => some z.cells | none => none) with
        | true, some zs => match xfill (fun n => some (n * j.size, j.size)) (zrow zs (len * j.size)).toList ps with
          | some c => .new (.cells ⟨c⟩ elem) fun b => .pure (.slice (some ⟨b, 0, none⟩) len len)
          | none => no
        | _, _ => no
      | none => no
    | _ => no
  | none => no
theorem xbuildSlice_R (ok : E.Ok) (t : TypeId) (len : Nat) {ps : List (Nat × Value)} {ps' : Array (Nat × Value)} (hp : PR r ps ps'.toList) : SemR E.P VR r (xbuildSlice E t len ps) (Instr.buildSlice t len ps') := by
  unfold xbuildSlice
  split
  · rename_i i hi
    split
    · rename_i elem hu
      split
      · rename_i j hj
        split
        · rename_i zs hle hzs
          split
          · rename_i c hc
            have hle := Nat.le_of_ble_eq_true hle
            unfold Instr.buildSlice
            refine semUnd ok hi ?_
            rw [hu]
            dsimp only
            refine semSize ok hj ?_
            rw [if_neg (by omega)]
            have fin : ∀ (hz : zs.toList.all simple1 = true), SemR E.P VR r (.new (.cells ⟨c⟩ elem) fun b => .pure (.slice (some ⟨b, 0, none⟩) len len))
                (match Instr.fill (fun i => some (i * j.size, j.size)) (zrow zs (len * j.size)) ps'.toList with
                  | some cells => do pure (.slice (some (← newRow elem cells)) len len)
                  | x => stuck "buildSlice: a part of the wrong size") := fun hz => by
              have hrow : VRs r ⟨(zrow zs (len * j.size)).toList⟩ ⟨(zrow zs (len * j.size)).toList⟩ := VRs.simple (by simpa using zrow_simple hz _)
              obtain ⟨c', h1, h2⟩ := xfill_R _ ps ps'.toList _ _ c hp hrow hc
              simp only [Array.toArray_toList] at h1
              rw [h1]
              exact .new (cells_OR h2) fun _ _ _ _ hb => .pure (AR.slice (x := 0) ⟨_, 0, hb, rfl⟩ (fun b' y hy => by
                rw [hb] at hy
                injection hy with hy
                injection hy with _ hy
                exact hy.symm) rfl)
            by_cases h0 : len * j.size = 0
            · rw [h0] at hzs
              injection hzs with hzs
              subst hzs
              rw [if_pos h0]
              exact fin rfl
            · rw [beq_dec, decide_eq_false h0] at hzs
              rw [if_neg h0]
              dsimp only at hzs
              split at hzs
              · rename_i z hz
                injection hzs with hzs
                subst hzs
                refine semZero ok hj hz fun hs => ?_
                exact fin (simple_cells hs)
              · cases hzs
          · exact .halt
        · exact .halt
      · exact .halt
    · exact .halt
  · exact .halt
theorem wrap_nat {c : Nat} (h : c ≤ 4611686018427387904) : IntKind.i64.wrap (c : Int) = c := by
  rw [wrapEq]
  exact wrap64_in (by omega) (by omega)
def xmakeSlice (E : Env) (t : TypeId) (len cap : Value) : Sem Value :=
  match E.ty.get t, nat? len, nat? cap with
  | some i, some l, some c => match i.under with
    | .slice elem => match E.ty.get elem with
      | some j => match Nat.ble l c, Nat.ble c 4611686018427387904, Nat.ble (c * j.bytes) 140737488355328, (match Nat.beq (c * j.size) 0 with | true => some #[] | false => match j.zero with | some z => some z.cells | none => none) with
        | true, true, true, some zs => .new (.cells (zrow zs (c * j.size)) elem) fun b => .pure (.slice (some ⟨b, 0, none⟩) l c)
        | _, _, _, _ => no
      | none => no
    | _ => no
  | _, _, _ => no
theorem xmakeSlice_R (ok : E.Ok) (t : TypeId) {len len' cap cap' : Value} (hl : VR r len len') (hc : VR r cap cap') : SemR E.P VR r (xmakeSlice E t len cap) (Instr.makeSlice t len' cap') := by
  unfold xmakeSlice
  split
  · rename_i i l c hi hnl hnc
    obtain ⟨k1, rfl, _⟩ := nat_R hl hnl
    obtain ⟨k2, rfl, _⟩ := nat_R hc hnc
    split
    · rename_i elem hu
      split
      · rename_i j hj
        split
        · rename_i zs h1 h2 h3 hzs
          have h1 := Nat.le_of_ble_eq_true h1
          have h2 := Nat.le_of_ble_eq_true h2
          have h3 := Nat.le_of_ble_eq_true h3
          unfold Instr.makeSlice
          refine semUnd ok hi ?_
          rw [hu]
          dsimp only
          show SemR E.P VR r _ (typeInfo elem >>= _)
          refine semInfo ok hj fun ji hsz hby hz0 => ?_
          rw [wrap_nat (c := l) (by omega), wrap_nat h2]
          have hb : ¬ (((c : Int) < 0 || decide ((ji.bytes : Int) * c > 2 ^ 48)) = true) := by
            rw [hby]
            have : ((j.bytes : Int) * c) = ((c * j.bytes : Nat) : Int) := by rw [Nat.mul_comm]; simp
            rw [this]
            simp
            omega
          have hcond : ¬ ((((c : Int) < 0 || decide ((ji.bytes : Int) * c > 2 ^ 48)) || decide ((l : Int) < 0) || decide ((l : Int) > c)) = true) := by
            simp only [Bool.or_eq_true, decide_eq_true_eq] at hb ⊢
            omega
          rw [if_neg (by simpa using hcond)]
          rw [Int.toNat_natCast, Int.toNat_natCast, hby]
          unfold askRoom roomBytes
          rw [if_neg (by omega)]
          show SemR E.P VR r _ (sizeOf elem >>= _)
          refine semSize ok hj ?_
          have fin : zs.toList.all simple1 = true → SemR E.P VR r (.new (.cells (zrow zs (c * j.size)) elem) fun b => .pure (.slice (some ⟨b, 0, none⟩) l c)) (do
              let a ← newRow elem (zrow zs (c * j.size))
              pure (.slice (some a) l c)) := fun hz =>
            .new (cells_OR (VRs.simple (zrow_simple hz _))) fun _ _ _ _ hb => .pure (AR.slice (x := 0) ⟨_, 0, hb, rfl⟩ (fun b' y hy => by
                rw [hb] at hy
                injection hy with hy
                injection hy with _ hy
                exact hy.symm) rfl)
          by_cases h0 : c * j.size = 0
          · rw [h0] at hzs
            injection hzs with hzs
            subst hzs
            rw [if_pos h0]
            exact fin rfl
          · rw [beq_dec, decide_eq_false h0] at hzs
            rw [if_neg h0]
            dsimp only at hzs
            split at hzs
            · rename_i z hz
              injection hzs with hzs
              subst hzs
              refine semZero ok hj hz fun hs => ?_
              exact fin (simple_cells hs)
            · cases hzs
        · exact .halt
      · exact .halt
    · exact .halt
  · exact .halt

/-- Both sides come to the same. -/
abbrev Eqr {α : Type} : Ren → α → α → Prop := fun _ x y => x = y
/-- Two addresses. -/
def xsame (a b : Addr) : Sem Bool :=
  match Nat.beq a.block b.block with
  | true => .pure (Nat.beq a.off b.off && decide (a.spot = b.spot))
  | false => .frozen a fun _ => .frozen b fun _ => sameAddr a b
theorem viewAt_R {P : Program} {b b' x : Nat} (h : r b = some (b', x)) : SemR P (fun _ u v => u = v) r (viewAt b) (viewAt b') := by
  unfold viewAt
  refine .shape h fun t => ?_
  show SemR P _ r (if t.isSome = true then pure none else _) (if t.isSome = true then pure none else _)
  split
  · exact .pure rfl
  · refine .getObj h fun s o o' l ho => ?_
    cases ho with
    | cells => exact .pure rfl
    | iter => exact .pure rfl
    | map => exact .pure rfl
    | miterNo => exact .pure rfl
    | miter => exact .pure rfl
theorem noView_R {P : Program} {a a' : Addr} (h : AR r a a') : SemR P (fun _ u v => u = v) r (noView a) (noView a') := by
  obtain ⟨b', x, h1, rfl⟩ := h
  unfold noView
  refine SemR.bind' (viewAt_R h1) fun s u v l e => ?_
  subst e
  split
  · exact .halt
  · exact .pure rfl
theorem stringish_R {P : Program} {a a' : Addr} (ha : AR r a a') : SemR P (fun _ u v => u = v) r (stringish a) (stringish a') := by
  unfold stringish
  refine .frozen ha fun t => ?_
  cases t with
  | true => exact .pure rfl
  | false =>
    obtain ⟨c, x, h1, rfl⟩ := ha
    refine .shape h1 fun t => ?_
    cases t with
    | none => exact .pure rfl
    | some p => exact .frozen ⟨c, x, h1, rfl⟩ fun t => .pure rfl
theorem mayBeOne_R {P : Program} {a a' b b' : Addr} (ha : AR r a a') (hb : AR r b b') : SemR P (fun _ u v => u = v) r (mayBeOne a b) (mayBeOne a' b') := by
  unfold mayBeOne
  refine SemR.bind' (stringish_R ha) fun s x y l e => ?_
  subst e
  refine SemR.bind' (stringish_R (hb.le l)) fun s2 x2 y2 l2 e => ?_
  subst e
  obtain ⟨c, z, h1, rfl⟩ := ha.le (Ren.le_trans l l2)
  obtain ⟨c2, z2, h2, rfl⟩ := hb.le (Ren.le_trans l l2)
  exact .shape h1 fun t => .shape h2 fun t => .pure rfl
theorem xsame_R {P : Program} {a a' b b' : Addr} (ha : AR r a a') (hb : AR r b b') : SemR P (fun _ u v => u = v) r (xsame a b) (sameAddr a' b') := by
  unfold xsame
  split
  · rename_i he
    have he := Nat.eq_of_beq_eq_true he
    obtain ⟨c, z, h1, rfl⟩ := ha
    obtain ⟨c2, z2, h2, rfl⟩ := hb
    rw [he, h2] at h1
    injection h1 with h1
    injection h1 with h1 _
    subst h1
    unfold sameAddr
    rw [if_pos (by simp)]
    refine .pure ?_
    obtain ⟨ab, ao, asp⟩ := a
    obtain ⟨bb, bo, bsp⟩ := b
    simp only at he
    subst he
    rw [beq_dec]
    show _ = decide (_ = _)
    by_cases e1 : ao = bo <;> by_cases e2 : asp = bsp <;> simp [e1, e2]
  · rename_i he
    have he := Nat.ne_of_beq_eq_false he
    refine .apart ha hb he fun hn x y => ?_
    unfold sameAddr
    rw [if_neg (by simpa using he), if_neg (by simpa using hn)]
    refine .frozen ha fun t => .frozen hb fun t2 => ?_
    show SemR P _ r (if (t && t2) = true then _ else _) (if (t && t2) = true then _ else _)
    split
    · exact .halt
    · refine SemR.bind' (noView_R ha) fun s _ _ l _ => SemR.bind' (noView_R (hb.le l)) fun s2 _ _ l2 _ => ?_
      refine SemR.bind' (mayBeOne_R (ha.le (Ren.le_trans l l2)) (hb.le (Ren.le_trans l l2))) fun s3 x y l3 e => ?_
      subst e
      split
      · exact .choose (.pure rfl)
      · exact .pure rfl

/-- Structs, field by field. -/
def xeqF (E : Env) (eq : TypeId → Value → Value → Sem Bool) (xs ys : Array Value) : List (Nat × Nat) → Sem Bool
  | [] => .pure true
  | (o, t) :: l => (xpart E t xs o).bind fun a => (xpart E t ys o).bind fun b => (eq t a b).bind fun z => cond z (xeqF E eq xs ys l) (.pure false)
def xeqA (E : Env) (eq : TypeId → Value → Value → Sem Bool) (xs ys : Array Value) (t n : Nat) : List Nat → Sem Bool
  | [] => .pure true
  | i :: l => (xpart E t xs (i * n)).bind fun a => (xpart E t ys (i * n)).bind fun b => (eq t a b).bind fun z => cond z (xeqA E eq xs ys t n l) (.pure false)
def xequal (E : Env) : Nat → TypeId → Value → Value → Sem Bool
  | 0, _, _, _ => no
  | d + 1, t, x, y =>
    match E.ty.get t with
    | none => no
    | some i => match i.under, x, y with
      | .bool, .bool a, .bool b => .pure (a == b)
      | .int _, .int k a, .int k' b => match decide (k = k') with | true => .pure (a == b) | false => no
      | .float _, .float k a, .float k' b => match decide (k = k') with | true => .pure (Op.floatEq k a b) | false => no
      | .complex _, .complex k a b, .complex k' a' b' => match decide (k = k') with | true => .pure (Op.floatEq k a a' && Op.floatEq k b b') | false => no
      | .string, .string a, .string b => .pure (a == b)
      | .pointer _, .pointer none, .pointer none => .pure true
      | .pointer _, .pointer none, .pointer (some _) => .pure false
      | .pointer _, .pointer (some _), .pointer none => .pure false
      | .pointer e, .pointer (some a), .pointer (some b) => match E.ty.get e with
        | some j => match Nat.beq j.size 0 with
          | false => xsame a b
          | true => no
        | none => no
      | .interface _, .nilIface, .nilIface => .pure true
      | .interface _, .nilIface, .iface _ _ => .pure false
      | .interface _, .iface _ _, .nilIface => .pure false
      | .struct _, .agg xs, .agg ys => match i.stood with
        | false => xeqF E (xequal E d) xs ys i.cmp
        | true => no
      | .array len e, .agg xs, .agg ys => match E.ty.get e with
        | some j => xeqA E (xequal E d) xs ys e j.size (List.range' 0 len 1)
        | none => no
      | .slice _, .slice none _ _, .slice none _ _ => .pure true
      | .slice _, .slice none _ _, .slice (some _) _ _ => .pure false
      | .slice _, .slice (some _) _ _, .slice none _ _ => .pure false
      | .map _ _, .map none, .map none => .pure true
      | .map _ _, .map none, .map (some _) => .pure false
      | .map _ _, .map (some _), .map none => .pure false
      | .func _ _ _, .nilFunc, .nilFunc => .pure true
      | .func _ _ _, .nilFunc, .func _ _ _ => .pure false
      | .func _ _ _, .func _ _ _, .nilFunc => .pure false
      | _, _, _ => no
theorem cmpF_yes {f : Field} {fs : List Field} (h : f.name ≠ "_") : cmpF (f :: fs) = (f.offset, f.type) :: cmpF fs := by
  unfold cmpF
  rw [List.filterMap_cons, if_pos h]
theorem cmpF_no {f : Field} {fs : List Field} (h : ¬ f.name ≠ "_") : cmpF (f :: fs) = cmpF fs := by
  unfold cmpF
  rw [List.filterMap_cons, if_neg h]
theorem xeqF_R (ok : E.Ok) {eq eq' : TypeId → Value → Value → Sem Bool} (heq : ∀ s t x x' y y', VR s x x' → VR s y y' → SemR E.P (fun _ u v => u = v) s (eq t x y) (eq' t x' y')) {xs xs' ys ys' : Array Value} (body : Field → Option Bool × Unit → Sem (ForInStep (Option Bool × Unit)))
    (hb1 : ∀ f s, f.name ≠ "_" → body f s = (do
        let a ← part f.type xs' f.offset
        let b ← part f.type ys' f.offset
        let z ← eq' f.type a b
        if (!z) = true then pure (ForInStep.done (some false, ())) else pure (ForInStep.yield (none, ()))))
    (hb2 : ∀ f s, ¬ f.name ≠ "_" → body f s = pure (ForInStep.yield (none, ()))) (kont : Option Bool × Unit → Sem Bool) (hk1 : ∀ b, kont (some b, ()) = pure b) (hk0 : kont (none, ()) = pure true) : ∀ (fs : List Field) (s : Ren), VRs s xs xs' → VRs s ys ys' →
    SemR E.P (fun _ u v => u = v) s (xeqF E eq xs ys (cmpF fs)) (forIn fs (none, ()) body >>= kont)
  | [], s, _, _ => by
    rw [List.forIn_nil, pure_bind, hk0]
    exact .pure rfl
  | f :: fs, s, hx, hy => by
    rw [List.forIn_cons]
    by_cases hn : f.name ≠ "_"
    · rw [cmpF_yes hn, hb1 f _ hn]
      simp only [bind_assoc]
      refine SemR.bind' (xpart_R ok f.type hx f.offset) fun s1 a a' l1 ha => ?_
      refine SemR.bind' (xpart_R ok f.type (hy.le l1) f.offset) fun s2 b b' l2 hb => ?_
      refine SemR.bind' (heq s2 f.type a a' b b' (ha.le l2) hb) fun s3 z z' l3 hz => ?_
      subst hz
      cases z with
      | true =>
        simp only [Bool.not_true, Bool.false_eq_true, if_false, pure_bind]
        exact xeqF_R ok heq body hb1 hb2 kont hk1 hk0 fs s3 (hx.le (Ren.le_trans l1 (Ren.le_trans l2 l3))) (hy.le (Ren.le_trans l1 (Ren.le_trans l2 l3)))
      | false =>
        simp only [Bool.not_false, if_true, pure_bind, hk1]
        exact .pure rfl
    · rw [cmpF_no hn, hb2 f _ hn]
      simp only [pure_bind]
      exact xeqF_R ok heq body hb1 hb2 kont hk1 hk0 fs s hx hy
theorem xeqA_R (ok : E.Ok) {eq eq' : TypeId → Value → Value → Sem Bool} (heq : ∀ s t x x' y y', VR s x x' → VR s y y' → SemR E.P (fun _ u v => u = v) s (eq t x y) (eq' t x' y')) {xs xs' ys ys' : Array Value} (t n : Nat) (kont : Option Bool × Unit → Sem Bool) (hk1 : ∀ b, kont (some b, ()) = pure b) (hk0 : kont (none, ()) = pure true) : ∀ (fs : List Nat) (s : Ren), VRs s xs xs' → VRs s ys ys' →
    SemR E.P (fun _ u v => u = v) s (xeqA E eq xs ys t n fs) (forIn fs (none, ()) (fun i _ => do
        let a ← part t xs' (i * n)
        let b ← part t ys' (i * n)
        let z ← eq' t a b
        if (!z) = true then pure (ForInStep.done (some false, ())) else pure (ForInStep.yield (none, ()))) >>= kont)
  | [], s, _, _ => by
    rw [List.forIn_nil, pure_bind, hk0]
    exact .pure rfl
  | f :: fs, s, hx, hy => by
    rw [List.forIn_cons]
    simp only [bind_assoc]
    refine SemR.bind' (xpart_R ok t hx _) fun s1 a a' l1 ha => ?_
    refine SemR.bind' (xpart_R ok t (hy.le l1) _) fun s2 b b' l2 hb => ?_
    refine SemR.bind' (heq s2 t a a' b b' (ha.le l2) hb) fun s3 z z' l3 hz => ?_
    subst hz
    cases z with
    | true =>
      simp only [Bool.not_true, Bool.false_eq_true, if_false, pure_bind]
      exact xeqA_R ok heq t n kont hk1 hk0 fs s3 (hx.le (Ren.le_trans l1 (Ren.le_trans l2 l3))) (hy.le (Ren.le_trans l1 (Ren.le_trans l2 l3)))
    | false =>
      simp only [Bool.not_false, if_true, pure_bind, hk1]
      exact .pure rfl
end
end Go.Proofs.Ytkodblhompphjaa

namespace Go.Proofs.Ytkodblhompphjaa
open Go.RowKit

section
variable {E : Env}
theorem xequal_R (ok : E.Ok) : ∀ (n d : Nat) (r : Ren) (t : TypeId) (x x' y y' : Value), n ≤ d → VR r x x' → VR r y y' → SemR E.P (fun _ u v => u = v) r (xequal E n t x y) (Op.equalIn d t x' y')
  | 0, _, _, _, _, _, _, _, _, _, _ => .halt
  | n + 1, 0, _, _, _, _, _, _, h, _, _ => absurd h (by omega)
  | n + 1, d + 1, r, t, x, x', y, y', h, hx, hy => by
    unfold xequal Op.equalIn
    split
    · exact .halt
    · rename_i i hi
      refine semUnd ok hi ?_
      split <;> first | exact .halt | skip
      all_goals rename_i hu
      all_goals rw [hu]
      case h_1 => cases hx; cases hy; exact .pure rfl
      case h_2 =>
        cases hx; cases hy
        dsimp only
        split
        · rename_i hk
          rw [if_pos (of_decide_eq_true hk)]
          exact .pure rfl
        · exact .halt
      case h_3 =>
        cases hx; cases hy
        dsimp only
        split
        · rename_i hk
          rw [if_pos (of_decide_eq_true hk)]
          exact .pure rfl
        · exact .halt
      case h_4 =>
        cases hx; cases hy
        dsimp only
        split
        · rename_i hk
          rw [if_pos (of_decide_eq_true hk)]
          exact .pure rfl
        · exact .halt
      case h_5 => cases hx; cases hy; exact .pure rfl
      case h_6 => cases hx; cases hy; exact .pure rfl
      case h_7 => cases hx; cases hy; exact .pure rfl
      case h_8 => cases hx; cases hy; exact .pure rfl
      case h_9 =>
        cases hx with
        | ptr h1 =>
          cases hy with
          | ptr h2 =>
            dsimp only
            split
            · rename_i j hj
              split
              · rename_i hz
                refine semSize ok hj ?_
                rw [if_pos (Nat.ne_of_beq_eq_false hz)]
                exact xsame_R ⟨_, _, h1, rfl⟩ ⟨_, _, h2, rfl⟩
              · exact .halt
            · exact .halt
      case h_10 => cases hx; cases hy; exact .pure rfl
      case h_11 => cases hx; cases hy; exact .pure rfl
      case h_12 => cases hx; cases hy; exact .pure rfl
      case h_13 =>
        cases hx with
        | agg a1 a2 =>
          cases hy with
          | agg b1 b2 =>
            dsimp only
            split
            · rename_i hs
              obtain ⟨_, j, hj, _, _, _, hc, hst, _⟩ := ok.ty t i hi
              refine .programR ?_
              show SemR E.P _ r _ (if E.P.stoodInHeld t = true then _ else _)
              rw [if_neg (by rw [← hst, hs]; simp)]
              rw [hc, hu, show ∀ fs, cmpOf (.struct fs) = cmpF fs.toList from fun _ => rfl, ← Array.forIn_toList]
              refine xeqF_R ok (eq := xequal E n) (eq' := Op.equalIn d) ?_ _ ?_ ?_ _ (fun _ => rfl) rfl _ r ⟨a1, a2⟩ ⟨b1, b2⟩
              · exact fun s t x x' y y' hx hy => xequal_R ok n d s t x x' y y' (by omega) hx hy
              · intro f s hf
                exact if_pos hf
              · intro f s hf
                exact if_neg hf
            · exact .halt
      case h_14 =>
        cases hx with
        | agg a1 a2 =>
          cases hy with
          | agg b1 b2 =>
            dsimp only
            split
            · rename_i j hj
              refine semSize ok hj ?_
              rw [Std.Legacy.Range.forIn_eq_forIn_range']
              have : ∀ len : Nat, ([:len] : Std.Legacy.Range).size = len := fun len => by simp [Std.Legacy.Range.size]
              rw [this]
              refine xeqA_R ok (eq := xequal E n) (eq' := Op.equalIn d) ?_ _ _ _ (fun _ => rfl) rfl _ r ⟨a1, a2⟩ ⟨b1, b2⟩
              exact fun s t x x' y y' hx hy => xequal_R ok n d s t x x' y y' (by omega) hx hy
            · exact .halt
      case h_15 => cases hx; cases hy; exact .pure rfl
      case h_16 => cases hx; cases hy; exact .pure rfl
      case h_17 => cases hx; cases hy; exact .pure rfl
      case h_18 => cases hx; cases hy; exact .pure rfl
      case h_19 => cases hx; cases hy; exact .pure rfl
      case h_20 => cases hx; cases hy; exact .pure rfl
      case h_21 => cases hx; cases hy; exact .pure rfl
      case h_22 => cases hx; cases hy; exact .pure rfl
      case h_23 => cases hx; cases hy; exact .pure rfl
end
end Go.Proofs.Ytkodblhompphjaa
