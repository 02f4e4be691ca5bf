/- Running a program by reckoning, 8: all operations but append; the operands.
  Nothing here speaks of the program. -/
import Derived.Test.YtkodblhompphjaaVq
namespace Go.Proofs.Ytkodblhompphjaa
open Go.RowKit

theorem binOp_eql (t : TypeId) (a b : Value) (h : scalPair a b = false) : binOp .eql t a b = Op.equal t a b >>= fun z => pure (.bool z) := by
  cases a <;> cases b <;> first | rfl | cases h
theorem binOp_neq (t : TypeId) (a b : Value) (h : scalPair a b = false) : binOp .neq t a b = Op.equal t a b >>= fun z => pure (.bool !z) := by
  cases a <;> cases b <;> first | rfl | cases h
def isAggV : Value → Bool
  | .agg _ => true
  | _ => false
def isNilI : Value → Bool
  | .nilIface => true
  | _ => false
theorem eqGuard_pass (op : BinOp) (t : TypeId) (x y : Operand) {a b : Value} (h1 : (isAggV a && isAggV b) = false) (h2 : (isNilI a && isNilI b) = false) : eqGuard op t x y a b = pure () := by
  cases op <;> first
    | rfl
    | (unfold eqGuard
       simp only [Bool.not_true, Bool.false_eq_true, if_false]
       split
       · exact absurd h2 (by simp [isNilI])
       · exact absurd h1 (by simp [isAggV])
       · rfl)
theorem eqGuard_agg (op : BinOp) (t : TypeId) (x y : Operand) (a b : Array Value) : eqGuard op t x y (.agg a) (.agg b) = pure () ∨ ∃ g : Sem Unit, eqGuard op t x y (.agg a) (.agg b) = .program fun p => .program fun q => if (!p.eqGuardType q.depth t) = true then pure () else g := by
  cases op <;> first
    | exact .inl rfl
    | exact .inr ⟨_, rfl⟩

def isConstO : Operand → Bool
  | .const _ => true
  | _ => false
theorem eqGuard_nil (op : BinOp) (t : TypeId) (x y : Operand) (h : (isConstO x || isConstO y) = true) : eqGuard op t x y .nilIface .nilIface = pure () := by
  cases op <;> first
    | rfl
    | (unfold eqGuard
       simp only [Bool.not_true, Bool.false_eq_true, if_false]
       exact if_pos h)

section
variable {E : Env} {r : Ren}
theorem VR.scalPair {a a' b b' : Value} (h : VR r a a') (k : VR r b b') : Go.Proofs.Ytkodblhompphjaa.scalPair a' b' = Go.Proofs.Ytkodblhompphjaa.scalPair a b := by
  cases h <;> cases k <;> rfl
theorem VR.isAggV {a a' : Value} (h : VR r a a') : Go.Proofs.Ytkodblhompphjaa.isAggV a' = Go.Proofs.Ytkodblhompphjaa.isAggV a := by cases h <;> rfl
theorem VR.isNilI {a a' : Value} (h : VR r a a') : Go.Proofs.Ytkodblhompphjaa.isNilI a' = Go.Proofs.Ytkodblhompphjaa.isNilI a := by cases h <;> rfl
def xbinOp (E : Env) (op : BinOp) (t : TypeId) (x y : Operand) (a b : Value) : Sem Value :=
  match scalPair a b with
  | true => binOp op t a b
  | false =>
    match (match isAggV a && isAggV b with
      | true => (match E.ty.get t with | some i => !i.guard | none => false)
      | false => match isNilI a && isNilI b with
        | true => isConstO x || isConstO y
        | false => true) with
    | true => match op with
      | .eql => (xequal E 100 t a b).bind fun z => .pure (.bool z)
      | .neq => (xequal E 100 t a b).bind fun z => .pure (.bool !z)
      | _ => no
    | false => no
theorem isEqOp (op : BinOp) : op = .eql ∨ op = .neq ∨ (op matches .eql | .neq) = false := by cases op <;> simp
theorem scal_of_pair {a b : Value} (h : scalPair a b = true) : scal a = true ∧ scal b = true := by
  unfold scalPair at h
  split at h <;> first | exact ⟨rfl, rfl⟩ | cases h
theorem guard_R (ok : E.Ok) {α β : Type} {R : Ren → α → β → Prop} {s : Sem α} {f : Unit → Sem β} {op : BinOp} {t : TypeId} {x y : Operand} {a a' b b' : Value} (ha : VR r a a') (hb : VR r b b')
    (hg : (match isAggV a && isAggV b with
      | true => (match E.ty.get t with | some i => !i.guard | none => false)
      | false => match isNilI a && isNilI b with
        | true => isConstO x || isConstO y
        | false => true) = true) (k : SemR E.P R r s (f ())) : SemR E.P R r s (eqGuard op t x y a' b' >>= f) := by
  cases h1 : (isAggV a && isAggV b) with
  | true =>
    rw [h1] at hg
    simp only [Bool.and_eq_true] at h1
    obtain ⟨h2, h3⟩ := h1
    cases ha <;> first | cases h2; done | skip
    cases hb <;> first | cases h3; done | skip
    rename_i A _ _ _ B _ _
    dsimp only at hg
    split at hg
    · rename_i i hi
      obtain ⟨_, j, hj, _, _, _, _, _, hgd⟩ := ok.ty t i hi
      rcases eqGuard_agg op t x y A B with e | ⟨g, e⟩
      · rw [e]
        exact k
      · rw [e]
        refine .programR (.programR ?_)
        have hi0 : i.guard = false := by simpa using hg
        show SemR E.P R r s ((if (!E.P.eqGuardType E.P.depth t) = true then pure () else g) >>= f)
        rw [← hgd, hi0]
        exact k
    · cases hg
  | false =>
    rw [h1] at hg
    dsimp only at hg
    cases h4 : (isNilI a && isNilI b) with
    | true =>
      rw [h4] at hg
      simp only [Bool.and_eq_true] at h4
      obtain ⟨h2, h3⟩ := h4
      cases ha <;> first | cases h2; done | skip
      cases hb <;> first | cases h3; done | skip
      dsimp only at hg
      rw [eqGuard_nil op t x y hg]
      exact k
    | false =>
      rw [eqGuard_pass op t x y (by rw [ha.isAggV, hb.isAggV, h1]) (by rw [ha.isNilI, hb.isNilI, h4])]
      exact k
theorem xbinOp_R (ok : E.Ok) (op : BinOp) (t : TypeId) (x y : Operand) {a a' b b' : Value} (ha : VR r a a') (hb : VR r b b') : SemR E.P VR r (xbinOp E op t x y a b) (eqGuard op t x y a' b' >>= fun _ => binOp op t a' b') := by
  unfold xbinOp
  split
  · rename_i hp
    obtain ⟨h1, h2⟩ := scal_of_pair hp
    have e1 := scal_eq ha h1
    have e2 := scal_eq hb h2
    subst e1 e2
    rw [eqGuard_pass op t x y (by cases a' <;> first | rfl | cases h1) (by cases a' <;> first | rfl | cases h1)]
    exact (binOp_Pl op t h1 h2 hp).VR
  · rename_i hp
    split
    · rename_i hg
      refine guard_R ok ha hb hg ?_
      have hp' : scalPair a' b' = false := by rw [ha.scalPair hb, hp]
      split
      · rw [binOp_eql t a' b' hp']
        exact (xequal_R ok 100 Op.maxDepth r t a a' b b' (by unfold Op.maxDepth; omega) ha hb).bind fun s u v l e => by
          subst e
          exact .pure (.bool _)
      · rw [binOp_neq t a' b' hp']
        exact (xequal_R ok 100 Op.maxDepth r t a a' b b' (by unfold Op.maxDepth; omega) ha hb).bind fun s u v l e => by
          subst e
          exact .pure (.bool _)
      · exact .halt
    · exact .halt
def xunOp (op : UnOp) (a : Value) : Sem Value :=
  match simple1 a with
  | true => Op.unary op a
  | false => no
theorem simple1_eq {a a' : Value} (ha : VR r a a') (h : simple1 a = true) : a' = a := by
  cases ha <;> first | rfl | cases h | skip
  rename_i f a0 a1 c0 c1 hf h1 h2 h3 h4
  unfold simple1 at h
  split at h <;> first | cases h; done | skip
  all_goals first
    | (rename_i hx; cases hx; done)
    | (rename_i hx
       injection hx with e1 e2 e3
       subst e1 e2 e3
       have e4 : a1 = #[] := Array.eq_empty_of_size_eq_zero (by simpa using h1)
       have e5 : c1 = #[] := Array.eq_empty_of_size_eq_zero (by simpa using h3)
       subst e4 e5
       rfl)
theorem xunOp_R {P : Program} (op : UnOp) {a a' : Value} (ha : VR r a a') : SemR P VR r (xunOp op a) (Op.unary op a') := by
  unfold xunOp
  split
  · rename_i h
    have := simple1_eq ha h
    subst this
    exact (unary_Pl op h).VR
  · exact .halt

def xlen (E : Env) (t : TypeId) (v : Value) : Sem Value :=
  match E.ty.get t with
  | none => no
  | some i => match i.under, v with
    | .string, .string s => .pure (.int .i64 (s.data.toList.length : Nat))
    | .slice _, .slice _ n _ => .pure (.int .i64 (n : Nat))
    | .array n _, _ => .pure (.int .i64 (n : Nat))
    | .pointer arr, _ => match E.ty.get arr with
      | some j => match j.under with
        | .array n _ => .pure (.int .i64 (n : Nat))
        | _ => no
      | none => no
    | _, _ => no
theorem xlen_R (ok : E.Ok) (t ty : TypeId) (ts : Array TypeId) (ht : ts[0]? = some t) {v v' : Value} (hv : VR r v v') (vs : Array Value) (hvs : vs[0]? = some v') : SemR E.P VR r (xlen E t v) (Builtin.len_ ts ty vs) := by
  unfold xlen
  split
  · exact .halt
  · rename_i i hi
    unfold Builtin.len_
    rw [ht, hvs]
    split <;> first | exact .halt | skip
    all_goals rename_i hu
    all_goals dsimp only
    · refine semUnd ok hi ?_
      rw [hu]
      cases hv
      exact .pure (.int _ _)
    · refine semUnd ok hi ?_
      rw [hu]
      cases hv <;> exact .pure (.int _ _)
    · refine semUnd ok hi ?_
      rw [hu]
      exact .pure (.int _ _)
    · split
      · rename_i j hj
        split
        · rename_i n e hu2
          refine semUnd ok hi ?_
          rw [hu]
          dsimp only
          refine semUnd ok hj ?_
          rw [hu2]
          exact .pure (.int _ _)
        · exact .halt
      · exact .halt
def xcap (E : Env) (t : TypeId) (v : Value) : Sem Value :=
  match E.ty.get t with
  | none => no
  | some i => match i.under, v with
    | .slice _, .slice none _ c => .pure (.int .i64 (c : Nat))
    | .slice _, .slice (some a) _ c => .shape a.block fun s => match s with
      | some _ => .pure (.int .i64 (c : Nat))
      | none => no
    | .array n _, _ => .pure (.int .i64 (n : Nat))
    | _, _ => no
theorem xcap_R (ok : E.Ok) (t ty : TypeId) (ts : Array TypeId) (ht : ts[0]? = some t) {v v' : Value} (hv : VR r v v') (vs : Array Value) (hvs : vs[0]? = some v') : SemR E.P VR r (xcap E t v) (Builtin.cap_ ts ty vs) := by
  unfold xcap
  split
  · exact .halt
  · rename_i i hi
    unfold Builtin.cap_
    rw [ht, hvs]
    split <;> first | exact .halt | skip
    all_goals rename_i hu
    all_goals dsimp only
    · refine semUnd ok hi ?_
      rw [hu]
      cases hv
      exact .pure (.int _ _)
    · cases hv with
      | slice hb =>
        refine .shapeL hb fun tt htt => ?_
        split
        · have := htt rfl
          subst this
          refine semUnd ok hi ?_
          rw [hu]
          exact .pure (.int _ _)
        · exact .halt
    · refine semUnd ok hi ?_
      rw [hu]
      exact .pure (.int _ _)
def xcopy (E : Env) (t : TypeId) (dst src : Value) : Sem Value :=
  match E.ty.get t with
  | none => no
  | some i => match i.under, dst with
    | .slice elem, .slice base dLen _ => match E.ty.get elem, src with
      | some j, .slice sb sl _ =>
        (match sb with
          | some a => loadCells a (Nat.min sl dLen * j.size)
          | none => .pure #[]).bind fun cells =>
        (match base with
          | some a => storeCells a cells.toList
          | none => .pure ()).bind fun _ => .pure (.int .i64 (Nat.min sl dLen : Nat))
      | some _, .chan none => .pure (.int .i64 (0 : Nat))
      | some _, .string s =>
        (match base with
          | some a => storeCells a ((s.extract 0 (Nat.min s.size dLen)).data.map fun (b : UInt8) => Value.int .u8 b.toNat).toList
          | none => .pure ()).bind fun _ => .pure (.int .i64 (Nat.min s.size dLen : Nat))
      | _, _ => no
    | _, _ => no
theorem bytes_VRs (s : Array UInt8) : VRs r (s.map fun (b : UInt8) => Value.int .u8 b.toNat) (s.map fun (b : UInt8) => Value.int .u8 b.toNat) := VRs.simple (by simp [simple1])
theorem xcopy_R (ok : E.Ok) (t ty : TypeId) (ts : Array TypeId) (ht : ts[0]? = some t) {d d' s s' : Value} (hd : VR r d d') (hs : VR r s s') (vs : Array Value) (h0 : vs[0]? = some d') (h1 : vs[1]? = some s') : SemR E.P VR r (xcopy E t d s) (Builtin.copy_ ts ty vs) := by
  unfold xcopy
  split
  · exact .halt
  · rename_i i hi
    unfold Builtin.copy_
    rw [ht, h0, h1]
    split <;> first | exact .halt | skip
    rename_i elem base dLen c hu
    have hst : ∀ (b' : Option Addr) (n : Nat) (q : Ren) (cells cells' : Array Value), r.le q → VRs q cells cells' → (∀ a, base = some a → ∃ a', b' = some a' ∧ AR r a a') → (base = none → b' = none) →
        SemR E.P VR q ((match base with | some a => storeCells a cells.toList | none => .pure ()).bind fun _ => .pure (.int .i64 (n : Nat)))
          (do
            if let some a := b' then storeCells a cells'.toList
            pure (goInt n)) := fun b' n q cells cells' l hc h2 h3 => by
      cases base with
      | none =>
        rw [h3 rfl]
        exact .pure (.int _ _)
      | some a =>
        obtain ⟨a', rfl, ha⟩ := h2 a rfl
        exact (storeCells_R (ha.le l) cells.toList cells'.toList 0 (by simpa using hc)).bind fun _ _ _ _ _ => .pure (.int _ _)
    split <;> first | exact .halt | skip
    · rename_i j sb sl sc hj
      dsimp only
      refine semUnd ok hi ?_
      rw [hu]
      cases hd with
      | snil =>
        dsimp only
        cases hs with
        | snil =>
          show SemR E.P VR r _ (sizeOf elem >>= _)
          refine semSize ok hj ?_
          exact hst none (Nat.min sl dLen) r #[] #[] (Ren.le_refl r) (VRs.nil r) (fun a e => by cases e) fun _ => rfl
        | slice hb =>
          show SemR E.P VR r _ (sizeOf elem >>= _)
          refine semSize ok hj ?_
          refine SemR.bind (loadCells_R _ ⟨_, _, hb, rfl⟩) fun q cs cs' l hc => ?_
          exact hst none (Nat.min sl dLen) q cs cs' l hc (fun a e => by cases e) fun _ => rfl
      | slice hb1 =>
        dsimp only
        cases hs with
        | snil =>
          show SemR E.P VR r _ (sizeOf elem >>= _)
          refine semSize ok hj ?_
          exact hst _ (Nat.min sl dLen) r #[] #[] (Ren.le_refl r) (VRs.nil r) (fun a e => by injection e with e; subst e; exact ⟨_, rfl, _, _, hb1, rfl⟩) fun e => by cases e
        | slice hb =>
          show SemR E.P VR r _ (sizeOf elem >>= _)
          refine semSize ok hj ?_
          refine SemR.bind (loadCells_R _ ⟨_, _, hb, rfl⟩) fun q cs cs' l hc => ?_
          exact hst _ (Nat.min sl dLen) q cs cs' l hc (fun a e => by injection e with e; subst e; exact ⟨_, rfl, _, _, hb1, rfl⟩) fun e => by cases e
    · rename_i j hj
      cases hs with
      | sgone p q =>
        dsimp only
        refine semUnd ok hi ?_
        rw [hu]
        cases hd with
        | snil =>
          dsimp only
          show SemR E.P VR r _ (sizeOf elem >>= _)
          refine semSize ok hj ?_
          cases p with
          | none =>
            rw [show Nat.min 0 dLen = 0 from Nat.zero_min dLen]
            exact .pure (.int _ _)
          | some a =>
            rw [show Nat.min 0 dLen = 0 from Nat.zero_min dLen]
            unfold Builtin.firstCells
            dsimp only
            rw [Nat.zero_mul]
            exact .pure (.int _ _)
        | slice hb1 =>
          dsimp only
          show SemR E.P VR r _ (sizeOf elem >>= _)
          refine semSize ok hj ?_
          cases p with
          | none =>
            rw [show Nat.min 0 dLen = 0 from Nat.zero_min dLen]
            exact .pure (.int _ _)
          | some a =>
            rw [show Nat.min 0 dLen = 0 from Nat.zero_min dLen]
            unfold Builtin.firstCells
            dsimp only
            rw [Nat.zero_mul]
            exact .pure (.int _ _)
    · rename_i j s0 hj
      cases hs
      dsimp only
      refine semUnd ok hi ?_
      rw [hu]
      cases hd with
      | snil =>
        dsimp only
        show SemR E.P VR r _ (sizeOf elem >>= _)
        refine semSize ok hj ?_
        exact hst none (Nat.min s0.size dLen) r _ _ (Ren.le_refl r) (bytes_VRs (s0.extract 0 (Nat.min s0.size dLen)).data) (fun a e => by cases e) fun _ => rfl
      | slice hb1 =>
        dsimp only
        show SemR E.P VR r _ (sizeOf elem >>= _)
        refine semSize ok hj ?_
        exact hst _ (Nat.min s0.size dLen) r _ _ (Ren.le_refl r) (bytes_VRs (s0.extract 0 (Nat.min s0.size dLen)).data) (fun a e => by injection e with e; subst e; exact ⟨_, rfl, _, _, hb1, rfl⟩) fun e => by cases e

def xclear (E : Env) (t : TypeId) (v : Value) : Sem Value :=
  match E.ty.get t, v with
  | some _, .slice none _ _ => .pure (.tuple #[])
  | some _, .slice (some _) 0 _ => .pure (.tuple #[])
  | some i, .slice (some a) (n + 1) _ => match i.under with
    | .slice elem => match E.ty.get elem with
      | some j => match j.zero with
        | some z => (storeCells a (zrow z.cells ((n + 1) * z.cells.size)).toList).bind fun _ => .pure (.tuple #[])
        | none => no
      | none => no
    | _ => no
  | _, _ => no
theorem xclear_R (ok : E.Ok) (t ty : TypeId) (ts : Array TypeId) (ht : ts[0]? = some t) {v v' : Value} (hv : VR r v v') (vs : Array Value) (hvs : vs[0]? = some v') : SemR E.P VR r (xclear E t v) (Builtin.clear_ ts ty vs) := by
  unfold xclear
  unfold Builtin.clear_
  rw [ht, hvs]
  split <;> first | exact .halt | skip
  · rename_i i nn c hi
    cases hv
    refine semUnd ok hi ?_
    cases i.under <;> exact .pure (.tuple rfl (VRs.nil r).2)
  · rename_i i a c hi
    cases hv
    refine semUnd ok hi ?_
    cases i.under <;> exact .pure (.tuple rfl (VRs.nil r).2)
  · rename_i i a n c hi
    split <;> first | exact .halt | skip
    rename_i elem hu
    split <;> first | exact .halt | skip
    rename_i j hj
    split <;> first | exact .halt | skip
    rename_i z hz
    cases hv with
    | slice hb =>
      refine semUnd ok hi ?_
      rw [hu]
      show SemR E.P VR r _ (zeroValue elem >>= _)
      refine semZero ok hj hz fun hs => ?_
      have hr : VRs r (zrow z.cells ((n + 1) * z.cells.size)) (Builtin.zeroCells z.cells (n + 1)) := VRs.simple (zrow_simple (simple_cells hs) _)
      exact (storeCells_R (P := E.P) ⟨_, _, hb, rfl⟩ (zrow z.cells ((n + 1) * z.cells.size)).toList (Builtin.zeroCells z.cells (n + 1)).toList 0 (by simpa using hr)).bind fun s _ _ _ _ => .pure (.tuple rfl (VRs.nil s).2)
def xrange (E : Env) (t : TypeId) (v : Value) : Sem Value :=
  match E.ty.get t with
  | none => no
  | some i => match i.under, v with
    | .string, .string s => .new (.stringIter s 0) fun b => .pure (.pointer (some ⟨b, 0, none⟩))
    | _, _ => no
theorem xrange_R (ok : E.Ok) (t : TypeId) {v v' : Value} (hv : VR r v v') : SemR E.P VR r (xrange E t v) (Instr.range t v') := by
  unfold xrange
  split
  · exact .halt
  · rename_i i hi
    split <;> first | exact .halt | skip
    rename_i s hu
    cases hv
    unfold Instr.range
    show SemR E.P VR r _ (underlying t >>= _)
    refine semUnd ok hi ?_
    rw [hu]
    exact .new (.iter _ _) fun _ _ _ _ hb => .pure (.ptr hb)
def xnext (v : Value) (isString : Bool) : Sem Value :=
  match v, isString with
  | .pointer (some ⟨b, 0, _⟩), true => .getObj b fun o => match o with
    | .stringIter s pos => match Nat.ble (pos + 1) s.data.toList.length with
      | true => match Utf8.decode s pos with
        | (c, width) => .setObj b (.stringIter s (pos + width)) (.pure (.tuple #[.bool true, .int .i64 (pos : Nat), .int .i32 (c : Nat)]))
      | false => .pure (.tuple #[.bool false])
    | _ => no
  | _, _ => no
theorem xnext_R {P : Program} {v v' : Value} (hv : VR r v v') (b : Bool) (t : TypeId) : SemR P VR r (xnext v b) (Instr.next v' b t) := by
  unfold xnext
  split
  · rename_i blk sp
    cases hv with
    | ptr hb =>
      unfold Instr.next
      dsimp only
      refine SemR.getObj hb fun s o o' l ho => ?_
      cases ho with
      | cells => exact .halt
      | map => exact .halt
      | miterNo => exact .halt
      | miter => exact .halt
      | iter s pos =>
        dsimp only
        split
        · rename_i hlt
          have h1 : pos < s.size := by
            have := Nat.le_of_ble_eq_true hlt
            simp at this
            exact this
          show SemR P VR _ _ (if pos < s.size then _ else _)
          rw [if_pos h1]
          refine SemR.setObj (l _ _ hb) (.iter _ _) ?_
          exact .pure (.tuple rfl (VRs.simple (by rfl)).2)
        · rename_i hlt
          have h1 : ¬ pos < s.size := by
            intro h
            have e : Nat.ble (pos + 1) s.data.toList.length = true := Nat.ble_eq_true_of_le (by simp; exact h)
            rw [e] at hlt
            cases hlt
          show SemR P VR _ _ (if pos < s.size then _ else _)
          rw [if_neg h1]
          exact .pure (.tuple rfl (VRs.simple (by rfl)).2)
  · exact .halt
end
end Go.Proofs.Ytkodblhompphjaa
