/-
  Running a program by reckoning, 6: rows made, equality, lengths, ranges over texts.
  Nothing here speaks of the program.
-/
import Derived.Test.YtihlhmphgjlngaaE5
namespace Go.Proofs.Ytihlhmphgjlngaa
open Go.RowKit

/-- n cells of zeros. -/
def zrow (zero : Array Value) (n : Nat) : Array Value := (Array.range n).map (zero[· % zero.size]!)
theorem zrow_simple {zero : Array Value} (h : zero.toList.all simple1 = true) (n : Nat) : (zrow zero n).toList.all simple1 = true := by
  rw [List.all_eq_true] at h ⊢
  intro v hv
  simp only [zrow, Array.toList_map, List.mem_map] at hv
  obtain ⟨i, _, rfl⟩ := hv
  by_cases hi : i % zero.size < zero.size
  · rw [getElem!_pos zero _ hi]
    exact h _ (by rw [Array.mem_toList_iff]; exact Array.getElem_mem hi)
  · rw [getElem!_neg zero _ hi]
    rfl
theorem simple_cells {z : Value} (h : simple z = true) : z.cells.toList.all simple1 = true := by
  unfold simple at h
  split at h
  · exact h
  · rename_i hn
    cases z <;> first | (exact absurd rfl (hn _)) | (simp only [Value.cells, List.all_cons, List.all_nil, Bool.and_true]; exact h)

section
variable {E : Env} {r : Ren}
def xbuildSlice (E : Env) (t : TypeId) (len : Nat) (ps : List (Nat × Value)) : Sem Value :=
  match E.ty.get t with
  | some i => match i.under with
    | .slice elem => match E.ty.get elem with
      | some j => match Nat.ble (len * j.size) 16777216, (match Nat.beq (len * j.size) 0 with | true => some #[] | false => match j.zero with | some z => some z.cells | none => none) with
        | true, some zs => match xfill (fun n => some (n * j.size, j.size)) (zrow zs (len * j.size)).toList ps with
          | some c => .new (.cells ⟨c⟩ elem) fun b => .pure (.slice (some ⟨b, 0, none⟩) len len)
          | none => no
        | _, _ => no
      | none => no
    | _ => no
  | none => no
theorem xbuildSlice_R (ok : E.Ok) (t : TypeId) (len : Nat) {ps : List (Nat × Value)} {ps' : Array (Nat × Value)} (hp : PR r ps ps'.toList) : SemR E.P VR r (xbuildSlice E t len ps) (Instr.buildSlice t len ps') := by
  unfold xbuildSlice
  split
  · rename_i i hi
    split
    · rename_i elem hu
      split
      · rename_i j hj
        split
        · rename_i zs hle hzs
          split
          · rename_i c hc
            have hle := Nat.le_of_ble_eq_true hle
            unfold Instr.buildSlice
            refine semUnd ok hi ?_
            rw [hu]
            dsimp only
            refine semSize ok hj ?_
            rw [if_neg (by omega)]
            have fin : ∀ (hz : zs.toList.all simple1 = true), SemR E.P VR r (.new (.cells ⟨c⟩ elem) fun b => .pure (.slice (some ⟨b, 0, none⟩) len len))
                (match Instr.fill (fun i => some (i * j.size, j.size)) (zrow zs (len * j.size)) ps'.toList with
                  | some cells => do pure (.slice (some (← newRow elem cells)) len len)
                  | x => stuck "buildSlice: a part of the wrong size") := fun hz => by
              have hrow : VRs r ⟨(zrow zs (len * j.size)).toList⟩ ⟨(zrow zs (len * j.size)).toList⟩ := VRs.simple (by simpa using zrow_simple hz _)
              obtain ⟨c', h1, h2⟩ := xfill_R _ ps ps'.toList _ _ c hp hrow hc
              simp only [Array.toArray_toList] at h1
              rw [h1]
              exact .new (cells_OR h2) fun _ _ _ _ hb => .pure (AR.slice (x := 0) ⟨_, 0, hb, rfl⟩ (fun b' y hy => by
                rw [hb] at hy
                injection hy with hy
                injection hy with _ hy
                exact hy.symm) rfl)
            by_cases h0 : len * j.size = 0
            · rw [h0] at hzs
              injection hzs with hzs
              subst hzs
              rw [if_pos h0]
              exact fin rfl
            · rw [beq_dec, decide_eq_false h0] at hzs
              rw [if_neg h0]
              dsimp only at hzs
              split at hzs
              · rename_i z hz
                injection hzs with hzs
                subst hzs
                refine semZero ok hj hz fun hs => ?_
                exact fin (simple_cells hs)
              · cases hzs
          · exact .halt
        · exact .halt
      · exact .halt
    · exact .halt
  · exact .halt
theorem wrap_nat {c : Nat} (h : c ≤ 4611686018427387904) : IntKind.i64.wrap (c : Int) = c := by
  rw [wrapEq]
  exact wrap64_in (by omega) (by omega)
def xmakeSlice (E : Env) (t : TypeId) (len cap : Value) : Sem Value :=
  match E.ty.get t, nat? len, nat? cap with
  | some i, some l, some c => match i.under with
    | .slice elem => match E.ty.get elem with
      | some j => match Nat.ble l c, Nat.ble c 4611686018427387904, Nat.ble (c * j.bytes) 140737488355328, (match Nat.beq (c * j.size) 0 with | true => some #[] | false => match j.zero with | some z => some z.cells | none => none) with
        | true, true, true, some zs => .new (.cells (zrow zs (c * j.size)) elem) fun b => .pure (.slice (some ⟨b, 0, none⟩) l c)
        | _, _, _, _ => no
      | none => no
    | _ => no
  | _, _, _ => no
theorem xmakeSlice_R (ok : E.Ok) (t : TypeId) {len len' cap cap' : Value} (hl : VR r len len') (hc : VR r cap cap') : SemR E.P VR r (xmakeSlice E t len cap) (Instr.makeSlice t len' cap') := by
  unfold xmakeSlice
  split
  · rename_i i l c hi hnl hnc
    obtain ⟨k1, rfl, _⟩ := nat_R hl hnl
    obtain ⟨k2, rfl, _⟩ := nat_R hc hnc
    split
    · rename_i elem hu
      split
      · rename_i j hj
        split
        · rename_i zs h1 h2 h3 hzs
          have h1 := Nat.le_of_ble_eq_true h1
          have h2 := Nat.le_of_ble_eq_true h2
          have h3 := Nat.le_of_ble_eq_true h3
          unfold Instr.makeSlice
          refine semUnd ok hi ?_
          rw [hu]
          dsimp only
          show SemR E.P VR r _ (typeInfo elem >>= _)
          refine semInfo ok hj fun ji hsz hby hz0 => ?_
          rw [wrap_nat (c := l) (by omega), wrap_nat h2]
          have hb : ¬ (((c : Int) < 0 || decide ((ji.bytes : Int) * c > 2 ^ 48)) = true) := by
            rw [hby]
            have : ((j.bytes : Int) * c) = ((c * j.bytes : Nat) : Int) := by rw [Nat.mul_comm]; simp
            rw [this]
            simp
            omega
          have hcond : ¬ ((((c : Int) < 0 || decide ((ji.bytes : Int) * c > 2 ^ 48)) || decide ((l : Int) < 0) || decide ((l : Int) > c)) = true) := by
            simp only [Bool.or_eq_true, decide_eq_true_eq] at hb ⊢
            omega
          rw [if_neg (by simpa using hcond)]
          rw [Int.toNat_natCast, Int.toNat_natCast, hby]
          unfold askRoom roomBytes
          rw [if_neg (by omega)]
          show SemR E.P VR r _ (sizeOf elem >>= _)
          refine semSize ok hj ?_
          have fin : zs.toList.all simple1 = true → SemR E.P VR r (.new (.cells (zrow zs (c * j.size)) elem) fun b => .pure (.slice (some ⟨b, 0, none⟩) l c)) (do
              let a ← newRow elem (zrow zs (c * j.size))
              pure (.slice (some a) l c)) := fun hz =>
            .new (cells_OR (VRs.simple (zrow_simple hz _))) fun _ _ _ _ hb => .pure (AR.slice (x := 0) ⟨_, 0, hb, rfl⟩ (fun b' y hy => by
                rw [hb] at hy
                injection hy with hy
                injection hy with _ hy
                exact hy.symm) rfl)
          by_cases h0 : c * j.size = 0
          · rw [h0] at hzs
            injection hzs with hzs
            subst hzs
            rw [if_pos h0]
            exact fin rfl
          · rw [beq_dec, decide_eq_false h0] at hzs
            rw [if_neg h0]
            dsimp only at hzs
            split at hzs
            · rename_i z hz
              injection hzs with hzs
              subst hzs
              refine semZero ok hj hz fun hs => ?_
              exact fin (simple_cells hs)
            · cases hzs
        · exact .halt
      · exact .halt
    · exact .halt
  · exact .halt

/-- Both sides come to the same. -/
abbrev Eqr {α : Type} : Ren → α → α → Prop := fun _ x y => x = y
/-- Two addresses. -/
def xsame (a b : Addr) : Sem Bool :=
  match Nat.beq a.block b.block with
  | true => .pure (Nat.beq a.off b.off && decide (a.spot = b.spot))
  | false => .frozen a fun _ => .frozen b fun _ => sameAddr a b
theorem viewAt_R {P : Program} {b b' x : Nat} (h : r b = some (b', x)) : SemR P (fun _ u v => u = v) r (viewAt b) (viewAt b') := by
  unfold viewAt
  refine .shape h fun t => ?_
  show SemR P _ r (if t.isSome = true then pure none else _) (if t.isSome = true then pure none else _)
  split
  · exact .pure rfl
  · refine .getObj h fun s o o' l ho => ?_
    cases ho with
    | cells => exact .pure rfl
    | iter => exact .pure rfl
    | map => exact .pure rfl
    | miterNo => exact .pure rfl
    | miter => exact .pure rfl
theorem noView_R {P : Program} {a a' : Addr} (h : AR r a a') : SemR P (fun _ u v => u = v) r (noView a) (noView a') := by
  obtain ⟨b', x, h1, rfl⟩ := h
  unfold noView
  refine SemR.bind' (viewAt_R h1) fun s u v l e => ?_
  subst e
  split
  · exact .halt
  · exact .pure rfl
theorem stringish_R {P : Program} {a a' : Addr} (ha : AR r a a') : SemR P (fun _ u v => u = v) r (stringish a) (stringish a') := by
  unfold stringish
  refine .frozen ha fun t => ?_
  cases t with
  | true => exact .pure rfl
  | false =>
    obtain ⟨c, x, h1, rfl⟩ := ha
    refine .shape h1 fun t => ?_
    cases t with
    | none => exact .pure rfl
    | some p => exact .frozen ⟨c, x, h1, rfl⟩ fun t => .pure rfl
theorem mayBeOne_R {P : Program} {a a' b b' : Addr} (ha : AR r a a') (hb : AR r b b') : SemR P (fun _ u v => u = v) r (mayBeOne a b) (mayBeOne a' b') := by
  unfold mayBeOne
  refine SemR.bind' (stringish_R ha) fun s x y l e => ?_
  subst e
  refine SemR.bind' (stringish_R (hb.le l)) fun s2 x2 y2 l2 e => ?_
  subst e
  obtain ⟨c, z, h1, rfl⟩ := ha.le (Ren.le_trans l l2)
  obtain ⟨c2, z2, h2, rfl⟩ := hb.le (Ren.le_trans l l2)
  exact .shape h1 fun t => .shape h2 fun t => .pure rfl
theorem xsame_R {P : Program} {a a' b b' : Addr} (ha : AR r a a') (hb : AR r b b') : SemR P (fun _ u v => u = v) r (xsame a b) (sameAddr a' b') := by
  unfold xsame
  split
  · rename_i he
    have he := Nat.eq_of_beq_eq_true he
    obtain ⟨c, z, h1, rfl⟩ := ha
    obtain ⟨c2, z2, h2, rfl⟩ := hb
    rw [he, h2] at h1
    injection h1 with h1
    injection h1 with h1 _
    subst h1
    unfold sameAddr
    rw [if_pos (by simp)]
    refine .pure ?_
    obtain ⟨ab, ao, asp⟩ := a
    obtain ⟨bb, bo, bsp⟩ := b
    simp only at he
    subst he
    rw [beq_dec]
    show _ = decide (_ = _)
    by_cases e1 : ao = bo <;> by_cases e2 : asp = bsp <;> simp [e1, e2]
  · rename_i he
    have he := Nat.ne_of_beq_eq_false he
    refine .apart ha hb he fun hn x y => ?_
    unfold sameAddr
    rw [if_neg (by simpa using he), if_neg (by simpa using hn)]
    refine .frozen ha fun t => .frozen hb fun t2 => ?_
    show SemR P _ r (if (t && t2) = true then _ else _) (if (t && t2) = true then _ else _)
    split
    · exact .halt
    · refine SemR.bind' (noView_R ha) fun s _ _ l _ => SemR.bind' (noView_R (hb.le l)) fun s2 _ _ l2 _ => ?_
      refine SemR.bind' (mayBeOne_R (ha.le (Ren.le_trans l l2)) (hb.le (Ren.le_trans l l2))) fun s3 x y l3 e => ?_
      subst e
      split
      · exact .choose (.pure rfl)
      · exact .pure rfl

/-- Structs, field by field. -/
def xeqF (E : Env) (eq : TypeId → Value → Value → Sem Bool) (xs ys : Array Value) : List (Nat × Nat) → Sem Bool
  | [] => .pure true
  | (o, t) :: l => (xpart E t xs o).bind fun a => (xpart E t ys o).bind fun b => (eq t a b).bind fun z => cond z (xeqF E eq xs ys l) (.pure false)
def xeqA (E : Env) (eq : TypeId → Value → Value → Sem Bool) (xs ys : Array Value) (t n : Nat) : List Nat → Sem Bool
  | [] => .pure true
  | i :: l => (xpart E t xs (i * n)).bind fun a => (xpart E t ys (i * n)).bind fun b => (eq t a b).bind fun z => cond z (xeqA E eq xs ys t n l) (.pure false)
def xequal (E : Env) : Nat → TypeId → Value → Value → Sem Bool
  | 0, _, _, _ => no
  | d + 1, t, x, y =>
    match E.ty.get t with
    | none => no
    | some i => match i.under, x, y with
      | .bool, .bool a, .bool b => .pure (a == b)
      | .int _, .int k a, .int k' b => match decide (k = k') with | true => .pure (a == b) | false => no
      | .float _, .float k a, .float k' b => match decide (k = k') with | true => .pure (Op.floatEq k a b) | false => no
      | .complex _, .complex k a b, .complex k' a' b' => match decide (k = k') with | true => .pure (Op.floatEq k a a' && Op.floatEq k b b') | false => no
      | .string, .string a, .string b => .pure (a == b)
      | .pointer _, .pointer none, .pointer none => .pure true
      | .pointer _, .pointer none, .pointer (some _) => .pure false
      | .pointer _, .pointer (some _), .pointer none => .pure false
      | .pointer e, .pointer (some a), .pointer (some b) => match E.ty.get e with
        | some j => match Nat.beq j.size 0 with
          | false => xsame a b
          | true => no
        | none => no
      | .interface _, .nilIface, .nilIface => .pure true
      | .interface _, .nilIface, .iface _ _ => .pure false
      | .interface _, .iface _ _, .nilIface => .pure false
      | .struct _, .agg xs, .agg ys => match i.stood with
        | false => xeqF E (xequal E d) xs ys i.cmp
        | true => no
      | .array len e, .agg xs, .agg ys => match E.ty.get e with
        | some j => xeqA E (xequal E d) xs ys e j.size (List.range' 0 len 1)
        | none => no
      | .slice _, .slice none _ _, .slice none _ _ => .pure true
      | .slice _, .slice none _ _, .slice (some _) _ _ => .pure false
      | .slice _, .slice (some _) _ _, .slice none _ _ => .pure false
      | .map _ _, .map none, .map none => .pure true
      | .map _ _, .map none, .map (some _) => .pure false
      | .map _ _, .map (some _), .map none => .pure false
      | .func _ _ _, .nilFunc, .nilFunc => .pure true
      | .func _ _ _, .nilFunc, .func _ _ _ => .pure false
      | .func _ _ _, .func _ _ _, .nilFunc => .pure false
      | _, _, _ => no
theorem cmpF_yes {f : Field} {fs : List Field} (h : f.name ≠ "_") : cmpF (f :: fs) = (f.offset, f.type) :: cmpF fs := by
  unfold cmpF
  rw [List.filterMap_cons, if_pos h]
theorem cmpF_no {f : Field} {fs : List Field} (h : ¬ f.name ≠ "_") : cmpF (f :: fs) = cmpF fs := by
  unfold cmpF
  rw [List.filterMap_cons, if_neg h]
theorem xeqF_R (ok : E.Ok) {eq eq' : TypeId → Value → Value → Sem Bool} (heq : ∀ s t x x' y y', VR s x x' → VR s y y' → SemR E.P (fun _ u v => u = v) s (eq t x y) (eq' t x' y')) {xs xs' ys ys' : Array Value} (body : Field → Option Bool × Unit → Sem (ForInStep (Option Bool × Unit)))
    (hb1 : ∀ f s, f.name ≠ "_" → body f s = (do
        let a ← part f.type xs' f.offset
        let b ← part f.type ys' f.offset
        let z ← eq' f.type a b
        if (!z) = true then pure (ForInStep.done (some false, ())) else pure (ForInStep.yield (none, ()))))
    (hb2 : ∀ f s, ¬ f.name ≠ "_" → body f s = pure (ForInStep.yield (none, ()))) (kont : Option Bool × Unit → Sem Bool) (hk1 : ∀ b, kont (some b, ()) = pure b) (hk0 : kont (none, ()) = pure true) : ∀ (fs : List Field) (s : Ren), VRs s xs xs' → VRs s ys ys' →
    SemR E.P (fun _ u v => u = v) s (xeqF E eq xs ys (cmpF fs)) (forIn fs (none, ()) body >>= kont)
  | [], s, _, _ => by
    rw [List.forIn_nil, pure_bind, hk0]
    exact .pure rfl
  | f :: fs, s, hx, hy => by
    rw [List.forIn_cons]
    by_cases hn : f.name ≠ "_"
    · rw [cmpF_yes hn, hb1 f _ hn]
      simp only [bind_assoc]
      refine SemR.bind' (xpart_R ok f.type hx f.offset) fun s1 a a' l1 ha => ?_
      refine SemR.bind' (xpart_R ok f.type (hy.le l1) f.offset) fun s2 b b' l2 hb => ?_
      refine SemR.bind' (heq s2 f.type a a' b b' (ha.le l2) hb) fun s3 z z' l3 hz => ?_
      subst hz
      cases z with
      | true =>
        simp only [Bool.not_true, Bool.false_eq_true, if_false, pure_bind]
        exact xeqF_R ok heq body hb1 hb2 kont hk1 hk0 fs s3 (hx.le (Ren.le_trans l1 (Ren.le_trans l2 l3))) (hy.le (Ren.le_trans l1 (Ren.le_trans l2 l3)))
      | false =>
        simp only [Bool.not_false, if_true, pure_bind, hk1]
        exact .pure rfl
    · rw [cmpF_no hn, hb2 f _ hn]
      simp only [pure_bind]
      exact xeqF_R ok heq body hb1 hb2 kont hk1 hk0 fs s hx hy
theorem xeqA_R (ok : E.Ok) {eq eq' : TypeId → Value → Value → Sem Bool} (heq : ∀ s t x x' y y', VR s x x' → VR s y y' → SemR E.P (fun _ u v => u = v) s (eq t x y) (eq' t x' y')) {xs xs' ys ys' : Array Value} (t n : Nat) (kont : Option Bool × Unit → Sem Bool) (hk1 : ∀ b, kont (some b, ()) = pure b) (hk0 : kont (none, ()) = pure true) : ∀ (fs : List Nat) (s : Ren), VRs s xs xs' → VRs s ys ys' →
    SemR E.P (fun _ u v => u = v) s (xeqA E eq xs ys t n fs) (forIn fs (none, ()) (fun i _ => do
        let a ← part t xs' (i * n)
        let b ← part t ys' (i * n)
        let z ← eq' t a b
        if (!z) = true then pure (ForInStep.done (some false, ())) else pure (ForInStep.yield (none, ()))) >>= kont)
  | [], s, _, _ => by
    rw [List.forIn_nil, pure_bind, hk0]
    exact .pure rfl
  | f :: fs, s, hx, hy => by
    rw [List.forIn_cons]
    simp only [bind_assoc]
    refine SemR.bind' (xpart_R ok t hx _) fun s1 a a' l1 ha => ?_
    refine SemR.bind' (xpart_R ok t (hy.le l1) _) fun s2 b b' l2 hb => ?_
    refine SemR.bind' (heq s2 t a a' b b' (ha.le l2) hb) fun s3 z z' l3 hz => ?_
    subst hz
    cases z with
    | true =>
      simp only [Bool.not_true, Bool.false_eq_true, if_false, pure_bind]
      exact xeqA_R ok heq t n kont hk1 hk0 fs s3 (hx.le (Ren.le_trans l1 (Ren.le_trans l2 l3))) (hy.le (Ren.le_trans l1 (Ren.le_trans l2 l3)))
    | false =>
      simp only [Bool.not_false, if_true, pure_bind, hk1]
      exact .pure rfl
end
end Go.Proofs.Ytihlhmphgjlngaa
