/-
  Running a program by reckoning, 13: one operation in a frame; a region in the order of its text.
  Nothing here speaks of the program.
-/
import Derived.Test.YtihlhmphgjlngaaEc
import Derived.Orders
namespace Go.Proofs.Ytihlhmphgjlngaa
open Go.RowKit

def tv (T : Tb Value) (t : Nat) : Value := match T.get t with | some v => v | none => undef
def GR (gl : Nat) (r : Ren) : Prop := ∀ g, g < gl → ∃ x, r g = some (g, x)
theorem GR.le {gl : Nat} {r s : Ren} (h : GR gl r) (l : r.le s) : GR gl s := fun g hg => let ⟨x, hx⟩ := h g hg; ⟨x, l _ _ hx⟩
/-- A frame of the reckoning, and the machine's. -/
structure SR (P : Program) (gl N : Nat) (r : Ren) (T : Tb Value) (a : Act) (W : AW) (w : World) : Prop where
  sz : a.tmps.size = N
  tm : ∀ t, VR r (tv T t) (a.tmps.getD t undef)
  gr : GR gl r
  wr : WR P r W w
  df : a.defers = []
theorem EvR.of {gl : Nat} {r : Ren} {T : Tb Value} {a : Act} (tm : ∀ t, VR r (tv T t) (a.tmps.getD t undef)) (gr : GR gl r) : EvR r (aev gl T) a.eval := by
  intro x v hv
  cases x with
  | tmp t =>
    injection hv with hv
    subst hv
    exact tm t
  | const c =>
    simp only [aev] at hv
    cases hs : simple c with
    | true =>
      rw [hs] at hv
      injection hv with hv
      subst hv
      exact .simple hs
    | false => rw [hs] at hv; cases hv
  | global g =>
    simp only [aev] at hv
    cases hs : Nat.ble (g + 1) gl with
    | true =>
      rw [hs] at hv
      injection hv with hv
      subst hv
      obtain ⟨x, hx⟩ := gr g (Nat.le_of_ble_eq_true hs)
      exact .ptr hx
    | false => rw [hs] at hv; cases hv
  | func f =>
    injection hv with hv
    subst hv
    exact .simple1 rfl
theorem VR.undef (r : Ren) : VR r undef undef := .tuple rfl (VRs.nil r).2
theorem tm_put {r : Ren} {T : Tb Value} {a : Act} {N d : Nat} {v v' : Value} (sz : a.tmps.size = N) (tm : ∀ t, VR r (tv T t) (a.tmps.getD t undef)) (hd : d < N) (hv : VR r v v') :
    (a.put (some d) v').tmps.size = N ∧ ∀ t, VR r (tv (T.set d (some v)) t) ((a.put (some d) v').tmps.getD t undef) := by
  refine ⟨by simp [Act.put, sz], fun t => ?_⟩
  unfold tv
  rw [Tb.get_set]
  by_cases e : t = d
  · subst e
    rw [if_pos rfl]
    have : (a.put (some t) v').tmps.getD t Go.undef = v' := by simp [Act.put, Array.getD_eq_getD_getElem?, sz, hd]
    rw [this]
    exact hv
  · rw [if_neg e]
    have : (a.put (some d) v').tmps.getD t Go.undef = a.tmps.getD t Go.undef := by
      simp [Act.put, Array.getD_eq_getD_getElem?, Array.getElem?_setIfInBounds_ne (Ne.symm e)]
    rw [this]
    exact tm t
def putA (N : Nat) (T : Tb Value) (d : Option Tmp) (v : Value) : Option (Tb Value) :=
  match d with
  | some d => cond (Nat.ble (d + 1) N) (some (T.set d (some v))) none
  | none => some T
theorem SR.put {P : Program} {gl N : Nat} {r r1 : Ren} {T T1 : Tb Value} {a : Act} {W W1 : AW} {w w1 : World} {d : Option Tmp} {v v' : Value} (h : SR P gl N r T a W w) (l : r.le r1) (hw : WR P r1 W1 w1) (hv : VR r1 v v') (e : putA N T d v = some T1) : SR P gl N r1 T1 (a.put d v') W1 w1 := by
  unfold putA at e
  cases d with
  | none =>
    injection e with e
    subst e
    exact ⟨h.sz, fun t => (h.tm t).le l, h.gr.le l, hw, h.df⟩
  | some d =>
    dsimp only at e
    cases hb : Nat.ble (d + 1) N with
    | false => rw [hb] at e; cases e
    | true =>
      rw [hb] at e
      injection e with e
      subst e
      obtain ⟨h1, h2⟩ := tm_put h.sz (fun t => (h.tm t).le l) (Nat.le_of_ble_eq_true hb) hv
      exact ⟨h1, h2, h.gr.le l, hw, h.df⟩

abbrev CallF := FuncId → Array Value → AW → Option (Value × AW)
def CallOk (P : Program) (gl : Nat) (call : CallF) : Prop := ∀ f args W v W1, call f args W = some (v, W1) → ∀ r args' w, VRs r args args' → GR gl r → WR P r W w →
  Calls P f args' w fun e w1 => ∃ r1 v', e = .returned v' ∧ VR r1 v v' ∧ WR P r1 W1 w1 ∧ Fr r W w r1 W1 w1
def appOf : Op → Option (Array TypeId × Operand × Operand)
  | .call { callee := .builtin .append, args := ⟨[s, x]⟩, argTypes } => some (argTypes, s, x)
  | _ => none
/-- One operation that is wanted. -/
def astep (E : Env) (call : CallF) (ev : Operand → Option Value) (o : Oper) (W : AW) : Option (Value × AW) :=
  match appOf o.op with
  | some (ts, s, x) => match ev s, ev x with
    | some s, some x => aappend E ts s x W
    | _, _ => none
  | none => match arun E.P (xop E ev o) W with
    | some (.value v, W1) => some (v, W1)
    | some (.skip, W1) => some (undef, W1)
    | some (.enter f args, W1) => call f args W1
    | _ => none
section
variable {E : Env} {gl : Nat}
theorem astep_R (ok : E.Ok) {call : CallF} (hcall : CallOk E.P gl call) {o : Oper} {ev : Operand → Option Value} {W W1 : AW} {v : Value} (e : astep E call ev o W = some (v, W1)) {r : Ren} {a : Act} {w : World} (tm : EvR r ev a.eval) (gr : GR gl r) (hw : WR E.P r W w)
    {K : Act → World → Prop} {Q : Exit → Act → World → Prop} (hK : ∀ r1 v' w1, VR r1 v v' → WR E.P r1 W1 w1 → Fr r W w r1 W1 w1 → K (a.put o.dst v') w1) : o.wp E.P a w K Q := by
  unfold astep at e
  split at e
  · rename_i ts s x happ
    split at e
    · rename_i s0 x0 hs hx
      unfold appOf at happ
      split at happ
      · rename_i s1 x1 ts1 hop
        injection happ with happ
        injection happ with e1 happ
        injection happ with e2 e3
        subst e1 e2 e3
        obtain ⟨r1, v', w1, h1, h2, h3, h4⟩ := aappend_R ok (tm _ _ hs) (tm _ _ hx) hw e o.type
        unfold Oper.wp
        have : (execOp a.eval o).run E.P w = .ok (.value v') w1 := by
          unfold execOp
          simp only [hop, resolve, invoke, builtin, Sem.run_bind, Sem.run_pure, Result.andThen_ok, List.map_toArray, List.map_cons, List.map_nil, h1]
        rw [this]
        exact hK r1 v' w1 h2 h3 h4
      · cases happ
    · cases e
  · split at e
    · rename_i v0 W0 hrun
      injection e with e
      injection e with e1 e2
      subst e1 e2
      obtain ⟨r1, n', w1, h1, h2, h3, h4⟩ := (xop_R ok tm o).run W w hw _ _ hrun
      cases h2 with
      | value hv =>
        unfold Oper.wp
        rw [h1]
        exact hK r1 _ w1 hv h3 h4
    · rename_i W0 hrun
      injection e with e
      injection e with e1 e2
      subst e1 e2
      obtain ⟨r1, n', w1, h1, h2, h3, h4⟩ := (xop_R ok tm o).run W w hw _ _ hrun
      cases h2
      unfold Oper.wp
      rw [h1]
      exact hK r1 _ w1 (VR.undef r1) h3 h4
    · rename_i f args W0 hrun
      obtain ⟨r1, n', w1, h1, h2, h3, h4⟩ := (xop_R ok tm o).run W w hw _ _ hrun
      cases h2 with
      | enter hargs =>
        unfold Oper.wp
        rw [h1]
        refine (hcall f args W0 v W1 e r1 _ w1 hargs (gr.le h4.le) h3).mono ?_
        rintro _ w2 ⟨r2, v', rfl, k1, k2, k3⟩
        exact hK r2 v' w2 k1 k2 (h4.trans k3)
    · cases e
def isB (want : Bool) : Value → Bool
  | .bool b => b == want
  | _ => false
/-- Is an operation wanted? -/
def wantedA (T : Tb Value) (N : Nat) (all : List Oper) (o : Oper) : Option Bool :=
  match o.guard with
  | none => some true
  | some (j, want) => match nthL all j with
    | some o' => match o'.dst with
      | some d => cond (Nat.ble (d + 1) N) (some (isB want (tv T d))) none
      | none => some false
    | none => some false
theorem wanted_R {r : Ren} {T : Tb Value} {a : Act} {N : Nat} {all : List Oper} {ops : Array Oper} {o : Oper} {b : Bool} (hall : all = ops.toList) (sz : a.tmps.size = N) (tm : ∀ t ∈ o.looksAt ops, VR r (tv T t) (a.tmps.getD t undef)) (e : wantedA T N all o = some b) :
    Region.wanted o (yielded ops a.tmps) = b := by
  subst hall
  unfold wantedA at e
  unfold Region.wanted
  cases hg : o.guard with
  | none =>
    rw [hg] at e
    injection e
  | some gw =>
    obtain ⟨j, want⟩ := gw
    rw [hg] at e
    dsimp only at e ⊢
    rw [nthL_eq] at e
    unfold yielded
    have ho : ops[j]? = ops.toList[j]? := by simp
    rw [ho]
    cases hj : ops.toList[j]? with
    | none =>
      rw [hj] at e
      injection e with e
    | some o' =>
      rw [hj] at e
      dsimp only at e
      rw [Option.bind_some]
      cases hd : o'.dst with
      | none =>
        rw [hd] at e
        injection e with e
      | some d =>
        rw [hd] at e
        dsimp only at e
        cases hb : Nat.ble (d + 1) N with
        | false => rw [hb] at e; cases e
        | true =>
          rw [hb] at e
          injection e with e
          have hlt : d < a.tmps.size := by rw [sz]; exact Nat.le_of_ble_eq_true hb
          have h1 := tm d (by
            unfold Oper.looksAt
            rw [List.mem_append]
            right
            rw [hg]
            dsimp only
            rw [ho, hj, Option.bind_some, hd]
            simp)
          rw [Option.bind_some, Array.getElem?_eq_getElem hlt]
          rw [Array.getD_eq_getD_getElem?, Array.getElem?_eq_getElem hlt, Option.getD_some] at h1
          generalize a.tmps[d] = q at h1
          generalize tv T d = p at h1 e
          cases h1 <;> (unfold isB at e; subst e) <;> first
            | rfl
            | (rename_i b0; cases b0 <;> cases want <;> rfl)
/-- Operations, one behind the other. -/
def aops (E : Env) (call : CallF) (gl N : Nat) (all : List Oper) : List Oper → Tb Value → AW → Option (Tb Value × AW)
  | [], T, W => some (T, W)
  | o :: l, T, W =>
    match wantedA T N all o with
    | some true => match astep E call (aev gl T) o W with
      | some (v, W1) => match putA N T o.dst v with
        | some T1 => aops E call gl N all l T1 W1
        | none => none
      | none => none
    | some false => match putA N T o.dst undef with
      | some T1 => aops E call gl N all l T1 W
      | none => none
    | none => none
theorem put_defers (a : Act) (d : Option Tmp) (v : Value) : (a.put d v).defers = a.defers := by cases d <;> rfl
theorem aops_R (ok : E.Ok) {call : CallF} (hcall : CallOk E.P gl call) {N : Nat} {ops : Array Oper} : ∀ (l : List Oper) (T : Tb Value) (W : AW) (T1 : Tb Value) (W1 : AW), aops E call gl N ops.toList l T W = some (T1, W1) →
    ∀ (r : Ren) (a : Act) (w : World) (Q : Exit → Act → World → Prop), SR E.P gl N r T a W w → (∀ r1 a1 w1, SR E.P gl N r1 T1 a1 W1 w1 → Fr r W w r1 W1 w1 → Q .normal a1 w1) → wpList E.P ops Q l a w
  | [], T, W, T1, W1, e, r, a, w, Q, h, hQ => by
    injection e with e
    injection e with e1 e2
    subst e1 e2
    exact hQ r a w h (Fr.refl _ _ _)
  | o :: l, T, W, T1, W1, e, r, a, w, Q, h, hQ => by
    simp only [aops] at e
    split at e
    · rename_i hwant
      split at e
      · rename_i v W2 hst
        split at e
        · rename_i T2 hput
          unfold wpList
          rw [if_pos (wanted_R rfl h.sz (fun t _ => h.tm t) hwant)]
          refine .inl (astep_R ok hcall hst (EvR.of h.tm h.gr) h.gr h.wr fun r1 v' w1 hv hw hf => ?_)
          exact aops_R ok hcall l T2 W2 T1 W1 e r1 _ w1 Q (h.put hf.le hw hv hput) fun r2 a2 w2 h2 hf2 => hQ r2 a2 w2 h2 (hf.trans hf2)
        · cases e
      · cases e
    · rename_i hwant
      split at e
      · rename_i T2 hput
        unfold wpList
        rw [if_neg (by rw [wanted_R rfl h.sz (fun t _ => h.tm t) hwant]; simp)]
        exact aops_R ok hcall l T2 W T1 W1 e r _ w Q (h.put (Ren.le_refl r) h.wr (VR.undef r) hput) hQ
      · cases e
    · cases e
end
end Go.Proofs.Ytihlhmphgjlngaa
