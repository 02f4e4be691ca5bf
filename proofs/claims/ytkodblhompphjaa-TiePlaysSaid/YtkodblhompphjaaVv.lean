/- Running a program by reckoning, 15: what a region's operations come to in the order of the text, and the checks by which that is so in every order.
  Nothing here speaks of the program. -/
import Derived.Test.YtkodblhompphjaaVu
namespace Go.Proofs.Ytkodblhompphjaa
open Go.RowKit

theorem evL_congr {ev ev' : Operand → Option Value} : ∀ {l : List Operand}, (∀ x ∈ l, ev x = ev' x) → evL ev l = evL ev' l
  | [], _ => rfl
  | x :: l, h => by
    simp only [evL]
    rw [h x List.mem_cons_self, evL_congr fun y hy => h y (List.mem_cons_of_mem _ hy)]
theorem evP_congr {ev ev' : Operand → Option Value} : ∀ {l : List (Nat × Operand)}, (∀ x ∈ l.map (·.2), ev x = ev' x) → evP ev l = evP ev' l
  | [], _ => rfl
  | (i, x) :: l, h => by
    simp only [evP]
    rw [h x (by simp), evP_congr fun y hy => h y (by simp only [List.map_cons]; exact List.mem_cons_of_mem _ hy)]
theorem evO_congr {ev ev' : Operand → Option Value} {x : Option Operand} (h : ∀ y, x = some y → ev y = ev' y) : evO ev x = evO ev' x := by
  cases x with
  | none => rfl
  | some x => simp only [evO, h x rfl]
theorem xop_congr {E : Env} {ev ev' : Operand → Option Value} (o : Oper) (h : ∀ x ∈ o.op.operands, ev x = ev' x) : xop E ev o = xop E ev' o := by
  obtain ⟨dst, op, type, pos, after, guard⟩ := o
  cases op <;> simp only [Op.operands] at h <;> simp only [xop]
  case build t ps => rw [evP_congr fun x hx => h x (by simpa using hx)]
  case buildSlice t n ps => rw [evP_congr fun x hx => h x (by simpa using hx)]
  case makeFunc fn first captured =>
    rw [evL_congr fun x hx => h x (by simp at hx ⊢; exact .inl hx), evL_congr (l := captured.toList) fun x hx => h x (by simp at hx ⊢; exact .inr hx)]
  case slice t x lo hi mx =>
    rw [h x (by simp), evO_congr (x := lo) fun y hy => h y (by subst hy; simp), evO_congr (x := hi) fun y hy => h y (by subst hy; simp), evO_congr (x := mx) fun y hy => h y (by subst hy; simp)]
  case makeMap t hint =>
    cases hint with
    | none => rfl
    | some x =>
      dsimp only
      rw [h x (by simp)]
  case call c =>
    obtain ⟨callee, args, ts⟩ := c
    simp only [xcall]
    rw [evL_congr fun x hx => h x (by simp [Call.operands] at hx ⊢; exact .inr hx)]
    cases callee with
    | value f =>
      dsimp only
      rw [h f (by simp [Call.operands])]
    | invoke r m => rfl
    | builtin b => rfl
  all_goals (first | rfl | (simp_all; done))
theorem astep_congr {E : Env} {call : CallF} {ev ev' : Operand → Option Value} (o : Oper) (W : AW) (h : ∀ x ∈ o.op.operands, ev x = ev' x) : astep E call ev o W = astep E call ev' o W := by
  unfold astep
  split
  · rename_i ts s x happ
    unfold appOf at happ
    split at happ
    · rename_i s1 x1 ts1 hop
      injection happ with happ
      injection happ with e1 happ
      injection happ with e2 e3
      subst e1 e2 e3
      rw [hop] at h
      rw [h s1 (by simp [Op.operands, Call.operands]), h x1 (by simp [Op.operands, Call.operands])]
    · cases happ
  · rw [xop_congr o h]

/-- What an operation does: nothing but a value; a block made; something read; cells stored; all else. -/
inductive KdR where
  | p (v : Value)
  | a (ob : Obj) (v : Value)
  | q (v : Value)
  | s (a : Addr) (vs : List Value)
  | h (v : Value) (W1 : AW)
def KdR.val : KdR → Value
  | .p v | .a _ v | .q v | .h v _ => v
  | .s _ _ => undef
abbrev Rc := Tb Value × KdR
def hsOf : List Rc → List (Nat × AW)
  | [] => []
  | (_, .h _ W1) :: rs => (rs.length, W1) :: hsOf rs
  | (_, .p _) :: rs => hsOf rs
  | (_, .a _ _) :: rs => hsOf rs
  | (_, .q _) :: rs => hsOf rs
  | (_, .s _ _) :: rs => hsOf rs
def curW (W0 : AW) : List (Nat × AW) → AW
  | [] => W0
  | (_, W) :: _ => W
def addR (W : AW) (base : Nat) (m : Nat → Bool) : List Rc → AW
  | [] => W
  | (_, .a ob _) :: rs => cond (m rs.length) (match (addR W base m rs).get (base + rs.length) with | some _ => addR W base m rs | none => (addR W base m rs).set (base + rs.length) (some (ob, false))) (addR W base m rs)
  | (_, .p _) :: rs => addR W base m rs
  | (_, .q _) :: rs => addR W base m rs
  | (_, .h _ _) :: rs => addR W base m rs
  | (_, .s _ _) :: rs => addR W base m rs
def alK : KdR → Option Obj
  | .a ob _ => some ob
  | _ => none
def alAt : List Rc → Nat → Option Obj
  | [], _ => none
  | (_, k) :: rs, i => if i = rs.length then alK k else alAt rs i
theorem addR_next (W : AW) (base : Nat) (m : Nat → Bool) : ∀ rs, (addR W base m rs).next = W.next ∧ (addR W base m rs).ro = W.ro
  | [] => ⟨rfl, rfl⟩
  | (_, .a ob v) :: rs => by
    have ih := addR_next W base m rs
    simp only [addR]
    cases m rs.length with
    | false => exact ih
    | true =>
      simp only [cond_true]
      split
      · exact ih
      · exact ih
  | (_, .p _) :: rs => addR_next W base m rs
  | (_, .q _) :: rs => addR_next W base m rs
  | (_, .h _ _) :: rs => addR_next W base m rs
  | (_, .s _ _) :: rs => addR_next W base m rs
theorem alAt_ge : ∀ {rs : List Rc} {i : Nat}, rs.length ≤ i → alAt rs i = none
  | [], _, _ => rfl
  | (_, k) :: rs, i, h => by
    simp only [List.length_cons] at h
    simp only [alAt]
    rw [if_neg (by omega), alAt_ge (by omega)]
theorem get_addR (W : AW) (base : Nat) (m : Nat → Bool) : ∀ (rs : List Rc) (k : Nat), (addR W base m rs).get k = match W.get k with
    | some x => some x
    | none => if base ≤ k ∧ m (k - base) = true then (alAt rs (k - base)).map fun ob => (ob, false) else none
  | [], k => by
    simp only [addR, alAt]
    cases W.get k with
    | some x => rfl
    | none => simp
  | (T, kd) :: rs, k => by
    have ih := get_addR W base m rs k
    have other : alK kd = none → (addR W base m ((T, kd) :: rs)) = addR W base m rs → (addR W base m ((T, kd) :: rs)).get k = match W.get k with
        | some x => some x
        | none => if base ≤ k ∧ m (k - base) = true then (alAt ((T, kd) :: rs) (k - base)).map fun ob => (ob, false) else none := fun h1 h2 => by
      rw [h2, ih]
      cases W.get k with
      | some x => rfl
      | none =>
        dsimp only
        by_cases hk : k - base = rs.length
        · simp only [alAt, hk, if_true, h1, alAt_ge (Nat.le_refl _)]
        · simp only [alAt, hk, if_false]
    cases kd with
    | p v => exact other rfl rfl
    | q v => exact other rfl rfl
    | h v W1 => exact other rfl rfl
    | s ad vs => exact other rfl rfl
    | a ob v =>
      simp only [addR]
      have ihn := get_addR W base m rs (base + rs.length)
      rw [show base + rs.length - base = rs.length by omega, alAt_ge (Nat.le_refl _)] at ihn
      cases hm : m rs.length with
      | false =>
        simp only [cond_false]
        rw [ih]
        cases W.get k with
        | some x => rfl
        | none =>
          dsimp only
          by_cases hk : k - base = rs.length
          · rw [hk, hm]
            simp
          · simp only [alAt, hk, if_false]
      | true =>
        simp only [cond_true]
        cases hW : W.get (base + rs.length) with
        | some x =>
          rw [hW] at ihn
          simp only [ihn]
          rw [ih]
          cases hk0 : W.get k with
          | some y => rfl
          | none =>
            dsimp only
            by_cases hk : k - base = rs.length
            · by_cases hb : base ≤ k
              · have : k = base + rs.length := by omega
                rw [this, hW] at hk0
                cases hk0
              · simp [hb]
            · simp only [alAt, hk, if_false]
        | none =>
          rw [hW] at ihn
          have ihn' : (addR W base m rs).get (base + rs.length) = none := by
            rw [ihn]
            simp
          simp only [ihn']
          rw [AW.get_set]
          by_cases hk : k = base + rs.length
          · subst hk
            rw [if_pos rfl, hW]
            simp [alAt, alK, hm]
          · rw [if_neg hk, ih]
            cases hk0 : W.get k with
            | some y => rfl
            | none =>
              dsimp only
              by_cases hb : base ≤ k
              · simp only [alAt, show ¬ k - base = rs.length by omega, if_false]
              · simp [hb]

/-- Cells stored into an object, into a block. -/
def putO : Obj → Nat → List Value → Obj
  | .cells c e fz, off, vs => .cells ⟨putC c.toList off vs⟩ e fz
  | o, _, _ => o
def putW (W : AW) (a : Addr) (vs : List Value) : AW :=
  match W.get a.block with
  | some (o, l) => W.set a.block (some (putO o a.off vs, l))
  | none => W
theorem get_putW (W : AW) (a : Addr) (vs : List Value) (k : Nat) : (putW W a vs).get k = if k = a.block then (W.get k).map fun x => (putO x.1 a.off vs, x.2) else W.get k := by
  unfold putW
  cases hg : W.get a.block with
  | none =>
    dsimp only
    by_cases e : k = a.block
    · subst e; rw [if_pos rfl, hg]; rfl
    · rw [if_neg e]
  | some x =>
    obtain ⟨o, l⟩ := x
    dsimp only
    rw [AW.get_set]
    by_cases e : k = a.block
    · subst e; rw [if_pos rfl, if_pos rfl, hg]; rfl
    · rw [if_neg e, if_neg e]
theorem putW_next (W : AW) (a : Addr) (vs : List Value) : (putW W a vs).next = W.next ∧ (putW W a vs).ro = W.ro := by
  unfold putW
  split <;> exact ⟨rfl, rfl⟩
/-- Stored behind the last of the great ones? -/
def aft : List (Nat × AW) → Nat → Bool
  | [], _ => true
  | (h, _) :: _, j => Nat.ble (h + 1) j
/-- The stores of D, in the text's order. -/
def stR (W : AW) (D : Nat → Bool) : List Rc → AW
  | [] => W
  | (_, .s a vs) :: rs => cond (D rs.length) (putW (stR W D rs) a vs) (stR W D rs)
  | (_, .p _) :: rs => stR W D rs
  | (_, .a _ _) :: rs => stR W D rs
  | (_, .q _) :: rs => stR W D rs
  | (_, .h _ _) :: rs => stR W D rs
theorem stR_next (W : AW) (D : Nat → Bool) : ∀ rs, (stR W D rs).next = W.next ∧ (stR W D rs).ro = W.ro
  | [] => ⟨rfl, rfl⟩
  | (_, .s a vs) :: rs => by
    have ih := stR_next W D rs
    simp only [stR]
    cases D rs.length with
    | false => exact ih
    | true =>
      have h := putW_next (stR W D rs) a vs
      exact ⟨h.1.trans ih.1, h.2.trans ih.2⟩
  | (_, .p _) :: rs => stR_next W D rs
  | (_, .a _ _) :: rs => stR_next W D rs
  | (_, .q _) :: rs => stR_next W D rs
  | (_, .h _ _) :: rs => stR_next W D rs
def stK : KdR → Option (Addr × List Value)
  | .s a vs => some (a, vs)
  | _ => none
def stAt : List Rc → Nat → Option (Addr × List Value)
  | [], _ => none
  | (_, k) :: rs, i => if i = rs.length then stK k else stAt rs i
/-- What the stores of D make of block k's object. -/
def stO (D : Nat → Bool) : List Rc → Nat → Obj → Obj
  | [], _, o => o
  | (_, .s a vs) :: rs, k, o => cond (D rs.length && Nat.beq a.block k) (putO (stO D rs k o) a.off vs) (stO D rs k o)
  | (_, .p _) :: rs, k, o => stO D rs k o
  | (_, .a _ _) :: rs, k, o => stO D rs k o
  | (_, .q _) :: rs, k, o => stO D rs k o
  | (_, .h _ _) :: rs, k, o => stO D rs k o
theorem get_stR (W : AW) (D : Nat → Bool) : ∀ (rs : List Rc) (k : Nat), (stR W D rs).get k = (W.get k).map fun x => (stO D rs k x.1, x.2)
  | [], k => by
    simp only [stR, stO]
    cases W.get k <;> rfl
  | (_, .s a vs) :: rs, k => by
    have ih := get_stR W D rs k
    simp only [stR, stO]
    cases D rs.length with
    | false => exact ih
    | true =>
      simp only [cond_true, Bool.true_and]
      rw [get_putW, ih, beq_dec]
      by_cases e : k = a.block
      · subst e
        simp only [if_true, decide_true, cond_true]
        cases W.get a.block <;> rfl
      · have e' : ¬ a.block = k := fun h => e h.symm
        simp only [e, e', if_false, decide_false, cond_false]
  | (_, .p _) :: rs, k => get_stR W D rs k
  | (_, .a _ _) :: rs, k => get_stR W D rs k
  | (_, .q _) :: rs, k => get_stR W D rs k
  | (_, .h _ _) :: rs, k => get_stR W D rs k
theorem stAt_ge : ∀ {rs : List Rc} {i : Nat}, rs.length ≤ i → stAt rs i = none
  | [], _, _ => rfl
  | (_, k) :: rs, i, h => by
    simp only [List.length_cons] at h
    simp only [stAt]
    rw [if_neg (by omega), stAt_ge (by omega)]
theorem stO_congr {D D' : Nat → Bool} {k : Nat} {o : Obj} : ∀ {rs : List Rc}, (∀ i a vs, i < rs.length → stAt rs i = some (a, vs) → a.block = k → D i = D' i) → stO D rs k o = stO D' rs k o
  | [], _ => rfl
  | (T, kd) :: rs, h => by
    have ih : stO D rs k o = stO D' rs k o := stO_congr fun i a vs hi hs hk => h i a vs (by simp; omega) (by simp only [stAt]; rw [if_neg (by omega)]; exact hs) hk
    cases kd with
    | s a vs =>
      simp only [stO]
      rw [ih, beq_dec]
      by_cases e : a.block = k
      · rw [h rs.length a vs (by simp) (by simp [stAt, stK]) e]
      · simp [e]
    | p v => exact ih
    | q v => exact ih
    | a ob v => exact ih
    | h v W1 => exact ih
/-- None of D's stores lies in block k. -/
theorem stO_none {D : Nat → Bool} {k : Nat} {o : Obj} {rs : List Rc} (h : ∀ i a vs, i < rs.length → stAt rs i = some (a, vs) → a.block = k → D i = false) : stO D rs k o = o := by
  have e := stO_congr (D := D) (D' := fun _ => false) (k := k) (o := o) (rs := rs) h
  rw [e]
  clear e h
  induction rs with
  | nil => rfl
  | cons x rs ih =>
    obtain ⟨T, kd⟩ := x
    cases kd <;> simp only [stO, Bool.false_and, cond_false] <;> exact ih

structure Cx where
  E : Env
  call : CallF
  gl : Nat
  N : Nat
  ol : List Oper
  M : List Nat
  base : Nat
  W0 : AW
/-- Memory when those of D are done, of the great ones older. -/
def wAt (c : Cx) (older : List (Nat × AW)) (D : Nat → Bool) (rs : List Rc) : AW := stR (addR (curW c.W0 older) c.base D rs) (fun i => D i && aft older i) rs
/-- The stores: their numbers, where, how many cells. -/
def stsOf : List Rc → List (Nat × Addr × Nat)
  | [] => []
  | (_, .s a vs) :: rs => (rs.length, a, vs.length) :: stsOf rs
  | (_, .p _) :: rs => stsOf rs
  | (_, .a _ _) :: rs => stsOf rs
  | (_, .q _) :: rs => stsOf rs
  | (_, .h _ _) :: rs => stsOf rs
def stOf (E : Env) (ev : Operand → Option Value) (o : Oper) : Option (Addr × List Value) :=
  match o.op with
  | .store t a x => match ev a, ev x with
    | some v, some u => match adr v, E.ty.get t with
      | some ad, some i => cond (Nat.beq u.cells.toList.length i.size) (some (ad, u.cells.toList)) none
      | _, _ => none
    | _, _ => none
  | _ => none
def farFrom (a : Addr) (n : Nat) (b : Addr) (m : Nat) : Bool := !Nat.beq a.block b.block || Nat.ble (a.off + n) b.off || Nat.ble (b.off + m) a.off
def storeOk (c : Cx) (mj : Nat) (rs : List Rc) (a : Addr) (vs : List Value) : Bool :=
  (match (wAt c (hsOf rs) (Nat.testBit mj) rs).get a.block with
    | some (.cells cs _ (0, 0), _) => Nat.ble (a.off + vs.length) cs.toList.length
    | _ => false) && a.spot.isNone && Nat.ble c.W0.ro a.block && vs.all oneCell && ((hsOf rs).all fun x => Nat.testBit mj x.1) && ((stsOf rs).all fun x => Nat.testBit mj x.1 || farFrom a vs.length x.2.1 x.2.2)
def Cx.mk' (c : Cx) (j : Nat) : Nat := match nthL c.M j with | some m => m | none => 0
def kdOf (c : Cx) (o : Oper) (mj : Nat) (T : Tb Value) (rs : List Rc) : Option KdR :=
  match wantedA T c.N c.ol o with
  | none => none
  | some false => some (.p undef)
  | some true =>
    match appOf o.op, stOf c.E (aev c.gl T) o, xop c.E (aev c.gl T) o with
    | none, none, .pure (.value v) => some (.p v)
    | none, none, .new ob k => match k (c.base + rs.length) with
      | .pure (.value v) => some (.a ob v)
      | _ => none
    | ap, st, s => match (match ap, st with | none, none => arunQ c.E.P s (wAt c (hsOf rs) (Nat.testBit mj) rs) | _, _ => none), (match ap, st with | none, some (a, vs) => cond (storeOk c mj rs a vs) st none | _, _ => none) with
      | some (.value v), _ => some (.q v)
      | _, some (a, vs) => some (.s a vs)
      | _, none => cond (((hsOf rs).all fun x => Nat.testBit mj x.1) && ((stsOf rs).all fun x => Nat.testBit mj x.1 && Nat.beq (Nat.lor (c.mk' x.1) mj) mj)) (match astep c.E c.call (aev c.gl T) o (wAt c (hsOf rs) (Nat.testBit mj) rs) with
        | some (v, W1) => some (.h v W1)
        | none => none) none
def pass (c : Cx) : List Oper → List Nat → List Rc → Tb Value → Option (List Rc × Tb Value)
  | [], _, rs, T => some (rs, T)
  | o :: l, m :: ms, rs, T =>
    match kdOf c o m T rs with
    | some k => match putA c.N T o.dst k.val with
      | some T1 => pass c l ms ((T, k) :: rs) T1
      | none => none
    | none => none
  | _ :: _, [], _, _ => none
def qat (c : Cx) (s : Sem Next) (v : Value) (W : AW) : Bool :=
  match arunQ c.E.P s W with
  | some (.value u) => veq u v
  | _ => false
/-- Memory without the blocks into which some store that stands neither before nor behind j. -/
def poi (mk : Nat → Nat) (j : Nat) (W : AW) : List (Nat × Addr × Nat) → AW
  | [] => W
  | (i, a, _) :: l => cond (Nat.testBit (mk j) i || Nat.testBit (mk i) j) (poi mk j W l) ((poi mk j W l).set a.block none)
def qwin (c : Cx) (rs : List Rc) (j : Nat) (s : Sem Next) (v : Value) : List (Nat × AW) → Bool
  | [] => qat c s v (poi c.mk' j (wAt c [] (Nat.testBit (c.mk' j)) rs) (stsOf rs))
  | (h, W) :: l => (((h, W) :: l).any (fun x => Nat.testBit (c.mk' x.1) j) || qat c s v (poi c.mk' j (wAt c ((h, W) :: l) (Nat.testBit (c.mk' j)) rs) (stsOf rs))) && (cond (Nat.testBit (c.mk' j) h) true (qwin c rs j s v l))
def qall (c : Cx) (full : List Rc) : List Rc → Bool
  | [] => true
  | (T, .q v) :: t => (match nthL c.ol t.length with | some o => qwin c full t.length (xop c.E (aev c.gl T) o) v (hsOf full) | none => false) && qall c full t
  | (_, .p _) :: t => qall c full t
  | (_, .a _ _) :: t => qall c full t
  | (_, .s _ _) :: t => qall c full t
  | (_, .h _ _) :: t => qall c full t
/-- All who write t stand before or behind j. -/
def ordT (mk : Nat → Nat) (j t : Nat) : List Oper → Nat → Bool
  | [], _ => true
  | o :: l, i => (match o.dst with
    | some d => cond (Nat.beq d t && !Nat.beq i j) (cond (Nat.ble (i + 1) j) (Nat.testBit (mk j) i) (Nat.testBit (mk i) j)) true
    | none => true) && ordT mk j t l (i + 1)
def dstIs (o : Oper) (t : Nat) : Bool := match o.dst with | some d => Nat.beq d t | none => false
def drawOk (mk : Nat → Nat) (all : List Oper) : List Oper → Nat → Bool
  | [], _ => true
  | o :: l, j => Nat.beq (Nat.shiftRight (mk j) j) 0 && ((o.looksAt ⟨all⟩).all fun t => !dstIs o t && ordT mk j t all 0) && (match o.dst with | some d => ordT mk j d all 0 | none => true) && drawOk mk all l (j + 1)
def adraw (E : Env) (call : CallF) (gl N : Nat) (ol : List Oper) (T : Tb Value) (W : AW) : Option (Tb Value × AW) :=
  match drawOk (fun j => match nthL (masks ol 0 .e) j with | some m => m | none => 0) ol ol 0, pass ⟨E, call, gl, N, ol, masks ol 0 .e, W.next, { W with next := W.next + ol.length }⟩ ol (masks ol 0 .e) [] T with
  | true, some (rs, T1) => cond (qall ⟨E, call, gl, N, ol, masks ol 0 .e, W.next, { W with next := W.next + ol.length }⟩ rs rs) (some (T1, wAt ⟨E, call, gl, N, ol, masks ol 0 .e, W.next, { W with next := W.next + ol.length }⟩ (hsOf rs) (fun _ => true) rs)) none
  | _, _ => none
end Go.Proofs.Ytkodblhompphjaa
