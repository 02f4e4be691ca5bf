/-
  Running a program by reckoning, 20: code, functions, whole runs.
  Nothing here speaks of the program.
-/
import Derived.Test.YtihlhmphgjlngaaEj
namespace Go.Proofs.Ytihlhmphgjlngaa
open Go.RowKit

inductive XE where
  | normal
  | exit (id : Nat)
  | goto (l : Nat)
  | ret
def XE.ex : XE → Exit
  | .normal => .normal
  | .exit id => .exit id
  | .goto l => .goto l
  | .ret => .ret
/-- Jumps within a scope. -/
def ajump (run : Code → Tb Value → AW → Option (XE × Tb Value × AW)) : Nat → Code → Code → Tb Value → AW → Option (XE × Tb Value × AW)
  | 0, _, _, _, _ => none
  | m + 1, c, b, T, W => match run b T W with
    | some (.goto l, T1, W1) => match findLabel c l with
      | some rest => ajump run m c rest T1 W1
      | none => none
    | q => q
def Code.jumps (P : Program) (c : Code) (Q : Exit → Act → World → Prop) : Nat → Code → Act → World → Prop
  | 0, _, _, _ => False
  | m + 1, b, a, w => b.wp P (fun e a w => match e with
    | .goto l => ∃ rest, findLabel c l = some rest ∧ Code.jumps P c Q m rest a w
    | e => Q e a w) a w
theorem wp_scope_rounds {P : Program} {c : Code} {Q : Exit → Act → World → Prop} {m : Nat} {a : Act} {w : World} (h : Code.jumps P c Q m c a w) : (Code.scope c).wp P Q a w := by
  intro b k cs
  have key : ∀ (m : Nat) (x : Code) (a : Act) (w : World), Code.jumps P c Q m x a w → ∃ e a' w', Q e a' w' ∧ Arrives P (lone (b.at a (.code x :: .inScope c :: k)) cs w) b k cs e a' w' := by
    intro m
    induction m with
    | zero => intro x a w h; exact h.elim
    | succ m ih =>
      intro x a w h
      obtain ⟨e, a₁, w₁, hq, harr⟩ := h b (.inScope c :: k) cs
      cases e with
      | normal => exact ⟨.normal, a₁, w₁, hq, Steps.trans harr (.one step_inScope)⟩
      | exit id => exact ⟨.exit id, a₁, w₁, hq, fun k' hk => harr k' (by simp [exitTo, hk])⟩
      | goto l =>
        obtain ⟨rest, hf, hj⟩ := hq
        have hg : gotoIn l (.inScope c :: k) = some (.code rest :: .inScope c :: k) := by simp [gotoIn, hf]
        obtain ⟨e₂, a₂, w₂, hq₂, harr₂⟩ := ih rest a₁ w₁ hj
        exact ⟨e₂, a₂, w₂, hq₂, .of_steps (harr _ hg) harr₂⟩
      | ret => exact ⟨_, a₁, w₁, hq, harr⟩
      | panic ch => exact ⟨_, a₁, w₁, hq, harr⟩
      | outgrown => exact ⟨_, a₁, w₁, hq, harr⟩
  obtain ⟨e, a', w', hq, harr⟩ := key m c a w h
  exact ⟨e, a', w', hq, .of_steps (.one step_scope) harr⟩
def acode (E : Env) (gl N : Nat) (call : CallF) : Nat → Code → Tb Value → AW → Option (XE × Tb Value × AW)
  | 0, _, _, _ => none
  | n + 1, c, T, W =>
    match c with
    | .skip => some (.normal, T, W)
    | .label _ => some (.normal, T, W)
    | .region _ ops draw => match (match draw with
        | true => adraw E call gl N ops.toList T W
        | false => aops E call gl N ops.toList ops.toList T W) with
      | some (T1, W1) => some (.normal, T1, W1)
      | none => none
    | .seq x y => match acode E gl N call n x T W with
      | some (.normal, T1, W1) => acode E gl N call n y T1 W1
      | q => q
    | .cond b x y => match aev gl T b with
      | some (.bool true) => acode E gl N call n x T W
      | some (.bool false) => acode E gl N call n y T W
      | _ => none
    | .block id x => match acode E gl N call n x T W with
      | some (.exit j, T1, W1) => cond (Nat.beq j id) (some (.normal, T1, W1)) (some (.exit j, T1, W1))
      | q => q
    | .loop x => match acode E gl N call n x T W with
      | some (.normal, T1, W1) => acode E gl N call n (.loop x) T1 W1
      | q => q
    | .exit id => some (.exit id, T, W)
    | .goto l => some (.goto l, T, W)
    | .ret => some (.ret, T, W)
    | .scope x => ajump (acode E gl N call n) n x x T W
    | _ => none
section
variable {E : Env} {gl : Nat}
def CPost (P : Program) (gl N : Nat) (r : Ren) (W : AW) (w : World) (x : XE) (T1 : Tb Value) (W1 : AW) : Exit → Act → World → Prop :=
  fun e a1 w1 => e = x.ex ∧ ∃ r1, SR P gl N r1 T1 a1 W1 w1 ∧ Fr r W w r1 W1 w1
def CodeR (E : Env) (gl N : Nat) (c : Code) (T : Tb Value) (W : AW) (x : XE) (T1 : Tb Value) (W1 : AW) : Prop :=
  ∀ r a w, SR E.P gl N r T a W w → c.wp E.P (CPost E.P gl N r W w x T1 W1) a w
theorem CPost.trans {P : Program} {N : Nat} {r r1 : Ren} {W W1 : AW} {w w1 : World} (f : Fr r W w r1 W1 w1) {x : XE} {T2 : Tb Value} {W2 : AW} {e : Exit} {a : Act} {w2 : World} (h : CPost P gl N r1 W1 w1 x T2 W2 e a w2) : CPost P gl N r W w x T2 W2 e a w2 := by
  obtain ⟨h1, r2, h2, h3⟩ := h
  exact ⟨h1, r2, h2, f.trans h3⟩
theorem acode_R (ok : E.Ok) {call : CallF} (hcall : CallOk E.P gl call) {N : Nat} : ∀ (n : Nat) (c : Code) (T : Tb Value) (W : AW) (x : XE) (T1 : Tb Value) (W1 : AW), acode E gl N call n c T W = some (x, T1, W1) →
    CodeR E gl N c T W x T1 W1 ∧ ∀ b, c = .loop b → ∃ m, ∀ r a w, SR E.P gl N r T a W w → Code.rounds E.P b (CPost E.P gl N r W w x T1 W1) m a w
  | 0, _, _, _, _, _, _, e => by cases e
  | n + 1, c, T, W, x, T1, W1, e => by
    have noloop : (∀ b, c ≠ .loop b) → CodeR E gl N c T W x T1 W1 → CodeR E gl N c T W x T1 W1 ∧ ∀ b, c = .loop b → ∃ m, ∀ r a w, SR E.P gl N r T a W w → Code.rounds E.P b (CPost E.P gl N r W w x T1 W1) m a w := fun h1 h2 => ⟨h2, fun b hb => absurd hb (h1 b)⟩
    cases c with
    | skip =>
      refine noloop (fun b h => by cases h) fun r a w h => ?_
      simp only [acode, Option.some.injEq, Prod.mk.injEq] at e
      obtain ⟨rfl, rfl, rfl⟩ := e
      exact wp_skip ⟨rfl, r, h, Fr.refl _ _ _⟩
    | label l =>
      refine noloop (fun b h => by cases h) fun r a w h => ?_
      simp only [acode, Option.some.injEq, Prod.mk.injEq] at e
      obtain ⟨rfl, rfl, rfl⟩ := e
      exact wp_label ⟨rfl, r, h, Fr.refl _ _ _⟩
    | region id ops draw =>
      refine noloop (fun b h => by cases h) fun r a w h => ?_
      simp only [acode] at e
      split at e
      · rename_i T2 W2 hrun
        simp only [Option.some.injEq, Prod.mk.injEq] at e
        obtain ⟨rfl, rfl, rfl⟩ := e
        cases draw with
        | true => exact draw_R ok hcall hrun h (fun r1 a1 w1 h1 f1 => ⟨rfl, r1, h1, f1⟩) id
        | false => exact wp_region_list (aops_R ok hcall ops.toList T W T2 W2 hrun r a w _ h fun r1 a1 w1 h1 f1 => ⟨rfl, r1, h1, f1⟩)
      · cases e
    | seq y z =>
      refine noloop (fun b h => by cases h) fun r a w h => ?_
      simp only [acode] at e
      split at e
      · rename_i T2 W2 hrun
        have h1 := (acode_R ok hcall n y T W _ _ _ hrun).1 r a w h
        refine wp_seq (wp_mono h1 ?_)
        rintro _ a2 w2 ⟨rfl, r2, h2, f2⟩
        show (z.wp E.P _) a2 w2
        refine wp_mono ((acode_R ok hcall n z T2 W2 _ _ _ e).1 r2 a2 w2 h2) fun e3 a3 w3 h3 => h3.trans f2
      · rename_i hq
        have h1 := (acode_R ok hcall n y T W _ _ _ e).1 r a w h
        refine wp_seq (wp_mono h1 ?_)
        rintro _ a2 w2 ⟨rfl, r2, h2, f2⟩
        cases x with
        | normal => exact absurd e (hq T1 W1)
        | exit id => exact ⟨rfl, r2, h2, f2⟩
        | goto l => exact ⟨rfl, r2, h2, f2⟩
        | ret => exact ⟨rfl, r2, h2, f2⟩
    | cond b y z =>
      refine noloop (fun b h => by cases h) fun r a w h => ?_
      simp only [acode] at e
      split at e
      · rename_i hb
        have hv := EvR.of h.tm h.gr b _ hb
        generalize hbv : a.eval b = bv at hv
        cases hv
        exact wp_cond_true hbv ((acode_R ok hcall n y T W _ _ _ e).1 r a w h)
      · rename_i hb
        have hv := EvR.of h.tm h.gr b _ hb
        generalize hbv : a.eval b = bv at hv
        cases hv
        exact wp_cond_false hbv ((acode_R ok hcall n z T W _ _ _ e).1 r a w h)
      · cases e
    | block id y =>
      refine noloop (fun b h => by cases h) fun r a w h => ?_
      simp only [acode] at e
      split at e
      · rename_i j T2 W2 hrun
        have h1 := (acode_R ok hcall n y T W _ _ _ hrun).1 r a w h
        refine wp_block (wp_mono h1 ?_)
        rintro _ a2 w2 ⟨rfl, r2, h2, f2⟩
        cases hj : Nat.beq j id with
        | true =>
          rw [hj] at e
          simp only [cond_true, Option.some.injEq, Prod.mk.injEq] at e
          obtain ⟨rfl, rfl, rfl⟩ := e
          show (if j = id then _ else _)
          rw [if_pos (Nat.eq_of_beq_eq_true hj)]
          exact ⟨rfl, r2, h2, f2⟩
        | false =>
          rw [hj] at e
          simp only [cond_false, Option.some.injEq, Prod.mk.injEq] at e
          obtain ⟨rfl, rfl, rfl⟩ := e
          show (if j = id then _ else _)
          rw [if_neg (Nat.ne_of_beq_eq_false hj)]
          exact ⟨rfl, r2, h2, f2⟩
      · rename_i hq
        have h1 := (acode_R ok hcall n y T W _ _ _ e).1 r a w h
        refine wp_block (wp_mono h1 ?_)
        rintro _ a2 w2 ⟨rfl, r2, h2, f2⟩
        cases x with
        | exit j => exact absurd e (hq j T1 W1)
        | normal => exact ⟨rfl, r2, h2, f2⟩
        | goto l => exact ⟨rfl, r2, h2, f2⟩
        | ret => exact ⟨rfl, r2, h2, f2⟩
    | loop y =>
      have key : ∃ m, ∀ r a w, SR E.P gl N r T a W w → Code.rounds E.P y (CPost E.P gl N r W w x T1 W1) m a w := by
        simp only [acode] at e
        split at e
        · rename_i T2 W2 hrun
          obtain ⟨m, hm⟩ := (acode_R ok hcall n (.loop y) T2 W2 _ _ _ e).2 y rfl
          refine ⟨m + 1, fun r a w h => ?_⟩
          rw [rounds_succ]
          refine wp_mono ((acode_R ok hcall n y T W _ _ _ hrun).1 r a w h) ?_
          rintro _ a2 w2 ⟨rfl, r2, h2, f2⟩
          show Code.rounds E.P y _ m a2 w2
          have mono : ∀ (m : Nat) (a : Act) (w : World) (Q Q' : Exit → Act → World → Prop), (∀ e a w, Q e a w → Q' e a w) → Code.rounds E.P y Q m a w → Code.rounds E.P y Q' m a w := by
            intro m
            induction m with
            | zero => intro a w Q Q' hq hr; exact hr.elim
            | succ m ihm =>
              intro a w Q Q' hq hr
              rw [rounds_succ] at hr ⊢
              refine wp_mono hr fun e a w he => ?_
              cases e with
              | normal => exact ihm a w Q Q' hq he
              | _ => exact hq _ _ _ he
          exact mono m a2 w2 _ _ (fun e3 a3 w3 h3 => h3.trans f2) (hm r2 a2 w2 h2)
        · rename_i hq
          refine ⟨1, fun r a w h => ?_⟩
          rw [rounds_succ]
          refine wp_mono ((acode_R ok hcall n y T W _ _ _ e).1 r a w h) ?_
          rintro _ a2 w2 ⟨rfl, r2, h2, f2⟩
          cases x with
          | normal => exact absurd e (hq T1 W1)
          | exit id => exact ⟨rfl, r2, h2, f2⟩
          | goto l => exact ⟨rfl, r2, h2, f2⟩
          | ret => exact ⟨rfl, r2, h2, f2⟩
      refine ⟨fun r a w h => ?_, fun b hb => ?_⟩
      · obtain ⟨m, hm⟩ := key
        exact wp_loop_rounds m (hm r a w h)
      · injection hb with hb
        subst hb
        exact key
    | exit id =>
      refine noloop (fun b h => by cases h) fun r a w h => ?_
      simp only [acode, Option.some.injEq, Prod.mk.injEq] at e
      obtain ⟨rfl, rfl, rfl⟩ := e
      exact wp_exit ⟨rfl, r, h, Fr.refl _ _ _⟩
    | goto l =>
      refine noloop (fun b h => by cases h) fun r a w h => ?_
      simp only [acode, Option.some.injEq, Prod.mk.injEq] at e
      obtain ⟨rfl, rfl, rfl⟩ := e
      exact wp_goto ⟨rfl, r, h, Fr.refl _ _ _⟩
    | ret =>
      refine noloop (fun b h => by cases h) fun r a w h => ?_
      simp only [acode, Option.some.injEq, Prod.mk.injEq] at e
      obtain ⟨rfl, rfl, rfl⟩ := e
      exact wp_ret ⟨rfl, r, h, Fr.refl _ _ _⟩
    | scope y =>
      refine noloop (fun b h => by cases h) fun r a w h => ?_
      simp only [acode] at e
      have key : ∀ (m : Nat) (b : Code) (T : Tb Value) (W : AW), ajump (acode E gl N call n) m y b T W = some (x, T1, W1) → ∀ r a w, SR E.P gl N r T a W w → Code.jumps E.P y (CPost E.P gl N r W w x T1 W1) m b a w := by
        intro m
        have mono : ∀ (m : Nat) (b : Code) (a : Act) (w : World) (Q Q' : Exit → Act → World → Prop), (∀ e a w, Q e a w → Q' e a w) → Code.jumps E.P y Q m b a w → Code.jumps E.P y Q' m b a w := by
          intro m
          induction m with
          | zero => intro b a w Q Q' hq hr; exact hr.elim
          | succ m ihm =>
            intro b a w Q Q' hq hr
            refine wp_mono hr fun e a w he => ?_
            cases e with
            | goto l =>
              obtain ⟨rest, hf, hj⟩ := he
              exact ⟨rest, hf, ihm rest a w Q Q' hq hj⟩
            | _ => exact hq _ _ _ he
        induction m with
        | zero => intro b T W e; cases e
        | succ m ihm =>
          intro b T W e r a w h
          simp only [ajump] at e
          split at e
          · rename_i l T2 W2 hrun
            split at e
            · rename_i rest hf
              refine wp_mono ((acode_R ok hcall n b T W _ _ _ hrun).1 r a w h) ?_
              rintro _ a2 w2 ⟨rfl, r2, h2, f2⟩
              exact ⟨rest, hf, mono m rest a2 w2 _ _ (fun e3 a3 w3 h3 => h3.trans f2) (ihm rest T2 W2 e r2 a2 w2 h2)⟩
            · cases e
          · rename_i hq
            refine wp_mono ((acode_R ok hcall n b T W _ _ _ e).1 r a w h) ?_
            rintro _ a2 w2 ⟨rfl, r2, h2, f2⟩
            cases x with
            | goto l => exact absurd e (hq l T1 W1)
            | normal => exact ⟨rfl, r2, h2, f2⟩
            | exit id => exact ⟨rfl, r2, h2, f2⟩
            | ret => exact ⟨rfl, r2, h2, f2⟩
      exact wp_scope_rounds (key n y T W e r a w h)
    | rangeFunc f ps asg y => cases e
    | refuse why => cases e

def argT : List Value → Nat → Tb Value → Tb Value
  | [], _, T => T
  | v :: l, i, T => argT l (i + 1) (T.set i (some v))
theorem argT_tv : ∀ (l : List Value) (i : Nat) (T : Tb Value) (t : Nat), tv (argT l i T) t = if i ≤ t ∧ t < i + l.length then l.getD (t - i) undef else tv T t
  | [], i, T, t => by
    simp only [argT, List.length_nil]
    rw [if_neg (by omega)]
  | v :: l, i, T, t => by
    simp only [argT]
    rw [argT_tv l]
    by_cases h1 : i + 1 ≤ t ∧ t < i + 1 + l.length
    · rw [if_pos h1, if_pos (by simp; omega), show t - i = (t - (i + 1)) + 1 by omega]
      simp
    · rw [if_neg h1]
      unfold tv
      rw [Tb.get_set]
      by_cases h2 : t = i
      · subst h2
        rw [if_pos rfl, if_pos (by simp)]
        simp
      · rw [if_neg h2, if_neg (by simp; omega)]
def xres (E : Env) (T : Tb Value) : List ResultVar → Sem (List Value)
  | [] => .pure []
  | .tmp t :: l => (xres E T l).bind fun vs => .pure (tv T t :: vs)
  | .cell a t :: l => (xload E t (tv T a)).bind fun v => (xres E T l).bind fun vs => .pure (v :: vs)
def wrapR : List Value → Value
  | [v] => v
  | l => .tuple ⟨l⟩
theorem xres_R (ok : E.Ok) {T : Tb Value} {tmps : Array Value} : ∀ (l : List ResultVar) (r : Ren), (∀ t, VR r (tv T t) (tmps.getD t undef)) →
    SemR E.P (fun s (vs vs' : List Value) => VRs s ⟨vs⟩ ⟨vs'⟩) r (xres E T l) (l.mapM fun | .tmp t => pure (tmps.getD t undef) | .cell a t => do loadVar t (← asAddr (tmps.getD a undef)))
  | [], r, h => .pure (VRs.nil r)
  | .tmp t :: l, r, h => by
    rw [List.mapM_cons]
    simp only [xres, pure_bind]
    refine SemR.bind' (xres_R ok l r h) fun s vs vs' hl hv => .pure ?_
    have h1 := (VRs.one ((h t).le hl)).app hv
    simpa using h1
  | .cell a t :: l, r, h => by
    rw [List.mapM_cons]
    simp only [xres]
    have hx : SemR E.P VR r (xload E t (tv T a)) (do loadVar t (← asAddr (tmps.getD a undef))) := by
      unfold xload
      have ha := h a
      split
      · rename_i ad i had hi
        obtain ⟨ad', e1, _, h2⟩ := adr_R ha had
        rw [e1]
        exact loadVar_R ok hi h2
      · exact .halt
    refine SemR.bind' hx fun s v v' hl hv => SemR.bind' (xres_R ok l s fun t => (h t).le hl) fun s2 vs vs' hl2 hvs => .pure ?_
    have h1 := (VRs.one (hv.le hl2)).app hvs
    simpa using h1
theorem results_R (ok : E.Ok) {fn : Func} {T : Tb Value} {tmps : Array Value} {r : Ren} (h : ∀ t, VR r (tv T t) (tmps.getD t undef)) : SemR E.P VR r ((xres E T fn.results.toList).bind fun vs => .pure (wrapR vs)) (results fn tmps) := by
  unfold results
  rw [Array.mapM_eq_mapM_toList, bind_map_left]
  refine SemR.bind' (xres_R ok _ r h) fun s vs vs' hl hv => .pure ?_
  unfold wrapR
  split
  · rename_i v
    obtain ⟨v', e, h1⟩ := VRs.single hv
    injection e with e
    subst e
    exact h1
  · rename_i hne
    obtain ⟨h1, h2⟩ := hv
    have : vs'.toArray.size ≠ 1 := by
      intro e
      simp only [List.size_toArray] at h1 e
      match vs, h1 with
      | [v], _ => exact hne v rfl
      | [], h1 => exact absurd (h1.symm.trans e) (by simp)
      | _ :: _ :: _, h1 => exact absurd (h1.symm.trans e) (by simp)
    rw [dif_neg this]
    exact .tuple h1 h2
/-- A function's run: depth d, so and so many steps. -/
def acall (E : Env) (gl fuel : Nat) : Nat → CallF
  | 0, _, _, _ => none
  | d + 1, f, args, W =>
    match E.fn.get f with
    | none => none
    | some fi => match acode E gl (args.toList.length + (fi.ntmps - args.toList.length)) (acall E gl fuel d) fuel fi.code (argT args.toList 0 .e) W with
      | some (.normal, T1, W1) => match arunQ E.P ((xres E T1 fi.results).bind fun vs => .pure (wrapR vs)) W1 with
        | some v => some (v, W1)
        | none => none
      | some (.ret, T1, W1) => match arunQ E.P ((xres E T1 fi.results).bind fun vs => .pure (wrapR vs)) W1 with
        | some v => some (v, W1)
        | none => none
      | _ => none
theorem acall_ok (ok : E.Ok) (fuel : Nat) : ∀ d, CallOk E.P gl (acall E gl fuel d)
  | 0 => fun f args W v W1 e => by cases e
  | d + 1 => by
    intro f args W v W1 e r args' w hargs hgr hwr
    simp only [acall] at e
    split at e
    · cases e
    · rename_i fi hfi
      obtain ⟨fn, h1, h2, h3, h4, _⟩ := ok.fn f fi hfi
      have hsz : args'.size = args.toList.length := by rw [hargs.1]; simp
      have sr : SR E.P gl (args.toList.length + (fi.ntmps - args.toList.length)) r (argT args.toList 0 .e) { tmps := args' ++ Array.replicate (fn.ntmps - args'.size) undef, defers := [] } W w := by
        refine ⟨by simp [hsz, h3], fun t => ?_, hgr, hwr, rfl⟩
        rw [argT_tv]
        by_cases ht : 0 ≤ t ∧ t < 0 + args.toList.length
        · rw [if_pos ht]
          have hlt : t < args.size := by simpa using ht.2
          have hlt' : t < args'.size := by rw [hargs.1]; exact hlt
          have e1 : (args' ++ Array.replicate (fn.ntmps - args'.size) undef).getD t undef = args'[t] := by
            simp [Array.getD_eq_getD_getElem?, Array.getElem?_append, hlt']
          have e2 : args.toList.getD (t - 0) undef = args[t] := by simp [List.getD, hlt]
          rw [e1, e2]
          exact hargs.2 t _ _ (Array.getElem?_eq_getElem hlt) (Array.getElem?_eq_getElem hlt')
        · rw [if_neg ht]
          have hge : ¬ t < args'.size := by rw [hsz]; omega
          have e1 : (args' ++ Array.replicate (fn.ntmps - args'.size) undef).getD t undef = undef := by
            rw [Array.getD_eq_getD_getElem?, Array.getElem?_append, if_neg hge]
            by_cases h5 : t - args'.size < fn.ntmps - args'.size <;> simp [h5]
          rw [e1]
          exact VR.undef r
      have fin : ∀ (x : XE) (T1 : Tb Value), (x = .normal ∨ x = .ret) → acode E gl (args.toList.length + (fi.ntmps - args.toList.length)) (acall E gl fuel d) fuel fi.code (argT args.toList 0 .e) W = some (x, T1, W1) →
          arunQ E.P ((xres E T1 fi.results).bind fun vs => .pure (wrapR vs)) W1 = some v → Calls E.P f args' w fun e w1 => ∃ r1 v', e = .returned v' ∧ VR r1 v v' ∧ WR E.P r1 W1 w1 ∧ Fr r W w r1 W1 w1 := fun x T1 hx hrun hres => by
        refine calls_of_wp h1 h2 (wp_mono ((acode_R ok (acall_ok ok fuel d) fuel fi.code _ W x T1 W1 hrun).1 r _ w sr) ?_)
        rintro _ a2 w2 ⟨rfl, r2, s2, f2⟩
        rw [← h4] at hres
        obtain ⟨v', k1, k2⟩ := (results_R ok (fn := fn) s2.tm).runQ W1 w2 s2.wr v hres
        rcases hx with rfl | rfl
        · exact ⟨s2.df, v', k1, r2, v', rfl, k2, s2.wr, f2⟩
        · exact ⟨s2.df, v', k1, r2, v', rfl, k2, s2.wr, f2⟩
      split at e
      · rename_i T1 W2 hrun
        split at e
        · rename_i v2 hres
          simp only [Option.some.injEq, Prod.mk.injEq] at e
          obtain ⟨rfl, rfl⟩ := e
          exact fin .normal T1 (.inl rfl) hrun hres
        · cases e
      · rename_i T1 W2 hrun
        split at e
        · rename_i v2 hres
          simp only [Option.some.injEq, Prod.mk.injEq] at e
          obtain ⟨rfl, rfl⟩ := e
          exact fin .ret T1 (.inr rfl) hrun hres
        · cases e
      · cases e
end
end Go.Proofs.Ytihlhmphgjlngaa
