/- Running a program by reckoning, 19: drawn regions, code, calls.
  Nothing here speaks of the program. Running a program by reckoning, 20: code, functions, whole runs.
  Nothing here speaks of the program. Running a program by reckoning, 21: what a whole run says: of a function whose arguments hold no addresses, in whatever world.
  Nothing here speaks of the program. The law's awake: a run, reckoned by the kernel. TieNobody of its arguments as they come. What GShell says of the program, for a seat without []int. -/
import Derived.Test.YtkodblhompphjaaVx
import Derived.LoopN
import Derived.Scope
import Derived.KernelRfl
import Derived.Test.YtkodblhompphjaaVm
import Derived.Test.YtkodblhompphjaaVa
namespace Go.Proofs.Ytkodblhompphjaa
open Go.RowKit

section
variable {E : Env} {gl : Nat}
theorem draw_R (ok : E.Ok) {call : CallF} (hcall : CallOk E.P gl call) {N : Nat} {ops : Array Oper} {T T1 : Tb Value} {W W1 : AW} (e : adraw E call gl N ops.toList T W = some (T1, W1)) {r : Ren} {a : Act} {w : World} {Q : Exit → Act → World → Prop}
    (h : SR E.P gl N r T a W w) (hQ : ∀ r1 a1 w1, SR E.P gl N r1 T1 a1 W1 w1 → Fr r W w r1 W1 w1 → Q .normal a1 w1) (id : Nat) : (Code.region id ops true).wp E.P Q a w := by
  unfold adraw at e
  split at e
  rotate_left
  · cases e
  rename_i rs Tf hdr hpass
  generalize hc : (⟨E, call, gl, N, ops.toList, masks ops.toList 0 .e, W.next, { W with next := W.next + ops.toList.length }⟩ : Cx) = c at e hpass
  have hcE : c.E = E := by rw [← hc]
  have hccall : c.call = call := by rw [← hc]
  have hcgl : c.gl = gl := by rw [← hc]
  have hcN : c.N = N := by rw [← hc]
  have hcol : c.ol = ops.toList := by rw [← hc]
  have hcM : c.M = masks ops.toList 0 .e := by rw [← hc]
  have hcb : c.base = W.next := by rw [← hc]
  have hcW : c.W0 = { W with next := W.next + ops.toList.length } := by rw [← hc]
  have hmk : ∀ j, c.mk' j = match nthL (masks ops.toList 0 .e) j with | some m => m | none => 0 := fun j => by
    unfold Cx.mk'
    rw [hcM]
    rfl
  have hdr' : drawOk c.mk' c.ol c.ol 0 = true := by
    rw [hcol, ← hdr]
    congr 1
    funext j
    exact hmk j
  obtain ⟨good, e0len⟩ := pass_good (c := c) (T0 := T) ops.toList (masks ops.toList 0 .e) [] T rs Tf hpass .nil (fun i => by simp [hcol]) (fun i => by simp [hcM])
  have hlen : rs.length = ops.size := by simpa using e0len
  cases hqa : qall c rs rs with
  | false => rw [hqa] at e; cases e
  | true =>
    rw [hqa] at e
    simp only [cond_true, Option.some.injEq, Prod.mk.injEq] at e
    obtain ⟨rfl, eW⟩ := e
    subst hcE
    refine wp_region_any ok.mixed ?_
    have main : ∀ (f : Nat) (listed : Array Bool) (a : Act) (w' : World), listed.size = ops.size → unl listed ops.size ≤ f → Inv c T rs r W w (fun x => listed.getD x false) a w' → wpAny c.E.P .any ops Q f listed a w' := by
      intro f
      have fin : ∀ (listed : Array Bool) (a : Act) (w' : World), (∀ i, i < ops.size → listed.getD i false = true) → Inv c T rs r W w (fun x => listed.getD x false) a w' → Q .normal a w' := fun listed a w' hall inv => by
        obtain ⟨isz, idf, idown, r1, newer, older, hsp, hnew, hold, htm, hgr, hwr, hfr, _, _, _⟩ := inv
        have hn0 : newer = [] := by
          cases newer with
          | nil => rfl
          | cons x l =>
            have h1 := hnew x List.mem_cons_self
            have h2 := hsOf_lt (show x ∈ hsOf rs by rw [hsp]; exact List.mem_append_left _ List.mem_cons_self)
            rw [hall x.1 (by omega)] at h1
            cases h1
        subst hn0
        rw [List.nil_append] at hsp
        subst hsp
        have hg : ∀ q, W1.get q = (wAt c (hsOf rs) (fun x => listed.getD x false) rs).get q := fun q => by
          rw [← eW, get_wAt, get_wAt]
          have e1 : (addR (curW c.W0 (hsOf rs)) c.base (fun _ => true) rs).get q = (addR (curW c.W0 (hsOf rs)) c.base (fun x => listed.getD x false) rs).get q := by
            rw [get_addR, get_addR]
            cases (curW c.W0 (hsOf rs)).get q with
            | some x => rfl
            | none =>
              dsimp only
              by_cases hb : c.base ≤ q
              · by_cases hlt : q - c.base < rs.length
                · rw [hall (q - c.base) (by omega)]
                · rw [alAt_ge (by omega)]
                  simp
              · simp [hb]
          rw [e1]
          congr 1
          funext x
          rw [stO_congr (D := fun i => true && aft (hsOf rs) i) (D' := fun i => listed.getD i false && aft (hsOf rs) i) fun i a vs hi _ _ => by rw [hall i (by omega)]]
        have hn1 := wAt_next c (hsOf rs) (fun x => listed.getD x false) rs
        have hn2 := wAt_next c (hsOf rs) (fun _ => true) rs
        have eN : W1.next = (wAt c (hsOf rs) (fun x => listed.getD x false) rs).next := by
          rw [← eW, hn1.1, hn2.1]
        have eR : W1.ro = (wAt c (hsOf rs) (fun x => listed.getD x false) rs).ro := by
          rw [← eW, hn1.2, hn2.2]
        refine hQ r1 a w' ⟨by rw [isz, hcN], fun t => ?_, hcgl ▸ hgr, hwr.congr hg eN, idf⟩ (hfr.congr hg eN eR)
        have e1 : tvD c T (fun x => listed.getD x false) rs t = tvD c T (fun _ => true) rs t := tvD_congr fun i hi _ => hall i (by omega)
        have h2 := htm t
        rw [e1, ← good.tv t] at h2
        exact h2
      -- some that is left is ready
      have some_ready : ∀ (listed : Array Bool), listed.size = ops.size → Region.ready .any ops listed = [] → ∀ i, i < ops.size → listed.getD i false = true := fun listed hsz hr i => by
        induction i using Nat.strongRecOn with
        | _ i ih =>
          intro hi
          cases hli : listed.getD i false with
          | true => rfl
          | false =>
            have hmem : i ∈ Region.ready .any ops listed := by
              unfold Region.ready
              rw [List.mem_filter]
              refine ⟨List.mem_range.2 hi, ?_⟩
              have h1 : listed.getD i true = false := by
                have hlt : i < listed.size := by omega
                rw [Array.getD_eq_getD_getElem?, Array.getElem?_eq_getElem hlt, Option.getD_some] at hli ⊢
                exact hli
              rw [h1, Array.getElem?_eq_getElem hi]
              simp only [Bool.not_false, Bool.true_and, Option.map_some, Option.getD_some]
              rw [Array.all_eq_true]
              intro j hj
              cases hb : Region.binds .any (ops[i].after[j]) with
              | false => rfl
              | true =>
                simp only [Bool.not_true, Bool.false_or]
                -- it stands ahead
                have ho : c.ol[i]? = some ops[i] := by rw [hcol]; simp [hi]
                obtain ⟨dk1, _, _⟩ := drawOk_spec (j0 := 0) (i := i) hdr' ho
                rw [Nat.zero_add] at dk1
                have hbit : Nat.testBit (c.mk' i) (ops[i].after[j]).on = true := by
                  rw [hmk, nthL_eq]
                  have hmi : i < (masks ops.toList 0 .e).length := by rw [masks_length]; simpa using hi
                  rw [List.getElem?_eq_getElem hmi]
                  dsimp only
                  have : ∀ (l : List Oper) (j0 : Nat) (tb : Tb Nat) (k : Nat) (o : Oper) (hk : k < (masks l j0 tb).length), l[k]? = some o → ∀ ed ∈ o.after.toList, Region.binds .any ed = true → Nat.testBit ((masks l j0 tb)[k]) ed.on = true := by
                    intro l
                    induction l with
                    | nil => intro j0 tb k o hk; simp [masks] at hk
                    | cons o0 l ihl =>
                      intro j0 tb k o hk ho ed hed hbd
                      cases k with
                      | zero =>
                        simp only [List.getElem?_cons_zero, Option.some.injEq] at ho
                        subst ho
                        simp only [masks, List.getElem_cons_zero]
                        have : ∀ (l : List Edge), ed ∈ l → Nat.testBit (maskE tb l) ed.on = true := by
                          intro l
                          induction l with
                          | nil => intro h; cases h
                          | cons e0 l ihe =>
                            intro h
                            simp only [maskE]
                            rcases List.mem_cons.1 h with rfl | h
                            · rw [hbd]
                              simp only [cond_true]
                              show Nat.testBit ((1 <<< ed.on ||| _) ||| _) ed.on = true
                              rw [Nat.testBit_or, Nat.testBit_or, Nat.one_shiftLeft, Nat.testBit_two_pow]
                              simp
                            · cases hb0 : Region.binds .any e0 with
                              | false => exact ihe h
                              | true =>
                                simp only [cond_true]
                                show Nat.testBit (_ ||| maskE tb l) ed.on = true
                                rw [Nat.testBit_or, ihe h]
                                simp
                        exact this _ hed
                      | succ k =>
                        simp only [masks, List.getElem_cons_succ]
                        exact ihl (j0 + 1) _ k o (by simp [masks] at hk; omega) (by simpa using ho) ed hed hbd
                  exact this ops.toList 0 .e i ops[i] hmi (by simp [hi]) _ (by simp) hb
                have hlt := maskbit_lt dk1 hbit
                exact ih _ hlt (by omega)
            rw [hr] at hmem
            cases hmem
      induction f with
      | zero =>
        intro listed a w' hsz hu inv
        have hall := unl_zero (Nat.le_zero.1 hu)
        refine ⟨?_, fin listed a w' hall inv⟩
        unfold Region.ready
        rw [List.filter_eq_nil_iff]
        intro i hi
        have hi' := List.mem_range.1 hi
        have h1 : listed.getD i true = true := by
          have := hall i hi'
          have hlt : i < listed.size := by omega
          rw [Array.getD_eq_getD_getElem?, Array.getElem?_eq_getElem hlt, Option.getD_some] at this ⊢
          exact this
        rw [h1]
        simp
      | succ f ih =>
        intro listed a w' hsz hu inv
        refine ⟨fun hr => fin listed a w' (some_ready listed hsz hr) inv, fun i hi => ?_⟩
        unfold Region.ready at hi
        rw [List.mem_filter] at hi
        obtain ⟨hi1, hi2⟩ := hi
        have hi1 := List.mem_range.1 hi1
        rw [Array.getElem?_eq_getElem hi1] at hi2
        simp only [Option.map_some, Option.getD_some, Bool.and_eq_true, Bool.not_eq_true'] at hi2
        obtain ⟨hi2, hi3⟩ := hi2
        have hDi : listed.getD i false = false := by
          have hlt : i < listed.size := by omega
          rw [Array.getD_eq_getD_getElem?, Array.getElem?_eq_getElem hlt, Option.getD_some] at hi2 ⊢
          exact hi2
        have hpre : ∀ i', Nat.testBit (c.mk' i) i' = true → listed.getD i' false = true := fun i' hb => by
          rw [hmk, nthL_eq] at hb
          have hmi : i < (masks ops.toList 0 .e).length := by rw [masks_length]; simpa using hi1
          rw [List.getElem?_eq_getElem hmi] at hb
          obtain ⟨ed, h1, h2, h3⟩ := masks_spec (l := ops.toList) (j := 0) (tb := .e) (k := i) (o := ops[i]) (by simp [hi1]) (List.getElem?_eq_getElem hmi) hb
          have hed : listed.getD ed.on false = true := by
            rw [Array.all_eq_true] at hi3
            obtain ⟨q, hq, rfl⟩ := List.getElem_of_mem h1
            have := hi3 q (by simpa using hq)
            simp only [Array.getElem_toList] at h2 ⊢
            rw [h2] at this
            simpa using this
          rcases h3 with h3 | ⟨m', h4, h5⟩
          · rw [← h3]
            exact hed
          · rcases h5 with h5 | ⟨k', h5, h6⟩
            · cases h5
            · have hk' : k' < rs.length := by
                have : k' < (masks ops.toList 0 .e).length := by
                  apply Nat.lt_of_not_le
                  intro hle
                  rw [List.getElem?_eq_none hle] at h6
                  cases h6
                rw [masks_length] at this
                rw [hlen]
                simpa using this
              refine inv.down k' i' hk' ?_ ?_
              · rw [h5, Nat.zero_add] at hed
                exact hed
              · rw [hmk, nthL_eq, h6]
                exact h4
        refine step_one ok (by rw [hccall, hcgl]; exact hcall) hcol good hlen hdr' hqa h.wr hcb (by rw [hcW]) inv hi1 hDi hpre fun a1 w1 inv1 => ?_
        refine ih _ a1 w1 (by simpa using hsz) ?_ ?_
        · have := unl_set (l := listed) (by omega) hDi ops.size
          rw [if_pos hi1] at this
          omega
        · have : (fun x => (listed.setIfInBounds i true).getD x false) = upd (fun x => listed.getD x false) i := funext fun x => getD_set listed (by omega) x
          rw [this]
          exact inv1
    refine main ops.size _ a _ (by simp) (by rw [unl_all]; exact Nat.le_refl _) ?_
    have hD : (fun x => (Array.replicate ops.size false).getD x false) = fun _ => false := by
      funext x
      by_cases hx : x < ops.size <;> simp [Array.getD_eq_getD_getElem?, hx]
    rw [hD]
    have hget : ∀ q, (wAt c [] (fun _ => false) rs).get q = W.get q := fun q => by
      rw [get_wAt, get_addR]
      show (match c.W0.get q with | some x => some x | none => _).map _ = _
      rw [hcW]
      show (match W.get q with | some x => some x | none => _).map _ = _
      cases W.get q with
      | some x =>
        simp only [Option.map_some]
        rw [stO_none (D := fun i => false && aft [] i) fun i a vs _ _ _ => rfl]
      | none => simp
    have hn := wAt_next c [] (fun _ => false) rs
    have hW0n : c.W0.next = W.next + ops.size := by rw [hcW]; simp
    refine ⟨by rw [h.sz, hcN], h.df, (fun j i _ h1 => by cases h1), r, hsOf rs, [], by simp, fun x _ => rfl, (fun x hx => by cases hx), fun t => ?_, hcgl ▸ h.gr, ?_, ?_, fun i hi _ => ?_, fun i o l hi hg => ?_, ?_⟩
    · have : tvD c T (fun _ => false) rs t = tv T t := by
        clear hpass good hlen hqa main hget hn eW e0len
        induction rs with
        | nil => rfl
        | cons x rs ih =>
          obtain ⟨T2, k2⟩ := x
          simp only [tvD, Bool.false_and, cond_false]
          exact ih
      rw [this]
      exact h.tm t
    · exact ⟨fun k p hk => by
        have := h.wr.dom k p hk
        rw [hn.1]
        show k < c.W0.next
        omega, fun k o l hk => h.wr.live k o l ((hget k).symm.trans hk), fun j k b x y hj hk => h.wr.inj j k b x y (by unfold AW.holds at *; rwa [← hget]) (by unfold AW.holds at *; rwa [← hget])⟩
    · have f0 := Fr.refl r W w
      exact ⟨f0.le, by rw [hn.1]; show W.next ≤ c.W0.next; omega, by rw [hn.2]; show c.W0.ro = W.ro; rw [hcW], rfl, rfl, rfl, Nat.le_refl _, f0.old, f0.fresh, fun k _ hk => (hget k).trans hk, fun k o hk => ⟨o, (hget k).trans hk⟩, fun k b x hk h1 h2 => ⟨k, x, by unfold AW.holds at *; rwa [← hget], h1, fun h => h⟩⟩
    · cases hr : r (c.base + i) with
      | none => rfl
      | some p =>
        have := h.wr.dom _ _ hr
        omega
    · have hg' := (hget _).symm.trans hg
      obtain ⟨b, x, _, h1, _⟩ := h.wr.live _ _ _ hg'
      have := h.wr.dom _ _ h1
      omega
    · show c.base + rs.length ≤ c.W0.next
      omega
end
end Go.Proofs.Ytkodblhompphjaa

namespace Go.Proofs.Ytkodblhompphjaa
open Go.RowKit

inductive XE where
  | normal
  | exit (id : Nat)
  | goto (l : Nat)
  | ret
def XE.ex : XE → Exit
  | .normal => .normal
  | .exit id => .exit id
  | .goto l => .goto l
  | .ret => .ret
/-- Jumps within a scope. -/
def ajump (run : Code → Tb Value → AW → Option (XE × Tb Value × AW)) : Nat → Code → Code → Tb Value → AW → Option (XE × Tb Value × AW)
  | 0, _, _, _, _ => none
  | m + 1, c, b, T, W => match run b T W with
    | some (.goto l, T1, W1) => match findLabel c l with
      | some rest => ajump run m c rest T1 W1
      | none => none
    | q => q
def Code.jumps (P : Program) (c : Code) (Q : Exit → Act → World → Prop) : Nat → Code → Act → World → Prop
  | 0, _, _, _ => False
  | m + 1, b, a, w => b.wp P (fun e a w => match e with
    | .goto l => ∃ rest, findLabel c l = some rest ∧ Code.jumps P c Q m rest a w
    | e => Q e a w) a w
theorem wp_scope_rounds {P : Program} {c : Code} {Q : Exit → Act → World → Prop} {m : Nat} {a : Act} {w : World} (h : Code.jumps P c Q m c a w) : (Code.scope c).wp P Q a w := by
  intro b k cs
  have key : ∀ (m : Nat) (x : Code) (a : Act) (w : World), Code.jumps P c Q m x a w → ∃ e a' w', Q e a' w' ∧ Arrives P (lone (b.at a (.code x :: .inScope c :: k)) cs w) b k cs e a' w' := by
    intro m
    induction m with
    | zero => intro x a w h; exact h.elim
    | succ m ih =>
      intro x a w h
      obtain ⟨e, a₁, w₁, hq, harr⟩ := h b (.inScope c :: k) cs
      cases e with
      | normal => exact ⟨.normal, a₁, w₁, hq, Steps.trans harr (.one step_inScope)⟩
      | exit id => exact ⟨.exit id, a₁, w₁, hq, fun k' hk => harr k' (by simp [exitTo, hk])⟩
      | goto l =>
        obtain ⟨rest, hf, hj⟩ := hq
        have hg : gotoIn l (.inScope c :: k) = some (.code rest :: .inScope c :: k) := by simp [gotoIn, hf]
        obtain ⟨e₂, a₂, w₂, hq₂, harr₂⟩ := ih rest a₁ w₁ hj
        exact ⟨e₂, a₂, w₂, hq₂, .of_steps (harr _ hg) harr₂⟩
      | ret => exact ⟨_, a₁, w₁, hq, harr⟩
      | panic ch => exact ⟨_, a₁, w₁, hq, harr⟩
      | outgrown => exact ⟨_, a₁, w₁, hq, harr⟩
  obtain ⟨e, a', w', hq, harr⟩ := key m c a w h
  exact ⟨e, a', w', hq, .of_steps (.one step_scope) harr⟩
def acode (E : Env) (gl N : Nat) (call : CallF) : Nat → Code → Tb Value → AW → Option (XE × Tb Value × AW)
  | 0, _, _, _ => none
  | n + 1, c, T, W =>
    match c with
    | .skip => some (.normal, T, W)
    | .label _ => some (.normal, T, W)
    | .region _ ops draw => match (match draw with
        | true => adraw E call gl N ops.toList T W
        | false => aops E call gl N ops.toList ops.toList T W) with
      | some (T1, W1) => some (.normal, T1, W1)
      | none => none
    | .seq x y => match acode E gl N call n x T W with
      | some (.normal, T1, W1) => acode E gl N call n y T1 W1
      | q => q
    | .cond b x y => match aev gl T b with
      | some (.bool true) => acode E gl N call n x T W
      | some (.bool false) => acode E gl N call n y T W
      | _ => none
    | .block id x => match acode E gl N call n x T W with
      | some (.exit j, T1, W1) => cond (Nat.beq j id) (some (.normal, T1, W1)) (some (.exit j, T1, W1))
      | q => q
    | .loop x => match acode E gl N call n x T W with
      | some (.normal, T1, W1) => acode E gl N call n (.loop x) T1 W1
      | q => q
    | .exit id => some (.exit id, T, W)
    | .goto l => some (.goto l, T, W)
    | .ret => some (.ret, T, W)
    | .scope x => ajump (acode E gl N call n) n x x T W
    | _ => none
section
variable {E : Env} {gl : Nat}
def CPost (P : Program) (gl N : Nat) (r : Ren) (W : AW) (w : World) (x : XE) (T1 : Tb Value) (W1 : AW) : Exit → Act → World → Prop :=
  fun e a1 w1 => e = x.ex ∧ ∃ r1, SR P gl N r1 T1 a1 W1 w1 ∧ Fr r W w r1 W1 w1
def CodeR (E : Env) (gl N : Nat) (c : Code) (T : Tb Value) (W : AW) (x : XE) (T1 : Tb Value) (W1 : AW) : Prop :=
  ∀ r a w, SR E.P gl N r T a W w → c.wp E.P (CPost E.P gl N r W w x T1 W1) a w
theorem CPost.trans {P : Program} {N : Nat} {r r1 : Ren} {W W1 : AW} {w w1 : World} (f : Fr r W w r1 W1 w1) {x : XE} {T2 : Tb Value} {W2 : AW} {e : Exit} {a : Act} {w2 : World} (h : CPost P gl N r1 W1 w1 x T2 W2 e a w2) : CPost P gl N r W w x T2 W2 e a w2 := by
  obtain ⟨h1, r2, h2, h3⟩ := h
  exact ⟨h1, r2, h2, f.trans h3⟩
theorem acode_R (ok : E.Ok) {call : CallF} (hcall : CallOk E.P gl call) {N : Nat} : ∀ (n : Nat) (c : Code) (T : Tb Value) (W : AW) (x : XE) (T1 : Tb Value) (W1 : AW), acode E gl N call n c T W = some (x, T1, W1) →
    CodeR E gl N c T W x T1 W1 ∧ ∀ b, c = .loop b → ∃ m, ∀ r a w, SR E.P gl N r T a W w → Code.rounds E.P b (CPost E.P gl N r W w x T1 W1) m a w
  | 0, _, _, _, _, _, _, e => by cases e
  | n + 1, c, T, W, x, T1, W1, e => by
    have noloop : (∀ b, c ≠ .loop b) → CodeR E gl N c T W x T1 W1 → CodeR E gl N c T W x T1 W1 ∧ ∀ b, c = .loop b → ∃ m, ∀ r a w, SR E.P gl N r T a W w → Code.rounds E.P b (CPost E.P gl N r W w x T1 W1) m a w := fun h1 h2 => ⟨h2, fun b hb => absurd hb (h1 b)⟩
    cases c with
    | skip =>
      refine noloop (fun b h => by cases h) fun r a w h => ?_
      simp only [acode, Option.some.injEq, Prod.mk.injEq] at e
      obtain ⟨rfl, rfl, rfl⟩ := e
      exact wp_skip ⟨rfl, r, h, Fr.refl _ _ _⟩
    | label l =>
      refine noloop (fun b h => by cases h) fun r a w h => ?_
      simp only [acode, Option.some.injEq, Prod.mk.injEq] at e
      obtain ⟨rfl, rfl, rfl⟩ := e
      exact wp_label ⟨rfl, r, h, Fr.refl _ _ _⟩
    | region id ops draw =>
      refine noloop (fun b h => by cases h) fun r a w h => ?_
      simp only [acode] at e
      split at e
      · rename_i T2 W2 hrun
        simp only [Option.some.injEq, Prod.mk.injEq] at e
        obtain ⟨rfl, rfl, rfl⟩ := e
        cases draw with
        | true => exact draw_R ok hcall hrun h (fun r1 a1 w1 h1 f1 => ⟨rfl, r1, h1, f1⟩) id
        | false => exact wp_region_list (aops_R ok hcall ops.toList T W T2 W2 hrun r a w _ h fun r1 a1 w1 h1 f1 => ⟨rfl, r1, h1, f1⟩)
      · cases e
    | seq y z =>
      refine noloop (fun b h => by cases h) fun r a w h => ?_
      simp only [acode] at e
      split at e
      · rename_i T2 W2 hrun
        have h1 := (acode_R ok hcall n y T W _ _ _ hrun).1 r a w h
        refine wp_seq (wp_mono h1 ?_)
        rintro _ a2 w2 ⟨rfl, r2, h2, f2⟩
        show (z.wp E.P _) a2 w2
        refine wp_mono ((acode_R ok hcall n z T2 W2 _ _ _ e).1 r2 a2 w2 h2) fun e3 a3 w3 h3 => h3.trans f2
      · rename_i hq
        have h1 := (acode_R ok hcall n y T W _ _ _ e).1 r a w h
        refine wp_seq (wp_mono h1 ?_)
        rintro _ a2 w2 ⟨rfl, r2, h2, f2⟩
        cases x with
        | normal => exact absurd e (hq T1 W1)
        | exit id => exact ⟨rfl, r2, h2, f2⟩
        | goto l => exact ⟨rfl, r2, h2, f2⟩
        | ret => exact ⟨rfl, r2, h2, f2⟩
    | cond b y z =>
      refine noloop (fun b h => by cases h) fun r a w h => ?_
      simp only [acode] at e
      split at e
      · rename_i hb
        have hv := EvR.of h.tm h.gr b _ hb
        generalize hbv : a.eval b = bv at hv
        cases hv
        exact wp_cond_true hbv ((acode_R ok hcall n y T W _ _ _ e).1 r a w h)
      · rename_i hb
        have hv := EvR.of h.tm h.gr b _ hb
        generalize hbv : a.eval b = bv at hv
        cases hv
        exact wp_cond_false hbv ((acode_R ok hcall n z T W _ _ _ e).1 r a w h)
      · cases e
    | block id y =>
      refine noloop (fun b h => by cases h) fun r a w h => ?_
      simp only [acode] at e
      split at e
      · rename_i j T2 W2 hrun
        have h1 := (acode_R ok hcall n y T W _ _ _ hrun).1 r a w h
        refine wp_block (wp_mono h1 ?_)
        rintro _ a2 w2 ⟨rfl, r2, h2, f2⟩
        cases hj : Nat.beq j id with
        | true =>
          rw [hj] at e
          simp only [cond_true, Option.some.injEq, Prod.mk.injEq] at e
          obtain ⟨rfl, rfl, rfl⟩ := e
          show (if j = id then _ else _)
          rw [if_pos (Nat.eq_of_beq_eq_true hj)]
          exact ⟨rfl, r2, h2, f2⟩
        | false =>
          rw [hj] at e
          simp only [cond_false, Option.some.injEq, Prod.mk.injEq] at e
          obtain ⟨rfl, rfl, rfl⟩ := e
          show (if j = id then _ else _)
          rw [if_neg (Nat.ne_of_beq_eq_false hj)]
          exact ⟨rfl, r2, h2, f2⟩
      · rename_i hq
        have h1 := (acode_R ok hcall n y T W _ _ _ e).1 r a w h
        refine wp_block (wp_mono h1 ?_)
        rintro _ a2 w2 ⟨rfl, r2, h2, f2⟩
        cases x with
        | exit j => exact absurd e (hq j T1 W1)
        | normal => exact ⟨rfl, r2, h2, f2⟩
        | goto l => exact ⟨rfl, r2, h2, f2⟩
        | ret => exact ⟨rfl, r2, h2, f2⟩
    | loop y =>
      have key : ∃ m, ∀ r a w, SR E.P gl N r T a W w → Code.rounds E.P y (CPost E.P gl N r W w x T1 W1) m a w := by
        simp only [acode] at e
        split at e
        · rename_i T2 W2 hrun
          obtain ⟨m, hm⟩ := (acode_R ok hcall n (.loop y) T2 W2 _ _ _ e).2 y rfl
          refine ⟨m + 1, fun r a w h => ?_⟩
          rw [rounds_succ]
          refine wp_mono ((acode_R ok hcall n y T W _ _ _ hrun).1 r a w h) ?_
          rintro _ a2 w2 ⟨rfl, r2, h2, f2⟩
          show Code.rounds E.P y _ m a2 w2
          have mono : ∀ (m : Nat) (a : Act) (w : World) (Q Q' : Exit → Act → World → Prop), (∀ e a w, Q e a w → Q' e a w) → Code.rounds E.P y Q m a w → Code.rounds E.P y Q' m a w := by
            intro m
            induction m with
            | zero => intro a w Q Q' hq hr; exact hr.elim
            | succ m ihm =>
              intro a w Q Q' hq hr
              rw [rounds_succ] at hr ⊢
              refine wp_mono hr fun e a w he => ?_
              cases e with
              | normal => exact ihm a w Q Q' hq he
              | _ => exact hq _ _ _ he
          exact mono m a2 w2 _ _ (fun e3 a3 w3 h3 => h3.trans f2) (hm r2 a2 w2 h2)
        · rename_i hq
          refine ⟨1, fun r a w h => ?_⟩
          rw [rounds_succ]
          refine wp_mono ((acode_R ok hcall n y T W _ _ _ e).1 r a w h) ?_
          rintro _ a2 w2 ⟨rfl, r2, h2, f2⟩
          cases x with
          | normal => exact absurd e (hq T1 W1)
          | exit id => exact ⟨rfl, r2, h2, f2⟩
          | goto l => exact ⟨rfl, r2, h2, f2⟩
          | ret => exact ⟨rfl, r2, h2, f2⟩
      refine ⟨fun r a w h => ?_, fun b hb => ?_⟩
      · obtain ⟨m, hm⟩ := key
        exact wp_loop_rounds m (hm r a w h)
      · injection hb with hb
        subst hb
        exact key
    | exit id =>
      refine noloop (fun b h => by cases h) fun r a w h => ?_
      simp only [acode, Option.some.injEq, Prod.mk.injEq] at e
      obtain ⟨rfl, rfl, rfl⟩ := e
      exact wp_exit ⟨rfl, r, h, Fr.refl _ _ _⟩
    | goto l =>
      refine noloop (fun b h => by cases h) fun r a w h => ?_
      simp only [acode, Option.some.injEq, Prod.mk.injEq] at e
      obtain ⟨rfl, rfl, rfl⟩ := e
      exact wp_goto ⟨rfl, r, h, Fr.refl _ _ _⟩
    | ret =>
      refine noloop (fun b h => by cases h) fun r a w h => ?_
      simp only [acode, Option.some.injEq, Prod.mk.injEq] at e
      obtain ⟨rfl, rfl, rfl⟩ := e
      exact wp_ret ⟨rfl, r, h, Fr.refl _ _ _⟩
    | scope y =>
      refine noloop (fun b h => by cases h) fun r a w h => ?_
      simp only [acode] at e
      have key : ∀ (m : Nat) (b : Code) (T : Tb Value) (W : AW), ajump (acode E gl N call n) m y b T W = some (x, T1, W1) → ∀ r a w, SR E.P gl N r T a W w → Code.jumps E.P y (CPost E.P gl N r W w x T1 W1) m b a w := by
        intro m
        have mono : ∀ (m : Nat) (b : Code) (a : Act) (w : World) (Q Q' : Exit → Act → World → Prop), (∀ e a w, Q e a w → Q' e a w) → Code.jumps E.P y Q m b a w → Code.jumps E.P y Q' m b a w := by
          intro m
          induction m with
          | zero => intro b a w Q Q' hq hr; exact hr.elim
          | succ m ihm =>
            intro b a w Q Q' hq hr
            refine wp_mono hr fun e a w he => ?_
            cases e with
            | goto l =>
              obtain ⟨rest, hf, hj⟩ := he
              exact ⟨rest, hf, ihm rest a w Q Q' hq hj⟩
            | _ => exact hq _ _ _ he
        induction m with
        | zero => intro b T W e; cases e
        | succ m ihm =>
          intro b T W e r a w h
          simp only [ajump] at e
          split at e
          · rename_i l T2 W2 hrun
            split at e
            · rename_i rest hf
              refine wp_mono ((acode_R ok hcall n b T W _ _ _ hrun).1 r a w h) ?_
              rintro _ a2 w2 ⟨rfl, r2, h2, f2⟩
              exact ⟨rest, hf, mono m rest a2 w2 _ _ (fun e3 a3 w3 h3 => h3.trans f2) (ihm rest T2 W2 e r2 a2 w2 h2)⟩
            · cases e
          · rename_i hq
            refine wp_mono ((acode_R ok hcall n b T W _ _ _ e).1 r a w h) ?_
            rintro _ a2 w2 ⟨rfl, r2, h2, f2⟩
            cases x with
            | goto l => exact absurd e (hq l T1 W1)
            | normal => exact ⟨rfl, r2, h2, f2⟩
            | exit id => exact ⟨rfl, r2, h2, f2⟩
            | ret => exact ⟨rfl, r2, h2, f2⟩
      exact wp_scope_rounds (key n y T W e r a w h)
    | rangeFunc f ps asg y => cases e
    | refuse why => cases e

def argT : List Value → Nat → Tb Value → Tb Value
  | [], _, T => T
  | v :: l, i, T => argT l (i + 1) (T.set i (some v))
theorem argT_tv : ∀ (l : List Value) (i : Nat) (T : Tb Value) (t : Nat), tv (argT l i T) t = if i ≤ t ∧ t < i + l.length then l.getD (t - i) undef else tv T t
  | [], i, T, t => by
    simp only [argT, List.length_nil]
    rw [if_neg (by omega)]
  | v :: l, i, T, t => by
    simp only [argT]
    rw [argT_tv l]
    by_cases h1 : i + 1 ≤ t ∧ t < i + 1 + l.length
    · rw [if_pos h1, if_pos (by simp; omega), show t - i = (t - (i + 1)) + 1 by omega]
      simp
    · rw [if_neg h1]
      unfold tv
      rw [Tb.get_set]
      by_cases h2 : t = i
      · subst h2
        rw [if_pos rfl, if_pos (by simp)]
        simp
      · rw [if_neg h2, if_neg (by simp; omega)]
def xres (E : Env) (T : Tb Value) : List ResultVar → Sem (List Value)
  | [] => .pure []
  | .tmp t :: l => (xres E T l).bind fun vs => .pure (tv T t :: vs)
  | .cell a t :: l => (xload E t (tv T a)).bind fun v => (xres E T l).bind fun vs => .pure (v :: vs)
def wrapR : List Value → Value
  | [v] => v
  | l => .tuple ⟨l⟩
theorem xres_R (ok : E.Ok) {T : Tb Value} {tmps : Array Value} : ∀ (l : List ResultVar) (r : Ren), (∀ t, VR r (tv T t) (tmps.getD t undef)) →
    SemR E.P (fun s (vs vs' : List Value) => VRs s ⟨vs⟩ ⟨vs'⟩) r (xres E T l) (l.mapM fun | .tmp t => pure (tmps.getD t undef) | .cell a t => do loadVar t (← asAddr (tmps.getD a undef)))
  | [], r, h => .pure (VRs.nil r)
  | .tmp t :: l, r, h => by
    rw [List.mapM_cons]
    simp only [xres, pure_bind]
    refine SemR.bind' (xres_R ok l r h) fun s vs vs' hl hv => .pure ?_
    have h1 := (VRs.one ((h t).le hl)).app hv
    simpa using h1
  | .cell a t :: l, r, h => by
    rw [List.mapM_cons]
    simp only [xres]
    have hx : SemR E.P VR r (xload E t (tv T a)) (do loadVar t (← asAddr (tmps.getD a undef))) := by
      unfold xload
      have ha := h a
      split
      · rename_i ad i had hi
        obtain ⟨ad', e1, _, h2⟩ := adr_R ha had
        rw [e1]
        exact loadVar_R ok hi h2
      · exact .halt
    refine SemR.bind' hx fun s v v' hl hv => SemR.bind' (xres_R ok l s fun t => (h t).le hl) fun s2 vs vs' hl2 hvs => .pure ?_
    have h1 := (VRs.one (hv.le hl2)).app hvs
    simpa using h1
theorem results_R (ok : E.Ok) {fn : Func} {T : Tb Value} {tmps : Array Value} {r : Ren} (h : ∀ t, VR r (tv T t) (tmps.getD t undef)) : SemR E.P VR r ((xres E T fn.results.toList).bind fun vs => .pure (wrapR vs)) (results fn tmps) := by
  unfold results
  rw [Array.mapM_eq_mapM_toList, bind_map_left]
  refine SemR.bind' (xres_R ok _ r h) fun s vs vs' hl hv => .pure ?_
  unfold wrapR
  split
  · rename_i v
    obtain ⟨v', e, h1⟩ := VRs.single hv
    injection e with e
    subst e
    exact h1
  · rename_i hne
    obtain ⟨h1, h2⟩ := hv
    have : vs'.toArray.size ≠ 1 := by
      intro e
      simp only [List.size_toArray] at h1 e
      match vs, h1 with
      | [v], _ => exact hne v rfl
      | [], h1 => exact absurd (h1.symm.trans e) (by simp)
      | _ :: _ :: _, h1 => exact absurd (h1.symm.trans e) (by simp)
    rw [dif_neg this]
    exact .tuple h1 h2
/-- A function's run: depth d, so and so many steps. -/
def acall (E : Env) (gl fuel : Nat) : Nat → CallF
  | 0, _, _, _ => none
  | d + 1, f, args, W =>
    match E.fn.get f with
    | none => none
    | some fi => match acode E gl (args.toList.length + (fi.ntmps - args.toList.length)) (acall E gl fuel d) fuel fi.code (argT args.toList 0 .e) W with
      | some (.normal, T1, W1) => match arunQ E.P ((xres E T1 fi.results).bind fun vs => .pure (wrapR vs)) W1 with
        | some v => some (v, W1)
        | none => none
      | some (.ret, T1, W1) => match arunQ E.P ((xres E T1 fi.results).bind fun vs => .pure (wrapR vs)) W1 with
        | some v => some (v, W1)
        | none => none
      | _ => none
theorem acall_ok (ok : E.Ok) (fuel : Nat) : ∀ d, CallOk E.P gl (acall E gl fuel d)
  | 0 => fun f args W v W1 e => by cases e
  | d + 1 => by
    intro f args W v W1 e r args' w hargs hgr hwr
    simp only [acall] at e
    split at e
    · cases e
    · rename_i fi hfi
      obtain ⟨fn, h1, h2, h3, h4, _⟩ := ok.fn f fi hfi
      have hsz : args'.size = args.toList.length := by rw [hargs.1]; simp
      have sr : SR E.P gl (args.toList.length + (fi.ntmps - args.toList.length)) r (argT args.toList 0 .e) { tmps := args' ++ Array.replicate (fn.ntmps - args'.size) undef, defers := [] } W w := by
        refine ⟨by simp [hsz, h3], fun t => ?_, hgr, hwr, rfl⟩
        rw [argT_tv]
        by_cases ht : 0 ≤ t ∧ t < 0 + args.toList.length
        · rw [if_pos ht]
          have hlt : t < args.size := by simpa using ht.2
          have hlt' : t < args'.size := by rw [hargs.1]; exact hlt
          have e1 : (args' ++ Array.replicate (fn.ntmps - args'.size) undef).getD t undef = args'[t] := by
            simp [Array.getD_eq_getD_getElem?, Array.getElem?_append, hlt']
          have e2 : args.toList.getD (t - 0) undef = args[t] := by simp [List.getD, hlt]
          rw [e1, e2]
          exact hargs.2 t _ _ (Array.getElem?_eq_getElem hlt) (Array.getElem?_eq_getElem hlt')
        · rw [if_neg ht]
          have hge : ¬ t < args'.size := by rw [hsz]; omega
          have e1 : (args' ++ Array.replicate (fn.ntmps - args'.size) undef).getD t undef = undef := by
            rw [Array.getD_eq_getD_getElem?, Array.getElem?_append, if_neg hge]
            by_cases h5 : t - args'.size < fn.ntmps - args'.size <;> simp [h5]
          rw [e1]
          exact VR.undef r
      have fin : ∀ (x : XE) (T1 : Tb Value), (x = .normal ∨ x = .ret) → acode E gl (args.toList.length + (fi.ntmps - args.toList.length)) (acall E gl fuel d) fuel fi.code (argT args.toList 0 .e) W = some (x, T1, W1) →
          arunQ E.P ((xres E T1 fi.results).bind fun vs => .pure (wrapR vs)) W1 = some v → Calls E.P f args' w fun e w1 => ∃ r1 v', e = .returned v' ∧ VR r1 v v' ∧ WR E.P r1 W1 w1 ∧ Fr r W w r1 W1 w1 := fun x T1 hx hrun hres => by
        refine calls_of_wp h1 h2 (wp_mono ((acode_R ok (acall_ok ok fuel d) fuel fi.code _ W x T1 W1 hrun).1 r _ w sr) ?_)
        rintro _ a2 w2 ⟨rfl, r2, s2, f2⟩
        rw [← h4] at hres
        obtain ⟨v', k1, k2⟩ := (results_R ok (fn := fn) s2.tm).runQ W1 w2 s2.wr v hres
        rcases hx with rfl | rfl
        · exact ⟨s2.df, v', k1, r2, v', rfl, k2, s2.wr, f2⟩
        · exact ⟨s2.df, v', k1, r2, v', rfl, k2, s2.wr, f2⟩
      split at e
      · rename_i T1 W2 hrun
        split at e
        · rename_i v2 hres
          simp only [Option.some.injEq, Prod.mk.injEq] at e
          obtain ⟨rfl, rfl⟩ := e
          exact fin .normal T1 (.inl rfl) hrun hres
        · cases e
      · rename_i T1 W2 hrun
        split at e
        · rename_i v2 hres
          simp only [Option.some.injEq, Prod.mk.injEq] at e
          obtain ⟨rfl, rfl⟩ := e
          exact fin .ret T1 (.inr rfl) hrun hres
        · cases e
      · cases e
end
end Go.Proofs.Ytkodblhompphjaa

namespace Go.Proofs.Ytkodblhompphjaa
open Go.RowKit

/-- A world of which nothing is known but the names of its first blocks. -/
def W00 (gl : Nat) : AW := ⟨.e, gl, gl⟩
def r00 (gl : Nat) : Ren := fun k => if k < gl then some (k, 0) else none
theorem W00_get (gl k : Nat) : (W00 gl).get k = none := rfl
theorem WR.blank (P : Program) {r : Ren} {n : Nat} (hr : ∀ k p, r k = some p → k < n) (w : World) : WR P r (W00 n) w :=
  ⟨hr, (fun k o l hk => by rw [W00_get] at hk; cases hk), fun j k b x y hj => absurd (W00_get n j) hj⟩
theorem r00_dom (gl : Nat) : ∀ k p, r00 gl k = some p → k < gl := by
  intro k p hk
  unfold r00 at hk
  by_cases h : k < gl
  · exact h
  · rw [if_neg h] at hk; cases hk
theorem WR00 (P : Program) (gl : Nat) (w : World) : WR P (r00 gl) (W00 gl) w := WR.blank P (r00_dom gl) w
theorem GR00 (gl : Nat) : GR gl (r00 gl) := fun g hg => ⟨0, by simp [r00, hg]⟩
theorem Fr.only {W : AW} {w : World} {r r1 : Ren} {W1 : AW} {w1 : World} (f : Fr r W w r1 W1 w1) (hW : ∀ k, W.holds k → k < W.ro) : Only [] w w1 :=
  ⟨f.os, f.tape, f.output, f.size, fun b hb _ => f.old b hb fun k _ hk hle => absurd (hW k hk) (Nat.not_lt.2 hle)⟩
theorem W00_ro (gl : Nat) : ∀ k, (W00 gl).holds k → k < (W00 gl).ro := fun k hk => absurd (W00_get gl k) hk
theorem VRs.simples {r : Ren} {cs : Array Value} (h : cs.toList.all Go.Proofs.Ytkodblhompphjaa.simple = true) : VRs r cs cs := by
  refine ⟨rfl, fun i v v' h1 h2 => ?_⟩
  rw [h1] at h2
  injection h2 with h2
  subst h2
  rw [List.all_eq_true] at h
  exact .simple (h v (by rw [Array.mem_toList_iff]; exact Array.mem_of_getElem? h1))
/-- What a function may answer and be the same in every world. -/
def simpleR : Value → Bool
  | .tuple vs => vs.toList.all Go.Proofs.Ytkodblhompphjaa.simple
  | v => Go.Proofs.Ytkodblhompphjaa.simple v
theorem simpleR_eq {r : Ren} {v v' : Value} (h : VR r v v') (hs : simpleR v = true) : v' = v := by
  unfold simpleR at hs
  split at hs
  · rename_i cs
    cases h with
    | @tuple _ cs' h1 h2 =>
      congr 1
      apply Array.ext h1
      intro i hi hi'
      have h3 := h2 i cs[i] cs'[i] (Array.getElem?_eq_getElem hi') (Array.getElem?_eq_getElem hi)
      rw [List.all_eq_true] at hs
      exact simple_eq h3 (hs _ (by rw [Array.mem_toList_iff]; exact Array.getElem_mem hi'))
  · exact simple_eq h hs
def veqLs : List Value → List Value → Bool
  | [], [] => true
  | a :: l, b :: m => veq a b && veqLs l m
  | _, _ => false
/-- veq of what a function answers: a tuple may hold structs. -/
def veqR : Value → Value → Bool
  | .tuple ⟨a⟩, .tuple ⟨b⟩ => veqLs a b
  | a, b => veq a b
theorem veqLs_eq : ∀ {l m : List Value}, veqLs l m = true → l = m
  | [], [], _ => rfl
  | [], _ :: _, h => by cases h
  | _ :: _, [], h => by cases h
  | a :: l, b :: m, h => by
    simp only [veqLs, Bool.and_eq_true] at h
    rw [veq_eq h.1, veqLs_eq h.2]
theorem veqR_eq {a b : Value} (h : veqR a b = true) : a = b := by
  unfold veqR at h
  split at h
  · rw [veqLs_eq h]
  · exact veq_eq h
/-- A function's run comes to v. -/
def runsIn (E : Env) (gl fuel d : Nat) (f : FuncId) (args : Array Value) (W : AW) (v : Value) : Bool :=
  simpleR v && (match acall E gl fuel d f args W with
    | some (u, _) => veqR u v
    | none => false)
theorem runIn_ok {E : Env} (ok : E.Ok) {gl fuel d : Nat} {f : FuncId} {args args' : Array Value} {W : AW} {r : Ren} {v : Value} {w : World}
    (hr : runsIn E gl fuel d f args W v = true) (ha : VRs r args args') (hg : GR gl r) (hw : WR E.P r W w) (hro : ∀ k, W.holds k → k < W.ro) : Calls E.P f args' w fun e w1 => e = .returned v ∧ Only [] w w1 := by
  unfold runsIn at hr
  rw [Bool.and_eq_true] at hr
  obtain ⟨hv, h⟩ := hr
  split at h
  · rename_i u W1 hrun
    have := veqR_eq h
    subst this
    refine ((acall_ok (gl := gl) ok fuel d) f args W u W1 hrun r args' w ha hg hw).mono ?_
    rintro _ w1 ⟨r1, v', rfl, h1, _, h3⟩
    exact ⟨by rw [simpleR_eq h1 hv], h3.only hro⟩
  · cases h
def runsTo (E : Env) (gl fuel d : Nat) (f : FuncId) (args : Array Value) (v : Value) : Bool :=
  args.toList.all simple && runsIn E gl fuel d f args (W00 gl) v
theorem run_to {E : Env} (ok : E.Ok) {gl fuel d : Nat} {f : FuncId} {args : Array Value} {v : Value} (h : runsTo E gl fuel d f args v = true) (w : World) : Calls E.P f args w fun e w1 => e = .returned v ∧ Only [] w w1 := by
  unfold runsTo at h
  rw [Bool.and_eq_true] at h
  exact runIn_ok ok h.2 (VRs.simples h.1) (GR00 gl) (WR00 _ gl w) (W00_ro gl)
/-- A function's run comes to what looks like v. -/
def runsLike (E : Env) (gl fuel d : Nat) (f : FuncId) (args : Array Value) (v : Value) : Bool :=
  args.toList.all simple && (match acall E gl fuel d f args (W00 gl) with
    | some (u, _) => veqR u v
    | _ => false)
theorem run_like {E : Env} (ok : E.Ok) {gl fuel d : Nat} {f : FuncId} {args : Array Value} {v : Value} (h : runsLike E gl fuel d f args v = true) (w : World) : Calls E.P f args w fun e w1 => (∃ r v', e = .returned v' ∧ VR r v v') ∧ Only [] w w1 := by
  unfold runsLike at h
  rw [Bool.and_eq_true] at h
  obtain ⟨ha, h⟩ := h
  split at h
  · rename_i u W1 hrun
    have := veqR_eq h
    subst this
    refine ((acall_ok (gl := gl) ok fuel d) f args (W00 gl) _ W1 hrun (r00 gl) args w (VRs.simples ha) (GR00 gl) (WR00 _ gl w)).mono ?_
    rintro _ w1 ⟨r1, v', rfl, h1, _, h3⟩
    exact ⟨⟨_, _, rfl, h1⟩, h3.only (W00_ro gl)⟩
  · cases h
end Go.Proofs.Ytkodblhompphjaa

namespace Go.Proofs.Ytkodblhompphjaa
open Go.RowKit

noncomputable def E0 : Env := mkEnv Try.prog 9 9
theorem E0_ok : E0.Ok := mkEnv_ok _ _ _ (by kernel_rfl)
set_option maxRecDepth 1000000 in
theorem awake_run : runsTo E0 0 5000 50 12 #[] (.bool true) = true := by kernel_rfl
theorem awake15_any (w : World) : Calls Try.prog 12 #[] w fun e w1 => e = .returned (.bool true) ∧ Only [] w w1 :=
  run_to E0_ok awake_run w
end Go.Proofs.Ytkodblhompphjaa

namespace Go.Proofs.Ytkodblhompphjaa
open Go.RowKit
theorem nobody_of {W : World} {l0 l1 : List Value} (h0 : Oks W kP l0) (h1 : Oks W kP l1) (n : Int) (w : World) : Calls Try.prog 6 #[.agg ⟨l0⟩, .agg ⟨l1⟩, .int .i64 n] w fun e w' => e = .returned (.bool true) ∧ Only [] w w' := by
  obtain ⟨a, -, rfl⟩ := decP l0 h0
  obtain ⟨p, -, rfl⟩ := decP l1 h1
  exact tnobody_any awake15_any a p n w
end Go.Proofs.Ytkodblhompphjaa

namespace Go.Proofs.Ytkodblhompphjaa
open Go.ChangeShapes Go.WideShapes Go.ChangeAt Go.RowKit
theorem own_knob : ownKnob Try.prog.godebug = none := by kernel_rfl
theorem laid_out : laidOutB Try.prog = true := by kernel_rfl
theorem bounds_i64 {n : Int} (h : (Lit.int .i64 n).wf = true) : -9223372036854775808 ≤ n ∧ n ≤ 9223372036854775807 := by
  simp [Lit.wf, IntKind.min, IntKind.max, IntKind.signed, IntKind.bits] at h
  omega
end Go.Proofs.Ytkodblhompphjaa
