/-
  Running a program by reckoning, 19: drawn regions, code, calls.
  Nothing here speaks of the program.
-/
import Derived.Test.YtihlhmphgjlngaaEi
import Derived.LoopN
import Derived.Scope
namespace Go.Proofs.Ytihlhmphgjlngaa
open Go.RowKit

section
variable {E : Env} {gl : Nat}
theorem draw_R (ok : E.Ok) {call : CallF} (hcall : CallOk E.P gl call) {N : Nat} {ops : Array Oper} {T T1 : Tb Value} {W W1 : AW} (e : adraw E call gl N ops.toList T W = some (T1, W1)) {r : Ren} {a : Act} {w : World} {Q : Exit → Act → World → Prop}
    (h : SR E.P gl N r T a W w) (hQ : ∀ r1 a1 w1, SR E.P gl N r1 T1 a1 W1 w1 → Fr r W w r1 W1 w1 → Q .normal a1 w1) (id : Nat) : (Code.region id ops true).wp E.P Q a w := by
  unfold adraw at e
  split at e
  rotate_left
  · cases e
  rename_i rs Tf hdr hpass
  generalize hc : (⟨E, call, gl, N, ops.toList, masks ops.toList 0 .e, W.next, { W with next := W.next + ops.toList.length }⟩ : Cx) = c at e hpass
  have hcE : c.E = E := by rw [← hc]
  have hccall : c.call = call := by rw [← hc]
  have hcgl : c.gl = gl := by rw [← hc]
  have hcN : c.N = N := by rw [← hc]
  have hcol : c.ol = ops.toList := by rw [← hc]
  have hcM : c.M = masks ops.toList 0 .e := by rw [← hc]
  have hcb : c.base = W.next := by rw [← hc]
  have hcW : c.W0 = { W with next := W.next + ops.toList.length } := by rw [← hc]
  have hmk : ∀ j, c.mk' j = match nthL (masks ops.toList 0 .e) j with | some m => m | none => 0 := fun j => by
    unfold Cx.mk'
    rw [hcM]
    rfl
  have hdr' : drawOk c.mk' c.ol c.ol 0 = true := by
    rw [hcol, ← hdr]
    congr 1
    funext j
    exact hmk j
  obtain ⟨good, e0len⟩ := pass_good (c := c) (T0 := T) ops.toList (masks ops.toList 0 .e) [] T rs Tf hpass .nil (fun i => by simp [hcol]) (fun i => by simp [hcM])
  have hlen : rs.length = ops.size := by simpa using e0len
  cases hqa : qall c rs rs with
  | false => rw [hqa] at e; cases e
  | true =>
    rw [hqa] at e
    simp only [cond_true, Option.some.injEq, Prod.mk.injEq] at e
    obtain ⟨rfl, eW⟩ := e
    subst hcE
    refine wp_region_any ok.mixed ?_
    have main : ∀ (f : Nat) (listed : Array Bool) (a : Act) (w' : World), listed.size = ops.size → unl listed ops.size ≤ f → Inv c T rs r W w (fun x => listed.getD x false) a w' → wpAny c.E.P .any ops Q f listed a w' := by
      intro f
      have fin : ∀ (listed : Array Bool) (a : Act) (w' : World), (∀ i, i < ops.size → listed.getD i false = true) → Inv c T rs r W w (fun x => listed.getD x false) a w' → Q .normal a w' := fun listed a w' hall inv => by
        obtain ⟨isz, idf, idown, r1, newer, older, hsp, hnew, hold, htm, hgr, hwr, hfr, _, _, _⟩ := inv
        have hn0 : newer = [] := by
          cases newer with
          | nil => rfl
          | cons x l =>
            have h1 := hnew x List.mem_cons_self
            have h2 := hsOf_lt (show x ∈ hsOf rs by rw [hsp]; exact List.mem_append_left _ List.mem_cons_self)
            rw [hall x.1 (by omega)] at h1
            cases h1
        subst hn0
        rw [List.nil_append] at hsp
        subst hsp
        have hg : ∀ q, W1.get q = (wAt c (hsOf rs) (fun x => listed.getD x false) rs).get q := fun q => by
          rw [← eW, get_wAt, get_wAt]
          have e1 : (addR (curW c.W0 (hsOf rs)) c.base (fun _ => true) rs).get q = (addR (curW c.W0 (hsOf rs)) c.base (fun x => listed.getD x false) rs).get q := by
            rw [get_addR, get_addR]
            cases (curW c.W0 (hsOf rs)).get q with
            | some x => rfl
            | none =>
              dsimp only
              by_cases hb : c.base ≤ q
              · by_cases hlt : q - c.base < rs.length
                · rw [hall (q - c.base) (by omega)]
                · rw [alAt_ge (by omega)]
                  simp
              · simp [hb]
          rw [e1]
          congr 1
          funext x
          rw [stO_congr (D := fun i => true && aft (hsOf rs) i) (D' := fun i => listed.getD i false && aft (hsOf rs) i) fun i a vs hi _ _ => by rw [hall i (by omega)]]
        have hn1 := wAt_next c (hsOf rs) (fun x => listed.getD x false) rs
        have hn2 := wAt_next c (hsOf rs) (fun _ => true) rs
        have eN : W1.next = (wAt c (hsOf rs) (fun x => listed.getD x false) rs).next := by
          rw [← eW, hn1.1, hn2.1]
        have eR : W1.ro = (wAt c (hsOf rs) (fun x => listed.getD x false) rs).ro := by
          rw [← eW, hn1.2, hn2.2]
        refine hQ r1 a w' ⟨by rw [isz, hcN], fun t => ?_, hcgl ▸ hgr, hwr.congr hg eN, idf⟩ (hfr.congr hg eN eR)
        have e1 : tvD c T (fun x => listed.getD x false) rs t = tvD c T (fun _ => true) rs t := tvD_congr fun i hi _ => hall i (by omega)
        have h2 := htm t
        rw [e1, ← good.tv t] at h2
        exact h2
      -- some that is left is ready
      have some_ready : ∀ (listed : Array Bool), listed.size = ops.size → Region.ready .any ops listed = [] → ∀ i, i < ops.size → listed.getD i false = true := fun listed hsz hr i => by
        induction i using Nat.strongRecOn with
        | _ i ih =>
          intro hi
          cases hli : listed.getD i false with
          | true => rfl
          | false =>
            have hmem : i ∈ Region.ready .any ops listed := by
              unfold Region.ready
              rw [List.mem_filter]
              refine ⟨List.mem_range.2 hi, ?_⟩
              have h1 : listed.getD i true = false := by
                have hlt : i < listed.size := by omega
                rw [Array.getD_eq_getD_getElem?, Array.getElem?_eq_getElem hlt, Option.getD_some] at hli ⊢
                exact hli
              rw [h1, Array.getElem?_eq_getElem hi]
              simp only [Bool.not_false, Bool.true_and, Option.map_some, Option.getD_some]
              rw [Array.all_eq_true]
              intro j hj
              cases hb : Region.binds .any (ops[i].after[j]) with
              | false => rfl
              | true =>
                simp only [Bool.not_true, Bool.false_or]
                -- it stands ahead
                have ho : c.ol[i]? = some ops[i] := by rw [hcol]; simp [hi]
                obtain ⟨dk1, _, _⟩ := drawOk_spec (j0 := 0) (i := i) hdr' ho
                rw [Nat.zero_add] at dk1
                have hbit : Nat.testBit (c.mk' i) (ops[i].after[j]).on = true := by
                  rw [hmk, nthL_eq]
                  have hmi : i < (masks ops.toList 0 .e).length := by rw [masks_length]; simpa using hi
                  rw [List.getElem?_eq_getElem hmi]
                  dsimp only
                  have : ∀ (l : List Oper) (j0 : Nat) (tb : Tb Nat) (k : Nat) (o : Oper) (hk : k < (masks l j0 tb).length), l[k]? = some o → ∀ ed ∈ o.after.toList, Region.binds .any ed = true → Nat.testBit ((masks l j0 tb)[k]) ed.on = true := by
                    intro l
                    induction l with
                    | nil => intro j0 tb k o hk; simp [masks] at hk
                    | cons o0 l ihl =>
                      intro j0 tb k o hk ho ed hed hbd
                      cases k with
                      | zero =>
                        simp only [List.getElem?_cons_zero, Option.some.injEq] at ho
                        subst ho
                        simp only [masks, List.getElem_cons_zero]
                        have : ∀ (l : List Edge), ed ∈ l → Nat.testBit (maskE tb l) ed.on = true := by
                          intro l
                          induction l with
                          | nil => intro h; cases h
                          | cons e0 l ihe =>
                            intro h
                            simp only [maskE]
                            rcases List.mem_cons.1 h with rfl | h
                            · rw [hbd]
                              simp only [cond_true]
                              show Nat.testBit ((1 <<< ed.on ||| _) ||| _) ed.on = true
                              rw [Nat.testBit_or, Nat.testBit_or, Nat.one_shiftLeft, Nat.testBit_two_pow]
                              simp
                            · cases hb0 : Region.binds .any e0 with
                              | false => exact ihe h
                              | true =>
                                simp only [cond_true]
                                show Nat.testBit (_ ||| maskE tb l) ed.on = true
                                rw [Nat.testBit_or, ihe h]
                                simp
                        exact this _ hed
                      | succ k =>
                        simp only [masks, List.getElem_cons_succ]
                        exact ihl (j0 + 1) _ k o (by simp [masks] at hk; omega) (by simpa using ho) ed hed hbd
                  exact this ops.toList 0 .e i ops[i] hmi (by simp [hi]) _ (by simp) hb
                have hlt := maskbit_lt dk1 hbit
                exact ih _ hlt (by omega)
            rw [hr] at hmem
            cases hmem
      induction f with
      | zero =>
        intro listed a w' hsz hu inv
        have hall := unl_zero (Nat.le_zero.1 hu)
        refine ⟨?_, fin listed a w' hall inv⟩
        unfold Region.ready
        rw [List.filter_eq_nil_iff]
        intro i hi
        have hi' := List.mem_range.1 hi
        have h1 : listed.getD i true = true := by
          have := hall i hi'
          have hlt : i < listed.size := by omega
          rw [Array.getD_eq_getD_getElem?, Array.getElem?_eq_getElem hlt, Option.getD_some] at this ⊢
          exact this
        rw [h1]
        simp
      | succ f ih =>
        intro listed a w' hsz hu inv
        refine ⟨fun hr => fin listed a w' (some_ready listed hsz hr) inv, fun i hi => ?_⟩
        unfold Region.ready at hi
        rw [List.mem_filter] at hi
        obtain ⟨hi1, hi2⟩ := hi
        have hi1 := List.mem_range.1 hi1
        rw [Array.getElem?_eq_getElem hi1] at hi2
        simp only [Option.map_some, Option.getD_some, Bool.and_eq_true, Bool.not_eq_true'] at hi2
        obtain ⟨hi2, hi3⟩ := hi2
        have hDi : listed.getD i false = false := by
          have hlt : i < listed.size := by omega
          rw [Array.getD_eq_getD_getElem?, Array.getElem?_eq_getElem hlt, Option.getD_some] at hi2 ⊢
          exact hi2
        have hpre : ∀ i', Nat.testBit (c.mk' i) i' = true → listed.getD i' false = true := fun i' hb => by
          rw [hmk, nthL_eq] at hb
          have hmi : i < (masks ops.toList 0 .e).length := by rw [masks_length]; simpa using hi1
          rw [List.getElem?_eq_getElem hmi] at hb
          obtain ⟨ed, h1, h2, h3⟩ := masks_spec (l := ops.toList) (j := 0) (tb := .e) (k := i) (o := ops[i]) (by simp [hi1]) (List.getElem?_eq_getElem hmi) hb
          have hed : listed.getD ed.on false = true := by
            rw [Array.all_eq_true] at hi3
            obtain ⟨q, hq, rfl⟩ := List.getElem_of_mem h1
            have := hi3 q (by simpa using hq)
            simp only [Array.getElem_toList] at h2 ⊢
            rw [h2] at this
            simpa using this
          rcases h3 with h3 | ⟨m', h4, h5⟩
          · rw [← h3]
            exact hed
          · rcases h5 with h5 | ⟨k', h5, h6⟩
            · cases h5
            · have hk' : k' < rs.length := by
                have : k' < (masks ops.toList 0 .e).length := by
                  apply Nat.lt_of_not_le
                  intro hle
                  rw [List.getElem?_eq_none hle] at h6
                  cases h6
                rw [masks_length] at this
                rw [hlen]
                simpa using this
              refine inv.down k' i' hk' ?_ ?_
              · rw [h5, Nat.zero_add] at hed
                exact hed
              · rw [hmk, nthL_eq, h6]
                exact h4
        refine step_one ok (by rw [hccall, hcgl]; exact hcall) hcol good hlen hdr' hqa h.wr hcb (by rw [hcW]) inv hi1 hDi hpre fun a1 w1 inv1 => ?_
        refine ih _ a1 w1 (by simpa using hsz) ?_ ?_
        · have := unl_set (l := listed) (by omega) hDi ops.size
          rw [if_pos hi1] at this
          omega
        · have : (fun x => (listed.setIfInBounds i true).getD x false) = upd (fun x => listed.getD x false) i := funext fun x => getD_set listed (by omega) x
          rw [this]
          exact inv1
    refine main ops.size _ a _ (by simp) (by rw [unl_all]; exact Nat.le_refl _) ?_
    have hD : (fun x => (Array.replicate ops.size false).getD x false) = fun _ => false := by
      funext x
      by_cases hx : x < ops.size <;> simp [Array.getD_eq_getD_getElem?, hx]
    rw [hD]
    have hget : ∀ q, (wAt c [] (fun _ => false) rs).get q = W.get q := fun q => by
      rw [get_wAt, get_addR]
      show (match c.W0.get q with | some x => some x | none => _).map _ = _
      rw [hcW]
      show (match W.get q with | some x => some x | none => _).map _ = _
      cases W.get q with
      | some x =>
        simp only [Option.map_some]
        rw [stO_none (D := fun i => false && aft [] i) fun i a vs _ _ _ => rfl]
      | none => simp
    have hn := wAt_next c [] (fun _ => false) rs
    have hW0n : c.W0.next = W.next + ops.size := by rw [hcW]; simp
    refine ⟨by rw [h.sz, hcN], h.df, (fun j i _ h1 => by cases h1), r, hsOf rs, [], by simp, fun x _ => rfl, (fun x hx => by cases hx), fun t => ?_, hcgl ▸ h.gr, ?_, ?_, fun i hi _ => ?_, fun i o l hi hg => ?_, ?_⟩
    · have : tvD c T (fun _ => false) rs t = tv T t := by
        clear hpass good hlen hqa main hget hn eW e0len
        induction rs with
        | nil => rfl
        | cons x rs ih =>
          obtain ⟨T2, k2⟩ := x
          simp only [tvD, Bool.false_and, cond_false]
          exact ih
      rw [this]
      exact h.tm t
    · exact ⟨fun k p hk => by
        have := h.wr.dom k p hk
        rw [hn.1]
        show k < c.W0.next
        omega, fun k o l hk => h.wr.live k o l ((hget k).symm.trans hk), fun j k b x y hj hk => h.wr.inj j k b x y (by unfold AW.holds at *; rwa [← hget]) (by unfold AW.holds at *; rwa [← hget])⟩
    · have f0 := Fr.refl r W w
      exact ⟨f0.le, by rw [hn.1]; show W.next ≤ c.W0.next; omega, by rw [hn.2]; show c.W0.ro = W.ro; rw [hcW], rfl, rfl, rfl, Nat.le_refl _, f0.old, f0.fresh, fun k _ hk => (hget k).trans hk, fun k o hk => ⟨o, (hget k).trans hk⟩, fun k b x hk h1 h2 => ⟨k, x, by unfold AW.holds at *; rwa [← hget], h1, fun h => h⟩⟩
    · cases hr : r (c.base + i) with
      | none => rfl
      | some p =>
        have := h.wr.dom _ _ hr
        omega
    · have hg' := (hget _).symm.trans hg
      obtain ⟨b, x, _, h1, _⟩ := h.wr.live _ _ _ hg'
      have := h.wr.dom _ _ h1
      omega
    · show c.base + rs.length ≤ c.W0.next
      omega
end
end Go.Proofs.Ytihlhmphgjlngaa
