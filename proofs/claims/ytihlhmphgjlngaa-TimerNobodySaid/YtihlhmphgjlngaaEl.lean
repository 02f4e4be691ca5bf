/-
  Running a program by reckoning, 21: what a whole run says: of a function whose arguments hold no addresses, in whatever world.
  Nothing here speaks of the program.
-/
import Derived.Test.YtihlhmphgjlngaaEk
namespace Go.Proofs.Ytihlhmphgjlngaa
open Go.RowKit

/-- A world of which nothing is known but the names of its first blocks. -/
def W00 (gl : Nat) : AW := ⟨.e, gl, gl⟩
def r00 (gl : Nat) : Ren := fun k => if k < gl then some (k, 0) else none
theorem W00_get (gl k : Nat) : (W00 gl).get k = none := rfl
theorem WR.blank (P : Program) {r : Ren} {n : Nat} (hr : ∀ k p, r k = some p → k < n) (w : World) : WR P r (W00 n) w :=
  ⟨hr, (fun k o l hk => by rw [W00_get] at hk; cases hk), fun j k b x y hj => absurd (W00_get n j) hj⟩
theorem r00_dom (gl : Nat) : ∀ k p, r00 gl k = some p → k < gl := by
  intro k p hk
  unfold r00 at hk
  by_cases h : k < gl
  · exact h
  · rw [if_neg h] at hk; cases hk
theorem WR00 (P : Program) (gl : Nat) (w : World) : WR P (r00 gl) (W00 gl) w := WR.blank P (r00_dom gl) w
theorem GR00 (gl : Nat) : GR gl (r00 gl) := fun g hg => ⟨0, by simp [r00, hg]⟩
theorem Fr.only {W : AW} {w : World} {r r1 : Ren} {W1 : AW} {w1 : World} (f : Fr r W w r1 W1 w1) (hW : ∀ k, W.holds k → k < W.ro) : Only [] w w1 :=
  ⟨f.os, f.tape, f.output, f.size, fun b hb _ => f.old b hb fun k _ hk hle => absurd (hW k hk) (Nat.not_lt.2 hle)⟩
theorem W00_ro (gl : Nat) : ∀ k, (W00 gl).holds k → k < (W00 gl).ro := fun k hk => absurd (W00_get gl k) hk
theorem VRs.simples {r : Ren} {cs : Array Value} (h : cs.toList.all Go.Proofs.Ytihlhmphgjlngaa.simple = true) : VRs r cs cs := by
  refine ⟨rfl, fun i v v' h1 h2 => ?_⟩
  rw [h1] at h2
  injection h2 with h2
  subst h2
  rw [List.all_eq_true] at h
  exact .simple (h v (by rw [Array.mem_toList_iff]; exact Array.mem_of_getElem? h1))
/-- What a function may answer and be the same in every world. -/
def simpleR : Value → Bool
  | .tuple vs => vs.toList.all Go.Proofs.Ytihlhmphgjlngaa.simple
  | v => Go.Proofs.Ytihlhmphgjlngaa.simple v
theorem simpleR_eq {r : Ren} {v v' : Value} (h : VR r v v') (hs : simpleR v = true) : v' = v := by
  unfold simpleR at hs
  split at hs
  · rename_i cs
    cases h with
    | @tuple _ cs' h1 h2 =>
      congr 1
      apply Array.ext h1
      intro i hi hi'
      have h3 := h2 i cs[i] cs'[i] (Array.getElem?_eq_getElem hi') (Array.getElem?_eq_getElem hi)
      rw [List.all_eq_true] at hs
      exact simple_eq h3 (hs _ (by rw [Array.mem_toList_iff]; exact Array.getElem_mem hi'))
  · exact simple_eq h hs
def veqLs : List Value → List Value → Bool
  | [], [] => true
  | a :: l, b :: m => veq a b && veqLs l m
  | _, _ => false
/-- veq of what a function answers: a tuple may hold structs. -/
def veqR : Value → Value → Bool
  | .tuple ⟨a⟩, .tuple ⟨b⟩ => veqLs a b
  | a, b => veq a b
theorem veqLs_eq : ∀ {l m : List Value}, veqLs l m = true → l = m
  | [], [], _ => rfl
  | [], _ :: _, h => by cases h
  | _ :: _, [], h => by cases h
  | a :: l, b :: m, h => by
    simp only [veqLs, Bool.and_eq_true] at h
    rw [veq_eq h.1, veqLs_eq h.2]
theorem veqR_eq {a b : Value} (h : veqR a b = true) : a = b := by
  unfold veqR at h
  split at h
  · rw [veqLs_eq h]
  · exact veq_eq h
/-- A function's run comes to v. -/
def runsIn (E : Env) (gl fuel d : Nat) (f : FuncId) (args : Array Value) (W : AW) (v : Value) : Bool :=
  simpleR v && (match acall E gl fuel d f args W with
    | some (u, _) => veqR u v
    | none => false)
theorem runIn_ok {E : Env} (ok : E.Ok) {gl fuel d : Nat} {f : FuncId} {args args' : Array Value} {W : AW} {r : Ren} {v : Value} {w : World}
    (hr : runsIn E gl fuel d f args W v = true) (ha : VRs r args args') (hg : GR gl r) (hw : WR E.P r W w) (hro : ∀ k, W.holds k → k < W.ro) : Calls E.P f args' w fun e w1 => e = .returned v ∧ Only [] w w1 := by
  unfold runsIn at hr
  rw [Bool.and_eq_true] at hr
  obtain ⟨hv, h⟩ := hr
  split at h
  · rename_i u W1 hrun
    have := veqR_eq h
    subst this
    refine ((acall_ok (gl := gl) ok fuel d) f args W u W1 hrun r args' w ha hg hw).mono ?_
    rintro _ w1 ⟨r1, v', rfl, h1, _, h3⟩
    exact ⟨by rw [simpleR_eq h1 hv], h3.only hro⟩
  · cases h
def runsTo (E : Env) (gl fuel d : Nat) (f : FuncId) (args : Array Value) (v : Value) : Bool :=
  args.toList.all simple && runsIn E gl fuel d f args (W00 gl) v
theorem run_to {E : Env} (ok : E.Ok) {gl fuel d : Nat} {f : FuncId} {args : Array Value} {v : Value} (h : runsTo E gl fuel d f args v = true) (w : World) : Calls E.P f args w fun e w1 => e = .returned v ∧ Only [] w w1 := by
  unfold runsTo at h
  rw [Bool.and_eq_true] at h
  exact runIn_ok ok h.2 (VRs.simples h.1) (GR00 gl) (WR00 _ gl w) (W00_ro gl)
/-- A function's run comes to what looks like v. -/
def runsLike (E : Env) (gl fuel d : Nat) (f : FuncId) (args : Array Value) (v : Value) : Bool :=
  args.toList.all simple && (match acall E gl fuel d f args (W00 gl) with
    | some (u, _) => veqR u v
    | _ => false)
theorem run_like {E : Env} (ok : E.Ok) {gl fuel d : Nat} {f : FuncId} {args : Array Value} {v : Value} (h : runsLike E gl fuel d f args v = true) (w : World) : Calls E.P f args w fun e w1 => (∃ r v', e = .returned v' ∧ VR r v v') ∧ Only [] w w1 := by
  unfold runsLike at h
  rw [Bool.and_eq_true] at h
  obtain ⟨ha, h⟩ := h
  split at h
  · rename_i u W1 hrun
    have := veqR_eq h
    subst this
    refine ((acall_ok (gl := gl) ok fuel d) f args (W00 gl) _ W1 hrun (r00 gl) args w (VRs.simples ha) (GR00 gl) (WR00 _ gl w)).mono ?_
    rintro _ w1 ⟨r1, v', rfl, h1, _, h3⟩
    exact ⟨⟨_, _, rfl, h1⟩, h3.only (W00_ro gl)⟩
  · cases h
end Go.Proofs.Ytihlhmphgjlngaa
