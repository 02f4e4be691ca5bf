/-
  Running a program by reckoning, 7: equality, lengths, copies, ranges over texts, interfaces; an operation; a region in its order.
  Nothing here speaks of the program.
-/
import Derived.Test.YtihlhmphgjlngaaE6
namespace Go.Proofs.Ytihlhmphgjlngaa
open Go.RowKit

section
variable {E : Env}
theorem xequal_R (ok : E.Ok) : ∀ (n d : Nat) (r : Ren) (t : TypeId) (x x' y y' : Value), n ≤ d → VR r x x' → VR r y y' → SemR E.P (fun _ u v => u = v) r (xequal E n t x y) (Op.equalIn d t x' y')
  | 0, _, _, _, _, _, _, _, _, _, _ => .halt
  | n + 1, 0, _, _, _, _, _, _, h, _, _ => absurd h (by omega)
  | n + 1, d + 1, r, t, x, x', y, y', h, hx, hy => by
    unfold xequal Op.equalIn
    split
    · exact .halt
    · rename_i i hi
      refine semUnd ok hi ?_
      split <;> first | exact .halt | skip
      all_goals rename_i hu
      all_goals rw [hu]
      case h_1 => cases hx; cases hy; exact .pure rfl
      case h_2 =>
        cases hx; cases hy
        dsimp only
        split
        · rename_i hk
          rw [if_pos (of_decide_eq_true hk)]
          exact .pure rfl
        · exact .halt
      case h_3 =>
        cases hx; cases hy
        dsimp only
        split
        · rename_i hk
          rw [if_pos (of_decide_eq_true hk)]
          exact .pure rfl
        · exact .halt
      case h_4 =>
        cases hx; cases hy
        dsimp only
        split
        · rename_i hk
          rw [if_pos (of_decide_eq_true hk)]
          exact .pure rfl
        · exact .halt
      case h_5 => cases hx; cases hy; exact .pure rfl
      case h_6 => cases hx; cases hy; exact .pure rfl
      case h_7 => cases hx; cases hy; exact .pure rfl
      case h_8 => cases hx; cases hy; exact .pure rfl
      case h_9 =>
        cases hx with
        | ptr h1 =>
          cases hy with
          | ptr h2 =>
            dsimp only
            split
            · rename_i j hj
              split
              · rename_i hz
                refine semSize ok hj ?_
                rw [if_pos (Nat.ne_of_beq_eq_false hz)]
                exact xsame_R ⟨_, _, h1, rfl⟩ ⟨_, _, h2, rfl⟩
              · exact .halt
            · exact .halt
      case h_10 => cases hx; cases hy; exact .pure rfl
      case h_11 => cases hx; cases hy; exact .pure rfl
      case h_12 => cases hx; cases hy; exact .pure rfl
      case h_13 =>
        cases hx with
        | agg a1 a2 =>
          cases hy with
          | agg b1 b2 =>
            dsimp only
            split
            · rename_i hs
              obtain ⟨_, j, hj, _, _, _, hc, hst, _⟩ := ok.ty t i hi
              refine .programR ?_
              show SemR E.P _ r _ (if E.P.stoodInHeld t = true then _ else _)
              rw [if_neg (by rw [← hst, hs]; simp)]
              rw [hc, hu, show ∀ fs, cmpOf (.struct fs) = cmpF fs.toList from fun _ => rfl, ← Array.forIn_toList]
              refine xeqF_R ok (eq := xequal E n) (eq' := Op.equalIn d) ?_ _ ?_ ?_ _ (fun _ => rfl) rfl _ r ⟨a1, a2⟩ ⟨b1, b2⟩
              · exact fun s t x x' y y' hx hy => xequal_R ok n d s t x x' y y' (by omega) hx hy
              · intro f s hf
                exact if_pos hf
              · intro f s hf
                exact if_neg hf
            · exact .halt
      case h_14 =>
        cases hx with
        | agg a1 a2 =>
          cases hy with
          | agg b1 b2 =>
            dsimp only
            split
            · rename_i j hj
              refine semSize ok hj ?_
              rw [Std.Legacy.Range.forIn_eq_forIn_range']
              have : ∀ len : Nat, ([:len] : Std.Legacy.Range).size = len := fun len => by simp [Std.Legacy.Range.size]
              rw [this]
              refine xeqA_R ok (eq := xequal E n) (eq' := Op.equalIn d) ?_ _ _ _ (fun _ => rfl) rfl _ r ⟨a1, a2⟩ ⟨b1, b2⟩
              exact fun s t x x' y y' hx hy => xequal_R ok n d s t x x' y y' (by omega) hx hy
            · exact .halt
      case h_15 => cases hx; cases hy; exact .pure rfl
      case h_16 => cases hx; cases hy; exact .pure rfl
      case h_17 => cases hx; cases hy; exact .pure rfl
      case h_18 => cases hx; cases hy; exact .pure rfl
      case h_19 => cases hx; cases hy; exact .pure rfl
      case h_20 => cases hx; cases hy; exact .pure rfl
      case h_21 => cases hx; cases hy; exact .pure rfl
      case h_22 => cases hx; cases hy; exact .pure rfl
      case h_23 => cases hx; cases hy; exact .pure rfl
end
end Go.Proofs.Ytihlhmphgjlngaa
