/-
  A region that draws its order, whose operations read and whose callees may make memory of their own (they turn nothing that was there): one walk, in the text's order.
  The class of worlds: those in which nothing of w has turned. Facts on loads: '∀ x : Cm w, x.1.cell? p = some v'; contracts: '∀ x : Cm w, Calls P f args x.1 fun e w' => e = .returned v ∧ Only [] x.1 w''.
-/
import Derived.Test.YtlidnlcmnkagaaaTail
namespace Go.Proofs.Ytlidnlcmnkagaaa

/-- A world in which nothing of w has turned. -/
def Cm (w : World) : Type := {w' : World // Only [] w w'}
instance (w : World) : Nonempty (Cm w) := ⟨⟨w, Only.refl _ _⟩⟩
theorem Cm.o {w : World} (x : Cm w) : Only [] w x.1 := x.2
theorem Cm.cell {w : World} {p : Addr} {v : Value} (h : w.cell? p = some v) (x : Cm w) : x.1.cell? p = some v :=
  (x.2.cell (World.block_lt_of_cell? w p h) (by simp)).trans h
theorem calmS {P : Program} {f : FuncId} {args : Array Value} {w : World} {x : Cm w} {v : Value} (h : Calls P f args x.1 fun e w' => e = .returned v ∧ Only [] x.1 w') : Calls P f args x.1 fun e w'' => e = .returned v ∧ ∃ y : Cm w, w'' = y.1 :=
  h.mono fun _ w' ⟨he, o⟩ => ⟨he, ⟨w', x.2.trans o (by simp)⟩, rfl⟩
theorem calmE {P : Program} {f : FuncId} {args : Array Value} {w : World} {x : Cm w} {v : Value} (h : Calls P f args x.1 fun e w' => e = .returned v ∧ x.1 = w') : Calls P f args x.1 fun e w'' => e = .returned v ∧ ∃ y : Cm w, w'' = y.1 :=
  h.mono fun _ _ ⟨he, o⟩ => ⟨he, x, o.symm⟩
theorem wp_region_calm {P : Program} {id : Nat} {Q : Exit → Act → World → Prop} {a : Act} {w : World} {l : List Oper} (hm : P.follows .mixedOrders = true) (hB : Region.lexB .any l.toArray = true)
    (h : wpQuiet P l.toArray (fun w' => ∃ x : Cm w, w' = x.1) (fun a' => ∀ w', (∃ x : Cm w, w' = x.1) → Q .normal a' w') l a) : (Code.region id l.toArray true).wp P Q a w :=
  wp_region_quiet (C := fun w' => ∃ x : Cm w, w' = x.1) hm hB ⟨⟨_, (Only.refl [] w).drew⟩, rfl⟩ (by simpa using h)
/-- The same, with operations at the end that follow one another and all that is ahead. -/
theorem wp_region_calm_then {P : Program} {id : Nat} {Q : Exit → Act → World → Prop} {a : Act} {w : World} {l : List Oper} (n : Nat) (hm : P.follows .mixedOrders = true) (hB : Region.lexTailB .any l.toArray n = true)
    (h : wpQuiet P l.toArray (fun w' => ∃ x : Cm w, w' = x.1) (fun a' => ∀ w', (∃ x : Cm w, w' = x.1) → wpList P l.toArray Q (l.drop n) a' w') (l.take n) a) : (Code.region id l.toArray true).wp P Q a w := by
  simp only [Region.lexTailB, Bool.and_eq_true, decide_eq_true_eq] at hB
  obtain ⟨⟨⟨⟨hsel, hn⟩, hs⟩, hc⟩, hlex⟩ := hB
  have hn' : n < l.length := by simpa using hn
  have htl : (l.take n).length = n := by simp; omega
  have hdl : (l.drop n).length = l.toArray.size - n := by simp
  have inv0 : HeadInv .any l.toArray n (Array.replicate l.toArray.size false) :=
    ⟨by simp, fun j oj _ hl => (by rw [getD_replicate_false] at hl; cases hl), fun t _ ht => getD_in (by simpa using ht) (getD_replicate_false _ _)⟩
  have H := headQ_lex (md := .any) (g := l.toArray.size - n) hsel hs hc hn (l.take n) 0 _ a (fun j hj => by
    have hj' : j < n := by rw [htl] at hj; exact hj
    simp [hj']) (by simpa using htl) inv0 (by rw [htl]; exact hlex) h
  refine wp_region_any hm ?_
  have hfin := headQ_any (Q := Q) (g := l.toArray.size - n) (fun listed a' w' hw' hL => by
    have := wpAny_of_seq (md := .any) (Q' := Q) (l.drop n) n listed a' w' (fun j => by simp [List.getElem?_drop]) (by rw [hdl]; exact hL.1) (hL.2 w' hw')
    rwa [hdl] at this) _ _ _ { w with drawn := w.drawn + 1 } ⟨⟨_, (Only.refl [] w).drew⟩, rfl⟩ H
  rw [htl, show n + (l.toArray.size - n) = l.toArray.size by omega] at hfin
  exact hfin
end Go.Proofs.Ytlidnlcmnkagaaa
