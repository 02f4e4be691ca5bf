/- A region that draws its order, whose first n operations only read (calls may draw), and whose last ones follow one another and all that is ahead:
  one walk of the first n in the text's order, then the last ones in whatever world of the class. The document's ties: which stands ahead, the tie of two, is it there, are lists the same. The program's order: cmp.Compare of ints, cmp.Or of two. A region that draws its order, whose operations read and whose callees may make memory of their own (they turn nothing that was there): one walk, in the text's order.
  The class of worlds: those in which nothing of w has turned. Facts on loads: '∀ x : Cm w, x.1.cell? p = some v'; contracts: '∀ x : Cm w, Calls P f args x.1 fun e w' => e = .returned v ∧ Only [] x.1 w''. How the program compares pids and ties: new blocks alone are laid. Are two pids, two ties the same? The operator's answer. The document's ties: is one there; which stands ahead. -/
import Derived.Test.YtkodblhompphjaaVa
import Derived.StillTail
import Derived.Sort.Grow
import Derived.Laws.StructEq
namespace Go.Proofs.Ytkodblhompphjaa

section
variable {P : Program} {ops : Array Oper} {md : Region.Mode} {C : World → Prop}

/-- Any order of the first n operations, each of them quiet; L is asked when they are all done. -/
def headQ (P : Program) (md : Region.Mode) (ops : Array Oper) (C : World → Prop) (n : Nat) (L : Array Bool → Act → Prop) : Nat → Array Bool → Act → Prop
  | 0, listed, a => L listed a
  | f + 1, listed, a => Region.ready md ops listed ≠ [] ∧ ∀ i ∈ Region.ready md ops listed, i < n ∧ qOp P ops C i (headQ P md ops C n L f (listed.setIfInBounds i true)) a

theorem headQ_any {n g : Nat} {L : Array Bool → Act → Prop} {Q : Exit → Act → World → Prop} (hL : ∀ listed a w, C w → L listed a → wpAny P md ops Q g listed a w) :
    ∀ (f : Nat) (listed : Array Bool) (a : Act) (w : World), C w → headQ P md ops C n L f listed a → wpAny P md ops Q (f + g) listed a w
  | 0, _, _, _, hw, h => by rw [Nat.zero_add]; exact hL _ _ _ hw h
  | f + 1, listed, a, w, hw, h => by
    rw [show f + 1 + g = (f + g) + 1 by omega]
    exact ⟨fun h0 => absurd h0 h.1, fun i hi => wpOp_of_qOp hw (fun a' w' hw' hk => headQ_any hL f _ a' w' hw' hk) (h.2 i hi).2⟩

theorem headQ_first {n i : Nat} {oi : Oper} {v : Value} {L : Array Bool → Act → Prop} (hi : ops[i]? = some oi) (hsel : ∀ (j : Nat) (o : Oper) cs b, ops[j]? = some o → o.op ≠ .select cs b)
    (hs : Region.sinkB md ops n = true) (hc : Region.chainB md ops n = true) (hn : n < ops.size) (hin : i < n)
    (hdone : ∀ listed a, L listed a → ∀ j ∈ Region.ready md ops listed, n ≤ j) :
    ∀ (f : Nat) (listed : Array Bool) (a : Act), HeadInv md ops n listed →
      (∀ j oj, ops[j]? = some oj → j ≠ i → listed.getD j true = false → (∀ e ∈ oj.after, Region.binds md e = true → e.on ≠ i) → oi.apart ops oj = true) →
      i ∈ Region.ready md ops listed → YieldsIn P ops C oi v a →
      headQ P md ops C n L f (listed.setIfInBounds i true) (a.put oi.dst v) → headQ P md ops C n L (f + 1) listed a := by
  intro f
  induction f with
  | zero =>
    intro listed a inv _ hr hy H
    have hun := (mem_ready.1 hr).1
    refine ⟨fun h => (by rw [h] at hr; cases hr), fun j hj => ?_⟩
    have hjn : j < n := Nat.lt_of_not_le fun hle => tail_waits hs hc hn inv _ i rfl hin hun j hle hj
    refine ⟨hjn, ?_⟩
    by_cases hji : j = i
    · subst hji; exact hy.qOp hi H
    · have := hdone _ _ H j (ready_mono hj hji)
      omega
  | succ f ih =>
    intro listed a inv hfree hr hy H
    have hun := (mem_ready.1 hr).1
    refine ⟨fun h => (by rw [h] at hr; cases hr), fun j hj => ?_⟩
    have hjn : j < n := Nat.lt_of_not_le fun hle => tail_waits hs hc hn inv _ i rfl hin hun j hle hj
    refine ⟨hjn, ?_⟩
    by_cases hji : j = i
    · subst hji; exact hy.qOp hi H
    · have hk := (H.2 j (ready_mono hj hji)).2
      obtain ⟨hjun, oj, hoj, hall⟩ := mem_ready.1 hj
      have hnot : ∀ e ∈ oj.after, Region.binds md e = true → e.on ≠ i := fun e he hb heq => by
        have h1 := hall e he hb
        rw [heq, getD_both hun] at h1
        cases h1
      have h2 := qOp_put hoj (hfree j oj hoj hji hjun hnot) (fun cs b => hsel i oi cs b hi) (fun cs b => hsel j oj cs b hoj) hy hk
      have hfree' : ∀ k ok, ops[k]? = some ok → k ≠ i → (listed.setIfInBounds j true).getD k true = false →
          (∀ e ∈ ok.after, Region.binds md e = true → e.on ≠ i) → oi.apart ops ok = true := fun k ok hk hki hkun hno => by
        refine hfree k ok hk hki ?_ hno
        by_cases hjk : j = k
        · subst hjk; exact hjun
        · rw [getD_set_ne true hjk] at hkun; exact hkun
      refine qOp_mono (fun a' h3 => ih (listed.setIfInBounds j true) a' (inv.set hj hjn) hfree' (ready_mono hr (Ne.symm hji)) h3.1 ?_) h2
      rw [Array.setIfInBounds_comm _ _ hji]
      exact h3.2

theorem headQ_lex {n g : Nat} {Lq : Act → Prop} (hsel : Region.noSelect ops = true) (hs : Region.sinkB md ops n = true) (hc : Region.chainB md ops n = true) (hn : n < ops.size) :
    ∀ (l : List Oper) (k : Nat) (listed : Array Bool) (a : Act), (∀ j, j < l.length → l[j]? = ops[k + j]?) → k + l.length = n → HeadInv md ops n listed →
    Region.lexHead md ops g l.length k listed = true → wpQuiet P ops C Lq l a →
    headQ P md ops C n (fun listed' a' => Region.seqB md ops g n listed' = true ∧ Lq a') l.length listed a
  | [], k, listed, a, _, hk, _, hB, h => by
    have e : k = n := by simpa using hk
    subst e
    exact ⟨by simpa [Region.lexHead] using hB, h⟩
  | o :: l, k, listed, a, hl, hk, inv, hB, h => by
    have h0 : ops[k]? = some o := by simpa using (hl 0 (by simp)).symm
    simp only [List.length_cons, Region.lexHead, Bool.and_eq_true] at hB
    obtain ⟨⟨hr, hf⟩, hB'⟩ := hB
    have hkn : k < n := by simp only [List.length_cons] at hk; omega
    have hr' : k ∈ Region.ready md ops listed := by simpa using hr
    have hq : qOp P ops C k (wpQuiet P ops C Lq l) a := by unfold qOp; simp only [h0]; exact h
    obtain ⟨v, hy, hK⟩ := yieldsIn_of_qOp h0 hq
    exact headQ_first h0 (Region.noSelect_spec hsel) hs hc hn hkn (fun listed' a' hL => seqB_ready hL.1) l.length listed a inv (Region.free_spec h0 hf) hr' hy
      (headQ_lex hsel hs hc hn l (k + 1) _ _ (fun j hj => by have := hl (j + 1) (by simp; omega); simpa [Nat.add_assoc, Nat.add_comm 1 j] using this) (by simp only [List.length_cons] at hk; omega) (inv.set hr' hkn) hB' hK)

theorem wp_region_quiet_then {id : Nat} {Q : Exit → Act → World → Prop} {a : Act} {w : World} {l : List Oper} (n : Nat) (hm : P.follows .mixedOrders = true) (hB : Region.lexTailB .any l.toArray n = true)
    (h : wpQuiet P l.toArray (fun w' => ∃ k, w' = w.drewN k) (fun a' => ∀ k : Nat, wpList P l.toArray Q (l.drop n) a' (w.drewN k)) (l.take n) a) : (Code.region id l.toArray true).wp P Q a w := by
  simp only [Region.lexTailB, Bool.and_eq_true, decide_eq_true_eq] at hB
  obtain ⟨⟨⟨⟨hsel, hn⟩, hs⟩, hc⟩, hlex⟩ := hB
  have hn' : n < l.length := by simpa using hn
  have htl : (l.take n).length = n := by simp; omega
  have hdl : (l.drop n).length = l.toArray.size - n := by simp
  have inv0 : HeadInv .any l.toArray n (Array.replicate l.toArray.size false) :=
    ⟨by simp, fun j oj _ hl => (by rw [getD_replicate_false] at hl; cases hl), fun t _ ht => getD_in (by simpa using ht) (getD_replicate_false _ _)⟩
  have H := headQ_lex (md := .any) (g := l.toArray.size - n) hsel hs hc hn (l.take n) 0 _ a (fun j hj => by
    have hj' : j < n := by rw [htl] at hj; exact hj
    simp [hj']) (by simpa using htl) inv0 (by rw [htl]; exact hlex) h
  refine wp_region_any hm ?_
  have hfin := headQ_any (Q := Q) (g := l.toArray.size - n) (fun listed a' w' hw' hL => by
    obtain ⟨k, rfl⟩ := hw'
    have := wpAny_of_seq (md := .any) (Q' := Q) (l.drop n) n listed a' (w.drewN k) (fun j => by simp [List.getElem?_drop]) (by rw [hdl]; exact hL.1) (hL.2 k)
    rwa [hdl] at this) _ _ _ { w with drawn := w.drawn + 1 } ⟨1, rfl⟩ H
  rw [htl, show n + (l.toArray.size - n) = l.toArray.size by omega] at hfin
  exact hfin
end
end Go.Proofs.Ytkodblhompphjaa

namespace Go.Proofs.Ytkodblhompphjaa
open Go.RowKit

def befP (a b : Pd) : Bool := decide (a.n < b.n) || (a.n == b.n && decide (a.g < b.g))
set_option maxHeartbeats 1000000 in
theorem rbefore_any (a b : Pd) (w : World) : Calls Try.prog 61 #[.agg a.cs, .agg b.cs] w fun e w' => e = .returned (.bool (befP a b)) ∧ Only [] w w' := by
  obtain ⟨an, ag⟩ := a
  obtain ⟨bn, bg⟩ := b
  have O := Lib.hid (((Only.refl [] w).alloc (.cells #[.int .i64 an, .int .i64 ag] 32)).alloc (.cells #[.int .i64 bn, .int .i64 bg] 32))
  unfold befP
  simp only
  by_cases h1 : an < bn
  · rw [decide_eq_true h1, Bool.true_or]
    have d : decide (an < bn) = true := decide_eq_true h1
    go_enter Try.func61, Try.ntmps61
    go_wp2_with fail
    go_ret
    exact ⟨rfl, O.out⟩
  · rw [decide_eq_false h1, Bool.false_or]
    have d : decide (an < bn) = false := decide_eq_false h1
    by_cases h2 : an = bn
    · subst h2
      have d2 : (an == an) = true := beq_self_eq_true _
      go_enter Try.func61, Try.ntmps61
      go_wp2_with fail
      go_ret
      exact ⟨by simp, O.out⟩
    · have d2 : (an == bn) = false := by simpa using h2
      rw [d2, Bool.false_and]
      go_enter Try.func61, Try.ntmps61
      go_wp2_with fail
      go_ret
      exact ⟨rfl, O.out⟩

def linkT (a b : Pd) : Te := if befP a b then ⟨0, a, b⟩ else ⟨0, b, a⟩
set_option maxHeartbeats 1000000 in
theorem rlink_any (a b : Pd) (w : World) : Calls Try.prog 53 #[.agg a.cs, .agg b.cs] w fun e w' => e = .returned (.agg (linkT a b).cs) ∧ Only [] w w' := by
  have H := Lib.hid (fun w => rbefore_any a b w)
  have hl : linkT a b = if befP a b then ⟨0, a, b⟩ else ⟨0, b, a⟩ := rfl
  generalize befP a b = t at *
  generalize linkT a b = lk at *
  obtain ⟨an, ag⟩ := a
  obtain ⟨bn, bg⟩ := b
  have O := Lib.hid ((((Only.refl [] w).alloc (.cells #[.int .i64 an, .int .i64 ag] 32)).alloc (.cells #[.int .i64 bn, .int .i64 bg] 32)).alloc (.cells #[.int .i64 0, .int .i64 0, .int .i64 0, .int .i64 0, .int .i64 0] 45))
  have BA := Lib.hid (((Bk.made w 32 #[.int .i64 an, .int .i64 ag]).alloc (.cells #[.int .i64 bn, .int .i64 bg] 32)).alloc (.cells #[.int .i64 0, .int .i64 0, .int .i64 0, .int .i64 0, .int .i64 0] 45))
  have BB := Lib.hid ((Bk.newAt (w := w.alloc (.cells #[.int .i64 an, .int .i64 ag] 32)) (t := 32) (cs := #[.int .i64 bn, .int .i64 bg]) (b := w.heap.size + 1) (by simp)).alloc (.cells #[.int .i64 0, .int .i64 0, .int .i64 0, .int .i64 0, .int .i64 0] 45))
  have BT := Lib.hid (Bk.newAt (w := (w.alloc (.cells #[.int .i64 an, .int .i64 ag] 32)).alloc (.cells #[.int .i64 bn, .int .i64 bg] 32)) (t := 45) (cs := #[.int .i64 0, .int .i64 0, .int .i64 0, .int .i64 0, .int .i64 0]) (b := w.heap.size + 1 + 1) (by simp))
  cases t with
  | true =>
    rw [if_pos rfl] at hl
    subst hl
    go_enter Try.func53, Try.ntmps53
    go_wp2_with fail
    (with_reducible refine (H.out _).mono ?_)
    rintro e w1 ⟨rfl, o1⟩
    obtain ⟨a0, a1⟩ := Bk.pid (x := ⟨an, ag⟩) (BA.out.only o1 (by simp))
    obtain ⟨b0, b1⟩ := Bk.pid (x := ⟨bn, bg⟩) (BB.out.only o1 (by simp))
    have bt := BT.out.only o1 (by simp)
    have fr := bt.free
    obtain ⟨z0, z1, z2, z3, z4⟩ := Bk.tie (x := ⟨0, ⟨0, 0⟩, ⟨0, 0⟩⟩) bt
    have O1 := Lib.hid (O.out.trans o1 (by simp))
    have BT1 := Lib.hid bt
    clear o1 bt
    go_wp2_with fail
    have L : w.heap.size ≤ w.heap.size + 1 + 1 := by omega
    exact bodyPost_ret (v := .agg (Te.cs ⟨0, ⟨an, ag⟩, ⟨bn, bg⟩⟩)) (by simp [results, Try.results53, go_sem, z0, z1, z2, z3, z4]) rfl ⟨rfl, ((((O1.out.set (.inr L) _).set (.inr L) _).set (.inr L) _).set (.inr L) _).set (.inr L) _⟩
  | false =>
    rw [if_neg (by simp)] at hl
    subst hl
    go_enter Try.func53, Try.ntmps53
    go_wp2_with fail
    (with_reducible refine (H.out _).mono ?_)
    rintro e w1 ⟨rfl, o1⟩
    obtain ⟨a0, a1⟩ := Bk.pid (x := ⟨an, ag⟩) (BA.out.only o1 (by simp))
    obtain ⟨b0, b1⟩ := Bk.pid (x := ⟨bn, bg⟩) (BB.out.only o1 (by simp))
    have bt := BT.out.only o1 (by simp)
    have fr := bt.free
    obtain ⟨z0, z1, z2, z3, z4⟩ := Bk.tie (x := ⟨0, ⟨0, 0⟩, ⟨0, 0⟩⟩) bt
    have O1 := Lib.hid (O.out.trans o1 (by simp))
    have BT1 := Lib.hid bt
    clear o1 bt
    go_wp2_with fail
    have L : w.heap.size ≤ w.heap.size + 1 + 1 := by omega
    exact bodyPost_ret (v := .agg (Te.cs ⟨0, ⟨bn, bg⟩, ⟨an, ag⟩⟩)) (by simp [results, Try.results53, go_sem, z0, z1, z2, z3, z4]) rfl ⟨rfl, ((((O1.out.set (.inr L) _).set (.inr L) _).set (.inr L) _).set (.inr L) _).set (.inr L) _⟩
end Go.Proofs.Ytkodblhompphjaa

namespace Go.Proofs.Ytkodblhompphjaa
open Go.RowKit

def cmpI (x y : Int) : Int := if x < y then -1 else if y < x then 1 else 0
def orI (x y : Int) : Int := if (x != 0) = true then x else y
theorem isNaN_any (x : Int) (w : World) : Calls Try.prog 67 #[.int .i64 x] w fun e w' => e = .returned (.bool false) ∧ w' = w := by
  have d : (x != x) = false := by simp
  go_enter Try.func67, Try.ntmps67
  go_wp2_with fail
  go_ret
  exact ⟨rfl, rfl⟩
theorem cmp_any (x y : Int) (w : World) : Calls Try.prog 59 #[.int .i64 x, .int .i64 y] w fun e w' => e = .returned (.int .i64 (cmpI x y)) ∧ w' = w := by
  have H := Lib.hid (fun x w => isNaN_any x w)
  unfold cmpI
  by_cases h1 : x < y
  · rw [if_pos h1]
    have d : decide (x < y) = true := decide_eq_true h1
    go_enter Try.func59, Try.ntmps59
    go_wp2_with (go_at_call 67; refine (H.out _ _).mono ?_; rintro e w' ⟨rfl, rfl⟩)
    go_ret
    exact ⟨rfl, rfl⟩
  · rw [if_neg h1]
    have d : decide (x < y) = false := decide_eq_false h1
    by_cases h2 : y < x
    · rw [if_pos h2]
      have d2 : decide (y < x) = true := decide_eq_true h2
      go_enter Try.func59, Try.ntmps59
      go_wp2_with (go_at_call 67; refine (H.out _ _).mono ?_; rintro e w' ⟨rfl, rfl⟩)
      go_ret
      exact ⟨rfl, rfl⟩
    · rw [if_neg h2]
      have d2 : decide (y < x) = false := decide_eq_false h2
      go_enter Try.func59, Try.ntmps59
      go_wp2_with (go_at_call 67; refine (H.out _ _).mono ?_; rintro e w' ⟨rfl, rfl⟩)
      go_ret
      exact ⟨rfl, rfl⟩
theorem or_any (g : Nat) (x y : Int) (t : TypeId) (w : World) (hb : Bk w g t #[.int .i64 x, .int .i64 y]) : Calls Try.prog 60 #[.slice (some ⟨g, 0, none⟩) 2 2] w fun e w' => e = .returned (.int .i64 (orI x y)) ∧ w' = w := by
  have c0 := hb.cell0 (i := 0) rfl
  have c1 := hb.cell0 (i := 1) rfl
  unfold orI
  cases hx : x != 0 with
  | true =>
    rw [if_pos rfl]
    go_enter Try.func60, Try.ntmps60
    go_wp2_with fail
    refine wp_loop_rounds 1 ?_
    rw [rounds_succ]
    go_wp2_with fail
    go_ret
    exact ⟨rfl, rfl⟩
  | false =>
    rw [if_neg (by simp)]
    cases hy : y != 0 with
    | true =>
      go_enter Try.func60, Try.ntmps60
      go_wp2_with fail
      refine wp_loop_rounds 2 ?_
      rw [rounds_succ]
      go_wp2_with fail
      rw [rounds_succ]
      go_wp2_with fail
      go_ret
      exact ⟨rfl, rfl⟩
    | false =>
      obtain rfl : y = 0 := by simpa using hy
      obtain rfl : x = 0 := by simpa using hx
      clear hx hy
      go_enter Try.func60, Try.ntmps60
      go_wp2_with fail
      refine wp_loop_rounds 3 ?_
      rw [rounds_succ]
      go_wp2_with fail
      rw [rounds_succ]
      go_wp2_with fail
      rw [rounds_succ]
      go_wp2_with fail
      go_ret
      exact ⟨rfl, rfl⟩
end Go.Proofs.Ytkodblhompphjaa

namespace Go.Proofs.Ytkodblhompphjaa

/-- A world in which nothing of w has turned. -/
def Cm (w : World) : Type := {w' : World // Only [] w w'}
instance (w : World) : Nonempty (Cm w) := ⟨⟨w, Only.refl _ _⟩⟩
theorem Cm.o {w : World} (x : Cm w) : Only [] w x.1 := x.2
theorem Cm.cell {w : World} {p : Addr} {v : Value} (h : w.cell? p = some v) (x : Cm w) : x.1.cell? p = some v :=
  (x.2.cell (World.block_lt_of_cell? w p h) (by simp)).trans h
theorem calmS {P : Program} {f : FuncId} {args : Array Value} {w : World} {x : Cm w} {v : Value} (h : Calls P f args x.1 fun e w' => e = .returned v ∧ Only [] x.1 w') : Calls P f args x.1 fun e w'' => e = .returned v ∧ ∃ y : Cm w, w'' = y.1 :=
  h.mono fun _ w' ⟨he, o⟩ => ⟨he, ⟨w', x.2.trans o (by simp)⟩, rfl⟩
theorem calmE {P : Program} {f : FuncId} {args : Array Value} {w : World} {x : Cm w} {v : Value} (h : Calls P f args x.1 fun e w' => e = .returned v ∧ x.1 = w') : Calls P f args x.1 fun e w'' => e = .returned v ∧ ∃ y : Cm w, w'' = y.1 :=
  h.mono fun _ _ ⟨he, o⟩ => ⟨he, x, o.symm⟩
theorem wp_region_calm {P : Program} {id : Nat} {Q : Exit → Act → World → Prop} {a : Act} {w : World} {l : List Oper} (hm : P.follows .mixedOrders = true) (hB : Region.lexB .any l.toArray = true)
    (h : wpQuiet P l.toArray (fun w' => ∃ x : Cm w, w' = x.1) (fun a' => ∀ w', (∃ x : Cm w, w' = x.1) → Q .normal a' w') l a) : (Code.region id l.toArray true).wp P Q a w :=
  wp_region_quiet (C := fun w' => ∃ x : Cm w, w' = x.1) hm hB ⟨⟨_, (Only.refl [] w).drew⟩, rfl⟩ (by simpa using h)
/-- The same, with operations at the end that follow one another and all that is ahead. -/
theorem wp_region_calm_then {P : Program} {id : Nat} {Q : Exit → Act → World → Prop} {a : Act} {w : World} {l : List Oper} (n : Nat) (hm : P.follows .mixedOrders = true) (hB : Region.lexTailB .any l.toArray n = true)
    (h : wpQuiet P l.toArray (fun w' => ∃ x : Cm w, w' = x.1) (fun a' => ∀ w', (∃ x : Cm w, w' = x.1) → wpList P l.toArray Q (l.drop n) a' w') (l.take n) a) : (Code.region id l.toArray true).wp P Q a w := by
  simp only [Region.lexTailB, Bool.and_eq_true, decide_eq_true_eq] at hB
  obtain ⟨⟨⟨⟨hsel, hn⟩, hs⟩, hc⟩, hlex⟩ := hB
  have hn' : n < l.length := by simpa using hn
  have htl : (l.take n).length = n := by simp; omega
  have hdl : (l.drop n).length = l.toArray.size - n := by simp
  have inv0 : HeadInv .any l.toArray n (Array.replicate l.toArray.size false) :=
    ⟨by simp, fun j oj _ hl => (by rw [getD_replicate_false] at hl; cases hl), fun t _ ht => getD_in (by simpa using ht) (getD_replicate_false _ _)⟩
  have H := headQ_lex (md := .any) (g := l.toArray.size - n) hsel hs hc hn (l.take n) 0 _ a (fun j hj => by
    have hj' : j < n := by rw [htl] at hj; exact hj
    simp [hj']) (by simpa using htl) inv0 (by rw [htl]; exact hlex) h
  refine wp_region_any hm ?_
  have hfin := headQ_any (Q := Q) (g := l.toArray.size - n) (fun listed a' w' hw' hL => by
    have := wpAny_of_seq (md := .any) (Q' := Q) (l.drop n) n listed a' w' (fun j => by simp [List.getElem?_drop]) (by rw [hdl]; exact hL.1) (hL.2 w' hw')
    rwa [hdl] at this) _ _ _ { w with drawn := w.drawn + 1 } ⟨⟨_, (Only.refl [] w).drew⟩, rfl⟩ H
  rw [htl, show n + (l.toArray.size - n) = l.toArray.size by omega] at hfin
  exact hfin
end Go.Proofs.Ytkodblhompphjaa

namespace Go.Proofs.Ytkodblhompphjaa
open Go.RowKit

/-- From w to w' nothing has turned, and the tape has gone on (if it went). -/
structure Gr (w w' : World) : Prop where
  o : Only [] w w'
  d : w.drawn ≤ w'.drawn
theorem Gr.refl (w : World) : Gr w w := ⟨Only.refl _ _, Nat.le_refl _⟩
theorem Gr.trans {a b c : World} (h : Gr a b) (k : Gr b c) : Gr a c := ⟨h.o.trans k.o (by simp), Nat.le_trans h.d k.d⟩
theorem Gr.alloc {a b : World} (h : Gr a b) (o : Obj) : Gr a (b.alloc o) := ⟨h.o.alloc o, h.d⟩
theorem Gr.drewN {a b : World} (h : Gr a b) (n : Nat) : Gr a (b.drewN n) := ⟨h.o.drewN n, Nat.le_trans h.d (by simp [World.drewN])⟩
theorem Gr.drew {a b : World} (h : Gr a b) : Gr a b.drew := ⟨h.o.drew, Nat.le_trans h.d (Nat.le_succ _)⟩
theorem Gr.grown {w w' : World} (h : Gr w w') : ∃ q os, w' = Go.Sort.grow (w.drewN q) os := by
  refine ⟨w'.drawn - w.drawn, w'.heap.extract w.heap.size w'.heap.size, ?_⟩
  obtain ⟨⟨h1, h2, h3, h4, h5⟩, h6⟩ := h
  obtain ⟨hp, tp, dr, os, out⟩ := w'
  obtain ⟨hp0, tp0, dr0, os0, out0⟩ := w
  dsimp only at h1 h2 h3 h4 h5 h6
  subst h1 h2 h3
  have e : hp = hp0 ++ hp.extract hp0.size hp.size := by
    apply Array.ext_getElem?
    intro k
    rw [Array.getElem?_append]
    split
    · rename_i hk
      exact h5 k hk (by simp)
    · rename_i hk
      rw [Array.getElem?_extract]
      by_cases hl : k < hp.size
      · rw [if_pos (by omega), show hp0.size + (k - hp0.size) = k by omega]
      · rw [if_neg (by omega), Array.getElem?_eq_none (by omega)]
  unfold Go.Sort.grow World.drewN
  dsimp only
  rw [← e, show dr0 + (dr - dr0) = dr by omega]
def Gw (w : World) : Type := {w' : World // Gr w w'}
instance (w : World) : Nonempty (Gw w) := ⟨⟨w, Gr.refl _⟩⟩
theorem Gw.cell {w : World} {p : Addr} {v : Value} (h : w.cell? p = some v) (x : Gw w) : x.1.cell? p = some v :=
  (x.2.o.cell (World.block_lt_of_cell? w p h) (by simp)).trans h
theorem grownS {P : Program} {f : FuncId} {args : Array Value} {w : World} {x : Gw w} {v : Value} (h : Calls P f args x.1 fun e w' => e = .returned v ∧ Gr x.1 w') : Calls P f args x.1 fun e w'' => e = .returned v ∧ ∃ y : Gw w, w'' = y.1 :=
  h.mono fun _ w' ⟨he, o⟩ => ⟨he, ⟨w', x.2.trans o⟩, rfl⟩
theorem grownE {P : Program} {f : FuncId} {args : Array Value} {w : World} {x : Gw w} {v : Value} (h : Calls P f args x.1 fun e w' => e = .returned v ∧ w' = x.1) : Calls P f args x.1 fun e w'' => e = .returned v ∧ ∃ y : Gw w, w'' = y.1 :=
  h.mono fun _ _ ⟨he, o⟩ => ⟨he, x, o⟩
theorem wp_region_grown_then {P : Program} {id : Nat} {Q : Exit → Act → World → Prop} {a : Act} {w : World} {l : List Oper} (n : Nat) (hm : P.follows .mixedOrders = true) (hB : Region.lexTailB .any l.toArray n = true)
    (h : wpQuiet P l.toArray (fun w' => ∃ x : Gw w, w' = x.1) (fun a' => ∀ w', (∃ x : Gw w, w' = x.1) → wpList P l.toArray Q (l.drop n) a' w') (l.take n) a) : (Code.region id l.toArray true).wp P Q a w := by
  simp only [Region.lexTailB, Bool.and_eq_true, decide_eq_true_eq] at hB
  obtain ⟨⟨⟨⟨hsel, hn⟩, hs⟩, hc⟩, hlex⟩ := hB
  have hn' : n < l.length := by simpa using hn
  have htl : (l.take n).length = n := by simp; omega
  have hdl : (l.drop n).length = l.toArray.size - n := by simp
  have inv0 : HeadInv .any l.toArray n (Array.replicate l.toArray.size false) :=
    ⟨by simp, fun j oj _ hl => (by rw [getD_replicate_false] at hl; cases hl), fun t _ ht => getD_in (by simpa using ht) (getD_replicate_false _ _)⟩
  have H := headQ_lex (md := .any) (g := l.toArray.size - n) hsel hs hc hn (l.take n) 0 _ a (fun j hj => by
    have hj' : j < n := by rw [htl] at hj; exact hj
    simp [hj']) (by simpa using htl) inv0 (by rw [htl]; exact hlex) h
  refine wp_region_any hm ?_
  have hfin := headQ_any (Q := Q) (g := l.toArray.size - n) (fun listed a' w' hw' hL => by
    have := wpAny_of_seq (md := .any) (Q' := Q) (l.drop n) n listed a' w' (fun j => by simp [List.getElem?_drop]) (by rw [hdl]; exact hL.1) (hL.2 w' hw')
    rwa [hdl] at this) _ _ _ { w with drawn := w.drawn + 1 } ⟨⟨_, (Gr.refl w).drew⟩, rfl⟩ H
  rw [htl, show n + (l.toArray.size - n) = l.toArray.size by omega] at hfin
  exact hfin

def cfP (a b : Pd) : Int := orI (cmpI a.n b.n) (cmpI a.g b.g)
set_option maxHeartbeats 1000000 in
theorem cmpPids_any (a b : Pd) (w : World) : Calls Try.prog 44 #[.agg a.cs, .agg b.cs] w fun e w' => e = .returned (.int .i64 (cfP a b)) ∧ Gr w w' := by
  have e : cfP a b = orI (cmpI a.n b.n) (cmpI a.g b.g) := rfl
  generalize cfP a b = r at *
  obtain ⟨an, ag⟩ := a
  obtain ⟨bn, bg⟩ := b
  have BA := (Bk.made w 32 #[.int .i64 an, .int .i64 ag]).alloc (.cells #[.int .i64 bn, .int .i64 bg] 32)
  have BB := Bk.newAt (w := w.alloc (.cells #[.int .i64 an, .int .i64 ag] 32)) (t := 32) (cs := #[.int .i64 bn, .int .i64 bg]) (b := w.heap.size + 1) (by simp)
  have O := Lib.hid (((Gr.refl w).alloc (.cells #[.int .i64 an, .int .i64 ag] 32)).alloc (.cells #[.int .i64 bn, .int .i64 bg] 32))
  go_enter Try.func44, Try.ntmps44
  go_upto_region 1 with fail
  generalize ((w.alloc (.cells #[.int .i64 an, .int .i64 ag] 32)).alloc (.cells #[.int .i64 bn, .int .i64 bg] 32)) = w0 at *
  have k0 : ∀ x : Gw w0, x.1.cell? ⟨w.heap.size, 0, none⟩ = some (.int .i64 an) := Gw.cell (BA.cell0 rfl)
  have k1 : ∀ x : Gw w0, x.1.cell? ⟨w.heap.size, 1, none⟩ = some (.int .i64 ag) := Gw.cell (BA.cell0 rfl)
  have k2 : ∀ x : Gw w0, x.1.cell? ⟨w.heap.size + 1, 0, none⟩ = some (.int .i64 bn) := Gw.cell (BB.cell0 rfl)
  have k3 : ∀ x : Gw w0, x.1.cell? ⟨w.heap.size + 1, 1, none⟩ = some (.int .i64 bg) := Gw.cell (BB.cell0 rfl)
  have H := Lib.hid (fun (x : Gw w0) (u v : Int) => cmp_any u v x.1)
  have HE := Lib.hid e
  clear e BA BB
  refine wp_region_grown_then 10 (by kernel_rfl) (by kernel_rfl) ?_
  simp only [List.take_succ_cons, List.take_zero, List.drop_succ_cons, List.drop_zero]
  repeat (go_big_quiet_step ((go_at_call 59; exact grownE (H.out _ _ _))))
  refine wpQuiet_nil ?_
  rintro w3 ⟨⟨w3', o3⟩, e3⟩
  obtain rfl : w3 = w3' := e3
  have OO := Lib.hid (O.out.trans o3)
  clear O o3 k0 k1 k2 k3
  have KO := Lib.hid (or_any w3.heap.size (cmpI an bn) (cmpI ag bg) 3 _ (Bk.made w3 3 #[.int .i64 (cmpI an bn), .int .i64 (cmpI ag bg)]))
  dsimp only at HE
  go_wp2_with fail
  (with_reducible refine KO.out.mono ?_)
  rintro e w4 ⟨rfl, rfl⟩
  go_wp2_with fail
  go_ret
  exact ⟨retI HE.out.symm, OO.out.alloc _⟩
theorem cfP_lt (a b : Pd) : decide (cfP a b < 0) = befP a b := by
  unfold cfP orI cmpI befP
  by_cases h1 : a.n < b.n
  · simp [h1]
  · by_cases h2 : b.n < a.n
    · simp [h1, h2]
      omega
    · have h3 : a.n = b.n := by omega
      by_cases h4 : a.g < b.g <;> by_cases h5 : b.g < a.g <;> simp [h3, h4, h5]
end Go.Proofs.Ytkodblhompphjaa

namespace Go.Proofs.Ytkodblhompphjaa
open Go.RowKit

def eq2 (a b a' b' : Int) : Bool := a == a' && b == b'
def eq5 (r a b c e r' a' b' c' e' : Int) : Bool := r == r' && ((a == a' && b == b') && (c == c' && e == e'))
abbrev eqP (x y : Pd) : Bool := eq2 x.n x.g y.n y.g
abbrev eqT (x y : Te) : Bool := eq5 x.r x.a.n x.a.g x.b.n x.b.g y.r y.a.n y.a.g y.b.n y.b.g
theorem eqP_iff {x y : Pd} : eqP x y = true ↔ x = y := by
  obtain ⟨a, b⟩ := x
  obtain ⟨c, d⟩ := y
  simp [eqP, eq2]
theorem eqT_iff {x y : Te} : eqT x y = true ↔ x = y := by
  obtain ⟨r, a, b⟩ := x
  obtain ⟨s, c, d⟩ := y
  obtain ⟨a, a1⟩ := a
  obtain ⟨b, b1⟩ := b
  obtain ⟨c, c1⟩ := c
  obtain ⟨d, d1⟩ := d
  simp [eqT, eq5]
theorem pid_eq (d : Nat) (a b a' b' : Int) (w : World) : (Op.equalIn (d + 2) 32 (.agg #[.int .i64 a, .int .i64 b]) (.agg #[.int .i64 a', .int .i64 b'])).run Try.prog w = .ok (a == a' && b == b') w := by
  have hS : Try.prog.underlying 32 = some (.struct (Try.prog.fieldsOf 32)) := by kernel_rfl
  have hp : Try.prog.stoodInHeld 32 = false := by kernel_rfl
  rw [run_equalIn_agg w (d + 1) _ _ _ hS hp]
  simp only [Program.fieldsOf, Try.underlying32]
  go_simp
  by_cases h1 : a = a' <;> by_cases h2 : b = b' <;> simp [h1, h2]
theorem tie_eq (d : Nat) (r a b c e r' a' b' c' e' : Int) (w : World) : (Op.equalIn (d + 3) 45 (.agg #[.int .i64 r, .int .i64 a, .int .i64 b, .int .i64 c, .int .i64 e]) (.agg #[.int .i64 r', .int .i64 a', .int .i64 b', .int .i64 c', .int .i64 e'])).run Try.prog w = .ok (r == r' && ((a == a' && b == b') && (c == c' && e == e'))) w := by
  have hS : Try.prog.underlying 45 = some (.struct (Try.prog.fieldsOf 45)) := by kernel_rfl
  have hp : Try.prog.stoodInHeld 45 = false := by kernel_rfl
  rw [run_equalIn_agg w (d + 2) _ _ _ hS hp]
  simp only [Program.fieldsOf, Try.underlying45]
  go_simp
  by_cases h0 : r = r' <;> by_cases h1 : a = a' <;> by_cases h2 : b = b' <;> by_cases h3 : c = c' <;> by_cases h4 : e = e' <;> simp [h0, h1, h2, h3, h4]
@[go_sem high] theorem pid_eqV (a b a' b' : Int) (w : World) : (Op.equalIn 10000 32 (.agg #[.int .i64 a, .int .i64 b]) (.agg #[.int .i64 a', .int .i64 b'])).run Try.prog w = .ok (eq2 a b a' b') w := pid_eq 9998 a b a' b' w
@[go_sem high] theorem tie_eqV (r a b c e r' a' b' c' e' : Int) (w : World) : (Op.equalIn 10000 45 (.agg #[.int .i64 r, .int .i64 a, .int .i64 b, .int .i64 c, .int .i64 e]) (.agg #[.int .i64 r', .int .i64 a', .int .i64 b', .int .i64 c', .int .i64 e'])).run Try.prog w = .ok (eq5 r a b c e r' a' b' c' e') w := tie_eq 9997 r a b c e r' a' b' c' e' w
@[go_sem] theorem pid_guard (op : BinOp) (x y : Operand) (xs ys : Array Value) (w : World) : (eqGuard op 32 x y (.agg xs) (.agg ys)).run Try.prog w = .ok () w := run_eqGuard_agg w op _ x y xs ys (by kernel_rfl)
@[go_sem] theorem tie_guard (op : BinOp) (x y : Operand) (xs ys : Array Value) (w : World) : (eqGuard op 45 x y (.agg xs) (.agg ys)).run Try.prog w = .ok () w := run_eqGuard_agg w op _ x y xs ys (by kernel_rfl)
end Go.Proofs.Ytkodblhompphjaa

namespace Go.Proofs.Ytkodblhompphjaa
open Go.RowKit


set_option maxHeartbeats 1000000 in
theorem rhas_any (f : Bool) (A : Option Addr) (xs : List Te) (cap : Nat) (y : Te) (w : World) (h : RdS KT w A xs) (hl : xs.length ≤ 17592186044416) :
    Calls Try.prog 52 #[.agg #[.bool f, .slice A xs.length cap], .agg y.cs] w fun e w' => e = .returned (.bool (decide (y ∈ xs))) ∧ Only [] w w' := by
  have H := Lib.hid h
  have BT := Lib.hid ((Bk.made w 27 #[.bool f, .slice A xs.length cap]).alloc (.cells y.cs 45))
  have BY := Lib.hid (Bk.newAt (w := w.alloc (.cells #[.bool f, .slice A xs.length cap] 27)) (t := 45) (cs := y.cs) (b := w.heap.size + 1) (by simp))
  have O := Lib.hid (((Only.refl [] w).alloc (.cells #[.bool f, .slice A xs.length cap] 27)).alloc (.cells y.cs 45))
  clear h
  go_enter Try.func52, Try.ntmps52
  go_wp2_with fail
  go_loopw [5] (fun iv wr => ∃ i : Nat, iv = .int .i64 i ∧ (∀ j z, j < i → xs[j]? = some z → z ≠ y) ∧ i ≤ xs.length ∧ Bk wr w.heap.size 27 #[.bool f, .slice A xs.length cap] ∧ Bk wr (w.heap.size + 1) 45 y.cs ∧ Only [] w wr) (fun iv _ => xs.length - (intOf iv).toNat)
  case atStart => exact ⟨0, rfl, fun j _ hj => absurd hj (by omega), Nat.zero_le _, BT.out, BY.out, O.out⟩
  case round =>
    clear BT BY O
    obtain ⟨i, rfl, hall, hi, bt, by', o⟩ := hrel
    have c1 := bt.cell0 (i := 1) rfl
    obtain ⟨y0, y1, y2, y3, y4⟩ := by'.tie
    have BT := Lib.hid bt
    have BY := Lib.hid by'
    have O := Lib.hid o
    clear bt by' o
    by_cases hlt : i < xs.length
    · obtain ⟨bl, off, rfl, hb, hc⟩ := RdT.at5 (H.out.only O.out (by simp)) (by omega)
      obtain ⟨x, hx⟩ := some_at hlt
      obtain ⟨x0, x1, x2, x3, x4⟩ := hc i x hx
      have HX := Lib.hid hx
      have HA := Lib.hid hall
      clear hc hx hall
      cases ht : eqT x y with
      | true =>
        have HE := Lib.hid (eqT_iff.1 ht)
        simp only [eqT] at ht
        go_wp2_with fail
        go_quiet (fail)
        go_wp2
        go_ret
        exact ⟨retB (decide_eq_true (List.mem_iff_getElem?.2 ⟨i, by rw [HX.out, HE.out]⟩)).symm, O.out.drewN _⟩
      | false =>
        have hn : x ≠ y := fun h => by rw [eqT_iff.2 h] at ht; cases ht
        simp only [eqT] at ht
        have HN := Lib.hid hn
        clear hn
        go_wp2_with fail
        go_quiet (fail)
        go_wp2
        go_roundw
        case rel => exact ⟨i + 1, by go_num, fun j z hj hz => by
          by_cases e : j = i
          · subst e
            rw [HX.out] at hz
            injection hz with hz
            rw [← hz]
            exact HN.out
          · exact HA.out j z (by omega) hz, by omega, BT.out.drewN _, BY.out.drewN _, O.out.drewN _⟩
        case measure => simp [intOf]; omega
    · have hno : ¬ y ∈ xs := fun hm => by
        obtain ⟨j, hj⟩ := List.mem_iff_getElem?.1 hm
        exact hall j y (by have := (List.getElem?_eq_some_iff.1 hj).1; omega) hj rfl
      go_wp2_with fail
      go_ret
      exact ⟨retB (decide_eq_false hno).symm, O.out⟩
end Go.Proofs.Ytkodblhompphjaa
