/- Accounts in memory: a block of 50 cells; what is asked of them. -/
import Derived.Test.YtcchahgfjnphgaaAc2
import Derived.LaidEqlPtr
namespace Go.Proofs.Ytcchahgfjnphgaa
open Go.RowKit
set_option maxRecDepth 20000

/-- The cells of accounts whose self is p. -/
abbrev accC (p : Value) (n : Int) (u : Nat → Int) : Array Value := (p :: .int .i64 n :: cL u).toArray
theorem accC_at (p : Value) (n : Int) (u : Nat → Int) {i : Nat} (h : i < 48) : (accC p n u)[2 + i]? = some (.int .i64 (u i)) := by
  rw [show 2 + i = i + 1 + 1 by omega]
  simpa using cL_at u h
/-- Accounts that New and Copy gave. -/
structure AccIs (w : World) (b n : Nat) (u : Nat → Int) : Prop where
  blk : Bk w b 47 (accC (ptA b) n u)
  n0 : 1 ≤ n
  n16 : n ≤ 16
  ok : InU u
/-- And others: nil, or with no self. -/
def NotAcc (w : World) (p : Value) : Prop := p = .pointer none ∨ ∃ b, p = ptA b ∧ w.cell? ⟨b, 0, none⟩ = some (.pointer none)
theorem AccIs.only {w w' : World} {b n : Nat} {u : Nat → Int} {S : List Nat} (h : AccIs w b n u) (o : Only S w w') (hb : b ∉ S) : AccIs w' b n u := ⟨h.blk.only o hb, h.n0, h.n16, h.ok⟩
theorem NotAcc.only {w w' : World} {p : Value} (h : NotAcc w p) (o : Only [] w w') : NotAcc w' p := by
  rcases h with h | ⟨b, h, hc⟩
  · exact .inl h
  · exact .inr ⟨b, h, (o.cell (p := ⟨b, 0, none⟩) (World.block_lt_of_cell? w _ hc) (by simp)).trans hc⟩

set_option maxHeartbeats 1000000 in
theorem isClass_any (c : Int) (w : World) : Calls Try.prog 24 #[.int .i64 c] w fun e w' => e = .returned (.bool (decide (0 ≤ c ∧ c < 3))) ∧ w = w' := by
  by_cases h : 0 ≤ c
  · have e1 : decide (0 ≤ c ∧ c < 3) = decide (c < 3) := by simp [h]
    rw [e1]
    clear e1
    go_enter Try.func24, Try.ntmps24
    go_wp2_with fail
    go_ret
    exact ⟨rfl, rfl⟩
  · have e1 : decide (0 ≤ c ∧ c < 3) = false := by simp [h]
    rw [e1]
    clear e1
    go_enter Try.func24, Try.ntmps24
    go_wp2_with fail
    go_ret
    exact ⟨rfl, rfl⟩
@[go_sem high] theorem acc_self (b : Nat) (w : World) : (binOp .eql 28 (ptA b) (ptA b)).run Try.prog w = .ok (.bool true) w :=
  run_eql_ptr_same (j := (Try.prog.info? 47).getD default) _ _ Try.underlying28 (by kernel_rfl)
@[go_sem high] theorem acc_other (b : Nat) (w : World) : (binOp .eql 28 (.pointer none) (.pointer (some ⟨b, 0, none⟩))).run Try.prog w = .ok (.bool false) w := by
  have h : ∀ d : Nat, (Op.equalIn (d + 1) 28 (.pointer none) (.pointer (some ⟨b, 0, none⟩))).run Try.prog w = .ok false w := fun d => by
    simp [Op.equalIn, run_underlying Try.underlying28]
  simp only [binOp]
  simp [Op.equal, Op.maxDepth, h 9999]
set_option maxHeartbeats 1000000 in
theorem given_yes {w : World} {b n : Nat} {u : Nat → Int} (h : AccIs w b n u) : Calls Try.prog 23 #[ptA b] w fun e w' => e = .returned (.bool true) ∧ w = w' := by
  have c0 : w.cell? ⟨b, 0, none⟩ = some (ptA b) := h.blk.cell0 (i := 0) rfl
  clear h
  go_enter Try.func23, Try.ntmps23
  go_wp2_with fail
  go_ret
  exact ⟨rfl, rfl⟩
set_option maxHeartbeats 1000000 in
theorem given_no {w : World} {p : Value} (h : NotAcc w p) : Calls Try.prog 23 #[p] w fun e w' => e = .returned (.bool false) ∧ w = w' := by
  rcases h with rfl | ⟨b, rfl, c0⟩
  · go_enter Try.func23, Try.ntmps23
    go_wp2_with fail
    go_ret
    exact ⟨rfl, rfl⟩
  · go_enter Try.func23, Try.ntmps23
    go_wp2_with fail
    go_ret
    exact ⟨rfl, rfl⟩
set_option maxHeartbeats 1000000 in
theorem hasCore_yes {w : World} {b n : Nat} {u : Nat → Int} (h : AccIs w b n u) (k : Int) : Calls Try.prog 22 #[ptA b, .int .i64 k] w fun e w' => e = .returned (.bool (decide (0 ≤ k ∧ k < n))) ∧ w = w' := by
  have c1 : w.cell? ⟨b, 1, none⟩ = some (.int .i64 n) := h.blk.cell0 (i := 1) rfl
  have K := Lib.hid (given_yes h)
  clear h
  by_cases h : 0 ≤ k
  · have e1 : decide (0 ≤ k ∧ k < (n : Int)) = decide (k < n) := by simp [h]
    rw [e1]
    clear e1
    go_enter Try.func22, Try.ntmps22
    go_wp2_with fail
    (with_reducible refine K.out.mono ?_)
    rintro e w1 ⟨rfl, rfl⟩
    go_wp2_with fail
    go_ret
    exact ⟨rfl, rfl⟩
  · have e1 : decide (0 ≤ k ∧ k < (n : Int)) = false := by simp [h]
    rw [e1]
    clear e1
    go_enter Try.func22, Try.ntmps22
    go_wp2_with fail
    (with_reducible refine K.out.mono ?_)
    rintro e w1 ⟨rfl, rfl⟩
    go_wp2_with fail
    go_ret
    exact ⟨rfl, rfl⟩
set_option maxHeartbeats 1000000 in
theorem hasCore_no {w : World} {p : Value} (h : NotAcc w p) (k : Int) : Calls Try.prog 22 #[p, .int .i64 k] w fun e w' => e = .returned (.bool false) ∧ w = w' := by
  have K := Lib.hid (given_no h)
  clear h
  go_enter Try.func22, Try.ntmps22
  go_wp2_with fail
  (with_reducible refine K.out.mono ?_)
  rintro e w1 ⟨rfl, rfl⟩
  go_wp2_with fail
  go_ret
  exact ⟨rfl, rfl⟩
set_option maxHeartbeats 1000000 in
theorem has_of {w : World} {p : Value} {k c : Int} {x : Bool} (hK : Calls Try.prog 22 #[p, .int .i64 k] w fun e w' => e = .returned (.bool x) ∧ w = w') :
    Calls Try.prog 19 #[p, .int .i64 k, .int .i64 c] w fun e w' => e = .returned (.bool (if x = true then decide (0 ≤ c ∧ c < 3) else false)) ∧ w = w' := by
  have K := Lib.hid hK
  have K2 := Lib.hid (isClass_any c w)
  clear hK
  generalize decide (0 ≤ c ∧ c < 3) = y at *
  cases x
  · go_enter Try.func19, Try.ntmps19
    go_wp2_with fail
    (with_reducible refine K.out.mono ?_)
    rintro e w1 ⟨rfl, rfl⟩
    go_wp2_with fail
    go_ret
    exact ⟨rfl, rfl⟩
  · go_enter Try.func19, Try.ntmps19
    go_wp2_with fail
    (with_reducible refine K.out.mono ?_)
    rintro e w1 ⟨rfl, rfl⟩
    go_wp2_with fail
    (with_reducible refine K2.out.mono ?_)
    rintro e w1 ⟨rfl, rfl⟩
    go_wp2_with fail
    go_ret
    exact ⟨rfl, rfl⟩
theorem has_yes {w : World} {b n : Nat} {u : Nat → Int} (h : AccIs w b n u) (k c : Int) : Calls Try.prog 19 #[ptA b, .int .i64 k, .int .i64 c] w fun e w' => e = .returned (.bool (decide (isAt n k c))) ∧ w = w' := by
  have e1 : decide (isAt n k c) = (if decide (0 ≤ k ∧ k < n) = true then decide (0 ≤ c ∧ c < 3) else false) := by
    unfold isAt
    by_cases h : 0 ≤ k ∧ k < n
    · rw [if_pos (decide_eq_true h)]; simp [h]
    · rw [if_neg (by simpa using h)]; exact decide_eq_false (fun g => h g.1)
  rw [e1]
  exact has_of (hasCore_yes h k)
theorem has_no {w : World} {p : Value} (h : NotAcc w p) (k c : Int) : Calls Try.prog 19 #[p, .int .i64 k, .int .i64 c] w fun e w' => e = .returned (.bool false) ∧ w = w' := has_of (hasCore_no h k)
/-! ### Accounts made -/
theorem built_acc (n : Int) (u : Nat → Int) : Try.prog.built 47 [(1, .int .i64 n), (2, .agg (cA u))] = some (accC (.pointer none) n u) := by
  kernel_rfl
theorem wpList_built {ops : Array Oper} {rest : List Oper} {o : Oper} {a : Act} {w : World} {Q : Exit → Act → World → Prop} (hg : o.guard = none) (t : TypeId) (parts : Array (Nat × Operand)) (ho : o.op = .build t parts) (ps : List (Nat × Value)) (cs : Array Value)
    (hp : (parts.map fun (i, x) => (i, a.eval x)).toList = ps) (hf : Try.prog.built t ps = some cs)
    (h : wpList Try.prog ops Q rest (a.put o.dst (.agg cs)) w) : wpList Try.prog ops Q (o :: rest) a w :=
  wpList_build hg t parts ho (by rw [hp, hf]; rfl) (by rw [hp, hf]; exact h)
set_option maxHeartbeats 2000000 in
theorem of_any (n : Int) (u : Nat → Int) (w : World) : Calls Try.prog 18 #[.int .i64 n, .agg (cA u)] w fun e w' => Only [] w w' ∧ ∃ b, e = .returned (ptA b) ∧ w.heap.size ≤ b ∧ Bk w' b 47 (accC (ptA b) n u) := by
  have b0 := Bk.made w 45 (cA u)
  have b1 := Bk.newAt (w := w.alloc (.cells (cA u) 45)) (t := 47) (cs := accC (.pointer none) n u) (b := w.heap.size + 1) (by simp)
  have b2 := Bk.newAt (w := w.alloc (.cells (cA u) 45)) (t := 47) (cs := accC (ptA (w.heap.size + 1)) n u) (b := w.heap.size + 1) (by simp)
  have o2 := ((Only.refl [] w).alloc (.cells (cA u) 45)).alloc (.cells (accC (ptA (w.heap.size + 1)) n u) 47)
  have f1 := b1.free 0
  have c1 := b1.cell0 (i := 0) rfl
  have B0 := Lib.hid b0
  have B2 := Lib.hid b2
  have O2 := Lib.hid o2
  have HB := Lib.hid (built_acc n u)
  clear b0 b1 b2 o2
  go_enter Try.func18, Try.ntmps18
  go_wp2_with (first
    | (refine wpList_built rfl 47 #[(1, .tmp 6), (2, .tmp 7)] rfl [(1, .int .i64 n), (2, .agg (cA u))] (accC (.pointer none) n u) (by simp [Act.put, Act.eval, go_sem]) HB.out ?_; simp only [Act.put, List.setIfInBounds_toArray, List.set_cons_zero, List.set_cons_succ])
    | (refine wpList_load_row (by rfl) 45 _ (by rfl) w.heap.size (by rfl) 45 (cA u) (0, 0) _ B0.out Try.underlying45 (by rfl) isz ?_))
  go_ret
  exact ⟨O2.out, _, rfl, Nat.le_succ _, B2.out⟩
/-- What New answers. -/
def NewE (c : Int) (w : World) (e : Ending) (w' : World) : Prop := Only [] w w' ∧
    ((1 ≤ c ∧ c ≤ 16 ∧ ∃ b, e = .returned (.tuple #[ptA b, .int .i64 0]) ∧ w.heap.size ≤ b ∧ AccIs w' b c.toNat (fun _ => 0)) ∨ (¬ (1 ≤ c ∧ c ≤ 16) ∧ e = .returned (.tuple #[.pointer none, .int .i64 1])))
set_option maxHeartbeats 2000000 in
theorem new_any (c : Int) (w : World) : Calls Try.prog 9 #[.int .i64 c] w (NewE c w) := by
  by_cases h1 : c < 1
  · go_enter Try.func9, Try.ntmps9
    go_wp2_with fail
    go_ret2
    exact ⟨Only.refl _ _, .inr ⟨by omega, rfl⟩⟩
  · by_cases h2 : 16 < c
    · go_enter Try.func9, Try.ntmps9
      go_wp2_with fail
      go_ret2
      exact ⟨Only.refl _ _, .inr ⟨by omega, rfl⟩⟩
    · have K := of_any c (fun _ => 0) w
      simp only [cA_zero] at K
      have K := Lib.hid K
      go_enter Try.func9, Try.ntmps9
      go_wp2_with fail
      (with_reducible refine K.out.mono ?_)
      rintro e w1 ⟨o1, b, rfl, hb, B1⟩
      have B1 := Lib.hid B1
      have O1 := Lib.hid o1
      clear o1 K
      go_wp2_with fail
      go_ret2
      obtain ⟨n, rfl⟩ := Int.eq_ofNat_of_zero_le (show 0 ≤ c by omega)
      exact ⟨O1.out, .inl ⟨by omega, by omega, b, rfl, hb, ⟨B1.out, by rw [Int.toNat_natCast]; omega, by rw [Int.toNat_natCast]; omega, fun _ _ => ⟨Int.le_refl _, by decide⟩⟩⟩⟩
end Go.Proofs.Ytcchahgfjnphgaa
