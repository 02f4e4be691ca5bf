/- Counts held against each other as arrays; a change tried: (counts).with. -/
import Derived.Test.YtcchahgfjnphgaaAc1
import Derived.Laws.StructEq
import Derived.ChangeKeysEq
namespace Go.Proofs.Ytcchahgfjnphgaa
open Go.RowKit
set_option maxRecDepth 20000

def eq3 (a b c a' b' c' : Int) : Bool := a == a' && (b == b' && c == c')
def eqC (u v : Nat → Int) : Bool := (List.range 16).all fun k => eq3 (u (k * 3)) (u (k * 3 + 1)) (u (k * 3 + 2)) (v (k * 3)) (v (k * 3 + 1)) (v (k * 3 + 2))
theorem eqC_iff {u v : Nat → Int} : eqC u v = true ↔ ∀ i, i < 48 → u i = v i := by
  unfold eqC eq3
  simp only [List.all_eq_true, List.mem_range, Bool.and_eq_true, beq_iff_eq]
  constructor
  · intro h i hi
    have h1 := h (i / 3) (by omega)
    have h2 : i = i / 3 * 3 ∨ i = i / 3 * 3 + 1 ∨ i = i / 3 * 3 + 2 := by omega
    rcases h2 with e | e | e
    · rw [e]; exact h1.1
    · rw [e]; exact h1.2.1
    · rw [e]; exact h1.2.2
  · intro h k hk
    exact ⟨h _ (by omega), h _ (by omega), h _ (by omega)⟩
theorem row_eq (d : Nat) (a b c a' b' c' : Int) (w : World) : (Op.equalIn (d + 2) 36 (.agg #[.int .i64 a, .int .i64 b, .int .i64 c]) (.agg #[.int .i64 a', .int .i64 b', .int .i64 c'])).run Try.prog w = .ok (eq3 a b c a' b' c') w := by
  rw [run_equalIn_array w (d + 1) _ _ Try.underlying36 (i := (Try.prog.info? 3).getD default) (by kernel_rfl)]
  rw [show Try.prog.cellsOf 3 = 1 from by kernel_rfl, show List.range 3 = [0, 1, 2] from rfl]
  simp only [Op.eqItems, eq3]
  go_simp
  by_cases h1 : a = a' <;> by_cases h2 : b = b' <;> by_cases h3 : c = c' <;> simp [h1, h2, h3]
theorem cut3 (u : Nat → Int) (k : Nat) (hk : k < 16) : (cA u).extract (k * 3) (k * 3 + 3) = #[.int .i64 (u (k * 3)), .int .i64 (u (k * 3 + 1)), .int .i64 (u (k * 3 + 2))] := by
  apply Array.ext_getElem?
  intro i
  by_cases hi : i < 3
  · rw [Array.getElem?_extract, if_pos (by rw [cA_size]; omega), cA_at u (by omega)]
    have : i = 0 ∨ i = 1 ∨ i = 2 := by omega
    rcases this with rfl | rfl | rfl <;> rfl
  · rw [Array.getElem?_eq_none (by simp [cL_len]; omega), Array.getElem?_eq_none (by simp; omega)]
theorem part3 (u : Nat → Int) (k : Nat) (hk : k < 16) (w : World) : (part 36 (cA u) (k * 3)).run Try.prog w = .ok (.agg #[.int .i64 (u (k * 3)), .int .i64 (u (k * 3 + 1)), .int .i64 (u (k * 3 + 2))]) w := by
  have ha : (isAgg 36).run Try.prog w = .ok true w := by
    unfold isAgg
    rw [Sem.run_bind, run_underlying Try.underlying36 w]
    rfl
  have hs : (sizeOf 36).run Try.prog w = .ok 3 w := by
    rw [run_sizeOf w (i := (Try.prog.info? 36).getD default) (by kernel_rfl)]
    rw [show Try.prog.cellsOf 36 = 3 from by kernel_rfl]
  simp only [part, Sem.run_bind, ha, hs, Result.andThen_ok, if_true, Sem.run_pure, cut3 u k hk]
theorem items_eq (d : Nat) (u v : Nat → Int) (w : World) : ∀ is : List Nat, (∀ k ∈ is, k < 16) → (Op.eqItems (d + 2) 36 3 (cA u) (cA v) is).run Try.prog w = .ok (is.all fun k => eq3 (u (k * 3)) (u (k * 3 + 1)) (u (k * 3 + 2)) (v (k * 3)) (v (k * 3 + 1)) (v (k * 3 + 2))) w
  | [], _ => rfl
  | k :: is, h => by
    simp only [Op.eqItems, Sem.run_bind, part3 u k (h k (by simp)) w, part3 v k (h k (by simp)) w, row_eq, Result.andThen_ok, List.all_cons]
    cases eq3 (u (k * 3)) (u (k * 3 + 1)) (u (k * 3 + 2)) (v (k * 3)) (v (k * 3 + 1)) (v (k * 3 + 2))
    · rfl
    · simp only [Bool.not_true, Bool.false_eq_true, if_false, Bool.true_and]
      exact items_eq d u v w is (fun k hk => h k (by simp [hk]))
theorem counts_eq (u v : Nat → Int) (w : World) : (Op.equalIn 10000 45 (.agg (cA u)) (.agg (cA v))).run Try.prog w = .ok (eqC u v) w := by
  rw [run_equalIn_array w 9999 _ _ Try.underlying45 (i := (Try.prog.info? 36).getD default) (by kernel_rfl)]
  rw [show Try.prog.cellsOf 36 = 3 from by kernel_rfl]
  exact items_eq 9997 u v w (List.range 16) (fun k hk => List.mem_range.1 hk)
@[go_sem high] theorem counts_eqV (u v : Nat → Int) (w : World) : (Op.equalIn 10000 45 (.agg (cL u).toArray) (.agg (cL v).toArray)).run Try.prog w = .ok (eqC u v) w := counts_eq u v w
@[go_sem] theorem counts_guard (op : BinOp) (x y : Operand) (xs ys : Array Value) (w : World) : (eqGuard op 45 x y (.agg xs) (.agg ys)).run Try.prog w = .ok () w := run_eqGuard_agg w op _ x y xs ys (by kernel_rfl)
theorem range_only {w w' : World} {S : List Nat} {b o : Nat} {cs : List Value} (h : w.rangeAt b o cs) (ho : Only S w w') (hb : b < w.heap.size) (hn : b ∉ S) : w'.rangeAt b o cs := fun j v hv => (ho.cell (p := ⟨b, o + j, none⟩) hb hn).trans (h j v hv)
theorem Bk.range {w : World} {g : Nat} {t : TypeId} {cs : List Value} (h : Bk w g t cs.toArray) : w.rangeAt g 0 cs := fun j v hv => by
  rw [Nat.zero_add]
  exact h.cell0 (by simpa using hv)

/-- What comes of a change. -/
def withF (u : Nat → Int) (i : Nat) (n : Int) : (Nat → Int) × Int := if 0 ≤ u i + n ∧ u i + n ≤ 64 then (updU u i (u i + n), 0) else (fun _ => 0, if n < 0 then 3 else 170)
def InU (u : Nat → Int) : Prop := ∀ i, i < 48 → 0 ≤ u i ∧ u i ≤ 64
theorem eqC_upd {u : Nat → Int} {i : Nat} {v : Int} (hu : InU u) (hi : i < 48) : eqC (updU u i v) (fun j => clipI (updU u i v j)) = decide (0 ≤ v ∧ v ≤ 64) := by
  rw [Bool.eq_iff_iff, eqC_iff, decide_eq_true_iff]
  constructor
  · intro h
    have h1 := h i hi
    simp only [updU, if_true, clipI] at h1
    omega
  · intro h j hj
    show updU u i v j = clipI (updU u i v j)
    unfold updU
    split
    · unfold clipI; omega
    · have := hu j hj
      unfold clipI; omega
set_option maxHeartbeats 4000000 in
theorem with_any (u : Nat → Int) (k c : Nat) (n : Int) (w : World) (hu : InU u) (hk : k < 16) (hc : c < 3) (hn : -9223372036854775808 ≤ u (k * 3 + c) + n ∧ u (k * 3 + c) + n ≤ 9223372036854775807) :
    Calls Try.prog 21 #[.agg (cA u), .int .i64 k, .int .i64 c, .int .i64 n] w fun e w' => e = .returned (.tuple #[.agg (cA (withF u (k * 3 + c) n).1), .int .i64 (withF u (k * 3 + c) n).2]) ∧ Only [] w w' := by
  go_enter Try.func21, Try.ntmps21
  go_upto_region 1 with fail
  have b0 := (Bk.made w 45 (cA u)).alloc (.cells (cA fun _ => 0) 45)
  have b1 := Bk.newAt (w := w.alloc (.cells (cA u) 45)) (t := 45) (cs := cA fun _ => 0) (b := w.heap.size + 1) (by simp)
  have o0 := ((Only.refl [] w).alloc (.cells (cA u) 45)).alloc (.cells (cA fun _ => 0) 45)
  have hs0 : w.heap.size + 1 < ((w.alloc (.cells (cA u) 45)).alloc (.cells (cA fun _ => 0) 45)).heap.size := b1.lt
  simp only [← cA_zero]
  generalize (w.alloc (.cells (cA u) 45)).alloc (.cells (cA fun _ => 0) 45) = W at *
  have c0 := b0.cell0 (cA_at u (show k * 3 + c < 48 by omega))
  have f0 := b0.free (k * 3 + c)
  have nx : Bk (W.setCell ⟨w.heap.size, k * 3 + c, none⟩ (.int .i64 (u (k * 3 + c) + n))).drew w.heap.size 45 (cA (updU u (k * 3 + c) (u (k * 3 + c) + n))) := by
    have h := (b0.set (k * 3 + c) (.int .i64 (u (k * 3 + c) + n))).drew
    rwa [cA_set] at h
  have n1 : Bk (W.setCell ⟨w.heap.size, k * 3 + c, none⟩ (.int .i64 (u (k * 3 + c) + n))).drew (w.heap.size + 1) 45 (cA fun _ => 0) := (b1.away (p := ⟨w.heap.size, k * 3 + c, none⟩) (by simp) _).drew
  have ox : Only [] w (W.setCell ⟨w.heap.size, k * 3 + c, none⟩ (.int .i64 (u (k * 3 + c) + n))).drew := (o0.set (p := ⟨w.heap.size, k * 3 + c, none⟩) (.inr (Nat.le_refl _)) _).drew
  have NX := Lib.hid nx
  have N1 := Lib.hid n1
  have OX := Lib.hid ox
  clear nx n1 ox b0 b1 o0
  go_region
  clear c0 f0
  generalize World.drew _ = w5 at *
  generalize hv : u (k * 3 + c) + n = v at *
  have EQ := Lib.hid (eqC_upd (u := u) (i := k * 3 + c) (v := v) hu (by omega))
  have hW : withF u (k * 3 + c) n = if 0 ≤ v ∧ v ≤ 64 then (updU u (k * 3 + c) v, 0) else (fun _ => 0, if n < 0 then 3 else 170) := by unfold withF; rw [hv]
  have HW := Lib.hid hW
  have HU := Lib.hid hu
  have hn0 : n < 0 ∨ 0 ≤ n := by omega
  generalize updU u (k * 3 + c) v = u' at *
  have hr : w5.rangeAt w.heap.size 0 (cL u') := NX.out.range
  have hr' : w5.drew.rangeAt w.heap.size 0 (cL u') := by simpa using hr
  have hb5 : w.heap.size < w5.heap.size := NX.out.lt
  have KC := Lib.hid (fun w' => clipped_any u' w')
  have hu16 := Try.underlying45
  have hi48 : (Try.prog.info? 45).map (·.size) = some (cL u').length := by rw [cL_len]; exact isz
  clear hW hv hu hn
  go_wp2_with fail
  refine wp_region_held_drew (S := fun W' => W'.rangeAt w.heap.size 0 (cL u')) (by kernel_rfl) hr' (fun hH => ?_)
  refine wpAnyH_take (i := 0) (oi := { dst := some 20, op := Op.load 45 (Operand.tmp 4), type := 45, pos := "counts.go:12", after := #[], guard := none }) (v := .agg (cL u').toArray) rfl (by kernel_rfl) (by kernel_rfl) (by kernel_rfl) (fun _ _ _ h => h) (yieldsIf_load_mid (by rfl) _ _ rfl w.heap.size 0 rfl (cL u') _ (fun _ h => h) hu16 rfl hi48) hH ?_
  simp only [Act.put, List.setIfInBounds_toArray, List.set_cons_zero, List.set_cons_succ]
  refine wpAnyH_take (i := 1) (oi := { dst := some 21, op := Op.load 45 (Operand.tmp 4), type := 45, pos := "counts.go:12", after := #[], guard := none }) (v := .agg (cL u').toArray) rfl (by kernel_rfl) (by kernel_rfl) (by kernel_rfl) (fun _ _ _ h => h) (yieldsIf_load_mid (by rfl) _ _ rfl w.heap.size 0 rfl (cL u') _ (fun _ h => h) hu16 rfl hi48) hH ?_
  simp only [Act.put, List.setIfInBounds_toArray, List.set_cons_zero, List.set_cons_succ]
  clear hu16 hi48
  refine wpAnyH_ready (rs := [2]) (by kernel_rfl) (by simp) (AllReadyH.cons (o := { dst := some 22, op := Op.call { callee := Callee.value (Operand.func 25), args := #[Operand.tmp 21], argTypes := #[45] }, type := 45, pos := "counts.go:12", after := #[{ on := 1, ground := Ground.data }], guard := none }) rfl (fun K hK => ?_) AllReadyH.nil)
  go_simp
  (with_reducible refine (KC.out _).mono ?_)
  rintro e w6 ⟨rfl, o6⟩
  dsimp only
  refine hK.out _ _ (range_only hr' o6 hb5 (by simp)) (fun hH6 => ?_)
  clear hK K
  refine wpAnyH_ready (rs := [3]) (by kernel_rfl) (by simp) (AllReadyH.cons (o := { dst := some 23, op := Op.binOp BinOp.eql 45 (Operand.tmp 20) (Operand.tmp 22) 45, type := 4, pos := "counts.go:12", after := #[{ on := 0, ground := Ground.data }, { on := 2, ground := Ground.data }], guard := none }) rfl (fun K hK => ?_) AllReadyH.nil)
  go_simp
  refine hK.out _ _ hH6 (fun _ => ?_)
  clear hK K
  refine wpAnyH_ready (rs := [4]) (by kernel_rfl) (by simp) (AllReadyH.cons (o := { dst := some 19, op := Op.assign (Operand.tmp 23), type := 4, pos := "counts.go:12", after := #[{ on := 3, ground := Ground.data }, { on := 2, ground := Ground.chain }], guard := none }) rfl (fun K hK => ?_) AllReadyH.nil)
  go_simp
  refine hK.out _ _ hH6 (fun _ => ?_)
  clear hK K
  refine wpAnyH_done (by kernel_rfl) ?_ _
  have o5 : Only [] w5 w6 := ⟨o6.os, o6.tape, o6.output, o6.size, o6.block⟩
  clear hr hr' hH hH6 KC hb5
  have O6 := Lib.hid (OX.out.trans o5 (by simp))
  have N0 := Lib.hid (NX.out.only o5 (by simp))
  have N1' := Lib.hid (N1.out.only o5 (by simp))
  have fin : ∀ (z : Nat → Int) W7, w6.setRow (w.heap.size + 1) (cA z) = W7 → Bk W7 (w.heap.size + 1) 45 (cA z) ∧ Only [] w W7 := fun z W7 hW => by
    obtain ⟨b, o⟩ := row_set N1'.out hW
    exact ⟨b, O6.out.trans o (fun i hi => .inr (by simp at hi; omega))⟩
  have FIN := Lib.hid fin
  clear fin o6 N1 NX OX
  rw [EQ.out]
  by_cases hin : 0 ≤ v ∧ v ≤ 64
  · have e1 := HW.out
    rw [if_pos hin] at e1
    have E1 := Lib.hid e1
    have hd : decide (0 ≤ v ∧ v ≤ 64) = true := decide_eq_true hin
    rw [hd]
    clear e1 hd EQ HW
    go_wp2_with (first
      | (refine wpList_load_row (by rfl) 45 _ (by rfl) w.heap.size (by rfl) 45 (cA u') (0, 0) _ N0.out Try.underlying45 (by rfl) isz ?_)
      | (refine wpList_store_row (by rfl) _ _ _ (by rfl) (w.heap.size + 1) (cA u') (by rfl) (by rfl) 45 _ N1'.out isz (by rfl) (cA_one _) ?_; generalize hW : World.setRow _ _ _ = W7; obtain ⟨b7, o7⟩ := FIN.out _ _ hW; clear hW))
    exact res2 Try.results21 b7 (by rfl) (by rfl) (by rfl) Try.underlying45 isz rfl ⟨by rw [E1.out]; rfl, o7⟩
  · have e1 := HW.out
    rw [if_neg hin] at e1
    have E1 := Lib.hid e1
    have hd : decide (0 ≤ v ∧ v ≤ 64) = false := decide_eq_false hin
    rw [hd]
    clear e1 hd EQ HW hin
    rcases hn0 with hn0 | hn0
    · have e3 : (if n < 0 then (3 : Int) else 170) = 3 := if_pos hn0
      rw [e3] at E1
      clear e3
      go_wp2_with (first
        | (refine wpList_store_row (by rfl) _ _ _ (by rfl) (w.heap.size + 1) (cA fun _ => 0) (by rfl) (by rw [cA_zero]; rfl) 45 _ N1'.out isz (by rfl) (cA_one _) ?_; generalize hW : World.setRow _ _ _ = W7; obtain ⟨b7, o7⟩ := FIN.out _ _ hW; clear hW))
      exact res2 Try.results21 b7 (by rfl) (by rfl) (by rfl) Try.underlying45 isz rfl ⟨by rw [E1.out]; rfl, o7⟩
    · have e3 : (if n < 0 then (3 : Int) else 170) = 170 := if_neg (by omega)
      rw [e3] at E1
      clear e3
      go_wp2_with (first
        | (refine wpList_store_row (by rfl) _ _ _ (by rfl) (w.heap.size + 1) (cA fun _ => 0) (by rfl) (by rw [cA_zero]; rfl) 45 _ N1'.out isz (by rfl) (cA_one _) ?_; generalize hW : World.setRow _ _ _ = W7; obtain ⟨b7, o7⟩ := FIN.out _ _ hW; clear hW))
      exact res2 Try.results21 b7 (by rfl) (by rfl) (by rfl) Try.underlying45 isz rfl ⟨by rw [E1.out]; rfl, o7⟩
end Go.Proofs.Ytcchahgfjnphgaa
