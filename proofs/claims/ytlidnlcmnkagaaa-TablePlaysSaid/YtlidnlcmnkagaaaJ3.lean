/- New, find, Is, NameOf of the program's table. -/
import Derived.Test.YtlidnlcmnkagaaaJ2
namespace Go.Proofs.Ytlidnlcmnkagaaa
open Go.RowKit
set_option maxRecDepth 20000

theorem made_list (z : Array Value) : ∀ n, (madeCells z (n * z.size)).toList = (List.replicate n z.toList).flatten
  | 0 => by simp [madeCells]
  | n + 1 => by
    have ih := made_list z n
    unfold madeCells at ih ⊢
    rw [Array.toList_map, Array.toList_range] at ih ⊢
    rw [Nat.succ_mul, List.range_add, List.map_append, ih, List.replicate_succ', List.flatten_append, List.map_map]
    congr 1
    simp only [List.flatten_cons, List.flatten_nil, List.append_nil]
    apply List.ext_getElem?
    intro i
    rw [List.getElem?_map]
    by_cases h : i < z.size
    · rw [List.getElem?_range h]
      simp [Nat.mod_eq_of_lt h, h]
    · rw [List.getElem?_eq_none (by simpa using h), List.getElem?_eq_none (by simpa using h)]
      rfl
/-- make([]T, n) of whatever kind. -/
theorem wpList_makeS {α : Type} (K : Sk α) (z : α) (hz : K.enc z = K.z.cells.toList) (w : World) {ops : Array Oper} {rest : List Oper} {o : Oper} {a : Act} {Q : Exit → Act → World → Prop} (hgd : o.guard = none) (l c : Operand) (ho : o.op = Op.makeSlice K.t l c) (n : Nat) (L C : Int)
    (hl : a.eval l = .int .i64 L) (hc : a.eval c = .int .i64 C) (hL : L = (n : Int)) (hC : C = (n : Int)) (hn : K.by' * n ≤ 281474976710656)
    (h : ∀ w', OwnS K w' w.heap.size (.slice (some ⟨w.heap.size, 0, none⟩) n n) (List.replicate n z) → Only [] w w' → wpList Try.prog ops Q rest (a.put o.dst (.slice (some ⟨w.heap.size, 0, none⟩) n n)) w') : wpList Try.prog ops Q (o :: rest) a w := by
  refine wpList_make_full w hgd l c K.t ho w.heap.size K.e K.i K.z K.k K.ht K.hi K.hz K.hk .i64 .i64 L C n hl hc hL hC (by rw [K.hb]; exact hn) (by
    have := Nat.le_trans (Nat.le_mul_of_pos_left n K.hb0) hn
    unfold maxLen
    omega) (Nat.le_refl _) (fun w' h1 h2 => h w' ?_ (Only.of_grown h2))
  have e : (madeCells K.z.cells (n * K.k)).toList = (List.replicate n z).flatMap K.enc := by
    rw [← K.hzs, made_list, ← hz, List.flatMap_replicate]
  rw [e] at h1
  unfold OwnS
  rw [List.length_replicate]
  exact h1

set_option maxHeartbeats 2000000 in
theorem new_no (room : Int) (w : World) (h : ¬ (1 ≤ room ∧ room ≤ 256)) : Calls Try.prog 18 #[.int .i64 room] w fun e w' => e = .returned (.tuple #[.pointer none, .int .i64 1]) ∧ w = w' := by
  by_cases h1 : room < 1
  · go_enter Try.func18, Try.ntmps18
    go_wp2_with fail
    go_ret2
    exact ⟨rfl, rfl⟩
  · have q0 : decide (room < 1) = false := decide_eq_false h1
    have q1 : decide (256 < room) = true := decide_eq_true (by omega)
    go_enter Try.func18, Try.ntmps18
    go_wp2_with fail
    go_ret2
    exact ⟨rfl, rfl⟩
def NewE (w : World) (n : Nat) (e : Ending) (w' : World) : Prop := ∃ b g mb, e = .returned (.tuple #[ptA b, .int .i64 0]) ∧ TRep w' b g mb n (zeroT n) ∧ (w.heap.size ≤ b ∧ w.heap.size ≤ g ∧ w.heap.size ≤ mb) ∧ Only [] w w'
set_option maxHeartbeats 2000000 in
theorem new_yes (n : Nat) (w : World) (h1 : 1 ≤ n) (h2 : n ≤ 256) : Calls Try.prog 18 #[.int .i64 n] w (NewE w n) := by
  have q0 : decide ((n : Int) < 1) = false := decide_eq_false (by omega)
  have q1 : decide (256 < (n : Int)) = false := decide_eq_false (by omega)
  have hmm := @run_makeMap Try.prog
  go_enter Try.func18, Try.ntmps18
  go_wp2_with (refine wpList_makeS KL ⟨0, false, E0b⟩ rfl w (by rfl) (.tmp 10) (.tmp 10) (by rfl) n _ _ (by rfl) (by rfl) rfl rfl (by show 32 * n ≤ _; omega) ?_; intro w1 hown ho; have K1 := Lib.hid (of_any (w1.alloc (.map #[] 0)) w.heap.size w1.heap.size n n); have HO := Lib.hid hown; have O := Lib.hid ho; have hsz := ho.size; clear hown ho)
  (with_reducible refine K1.out.mono ?_)
  rintro e w2 ⟨rfl, hb, o2⟩
  have e1 : (w1.alloc (.map #[] 0)).heap.size = w1.heap.size + 1 := by simp
  rw [e1] at hb
  have hw1 : w.heap.size < w1.heap.size := by
    obtain ⟨cur, hc⟩ := HO.out.obj
    exact hc.lt
  have E1 : Hid (NewE w n (.returned (.tuple #[ptA (w1.heap.size + 1), .int .i64 0])) w2) := Lib.hid ⟨_, w.heap.size, w1.heap.size, rfl, ⟨by
      have e : (zeroT n).length = n := by simp [zeroT]
      rw [e]; exact hb, by
      have e : (zeroT n).length = n := by simp [zeroT]
      rw [e]; exact (HO.out.alloc _).low (Nat.zero_le _) |>.only o2 (by simp), ((MapIs.made w1).only o2 (by simp)).ext fun s => (where_zero n s).symm, TOk.zero h1 h2⟩, ⟨by omega, Nat.le_refl _, hsz⟩, (O.out.alloc _).trans o2 (by simp)⟩
  clear hb o2 K1 e1
  go_wp2_with fail
  go_ret2
  exact E1.out

/-! ### find -/
theorem quietS {P : Program} {f : FuncId} {args : Array Value} {w : World} {n : Nat} {v : Value} (h : Calls P f args (w.drewN n) fun e w' => e = .returned v ∧ w.drewN n = w') : Calls P f args (w.drewN n) fun e w'' => e = .returned v ∧ ∃ m, w'' = w.drewN m :=
  h.mono fun _ _ ⟨he, hm⟩ => ⟨he, n, hm.symm⟩
theorem TRep.drewN {w : World} {b g mb cap : Nat} {T : List Pl} (h : TRep w b g mb cap T) (n : Nat) : TRep (w.drewN n) b g mb cap T := h.only ((Only.refl [] w).drewN n) (by simp) (by simp) (by simp)
theorem TRep.alloc {w : World} {b g mb cap : Nat} {T : List Pl} (h : TRep w b g mb cap T) (o : Obj) : TRep (w.alloc o) b g mb cap T := h.only ((Only.refl [] w).alloc o) (by simp) (by simp) (by simp)
def FindE (w : World) (g : Nat) (T : List Pl) (p : Pd) (e : Ending) (w' : World) : Prop := e = .returned (.pointer ((findF T p).map fun _ => ⟨g, p.n.toNat * 3, none⟩)) ∧ Only [] w w'
set_option maxHeartbeats 4000000 in
theorem find_any {w : World} {b g mb cap : Nat} {T : List Pl} (h : TRep w b g mb cap T) (p : Pd) : Calls Try.prog 41 #[ptA b, .agg p.cs] w (FindE w g T p) := by
  have KG : Hid (∀ n, Calls Try.prog 36 #[ptA b] ((w.alloc (.cells p.cs 38)).drewN n) fun e w' => e = .returned (.bool true) ∧ (w.alloc (.cells p.cs 38)).drewN n = w') := Lib.hid (fun n => given_any ((h.alloc _).drewN n))
  have c1 := (h.blk.alloc (.cells p.cs 38)).cell0 (i := 1) rfl
  obtain ⟨p0, p1⟩ := (Bk.made w 38 p.cs).pid
  have O : Hid (∀ n, Only [] w ((w.alloc (.cells p.cs 38)).drewN n)) := Lib.hid (fun n => ((Only.refl [] w).alloc _).drewN n)
  have hl := h.ok.len
  have hcap := h.caps
  have HR := Lib.hid h
  obtain ⟨pn, pg⟩ := p
  dsimp only at p0 p1
  clear h
  by_cases hn : pn < 0
  · have e : findF T ⟨pn, pg⟩ = none := if_neg (by show ¬ (0 ≤ pn); omega)
    have q0 : decide (pn < 0) = true := decide_eq_true hn
    have E1 : Hid (FindE w g T ⟨pn, pg⟩ = fun e w' => e = .returned (.pointer none) ∧ Only [] w w') := Lib.hid (by unfold FindE; rw [e]; rfl)
    clear e
    rw [E1.out]
    go_enter Try.func41, Try.ntmps41
    go_wp2_with fail
    go_quiet ((go_at_call 36; exact quietS (KG.out _)))
    go_wp2
    go_ret
    exact ⟨rfl, O.out _⟩
  · have q0 : decide (pn < 0) = false := decide_eq_false hn
    obtain ⟨k, rfl⟩ := Int.eq_ofNat_of_zero_le (show 0 ≤ pn by omega)
    by_cases hk : T.length ≤ k
    · have e : findF T ⟨(k : Int), pg⟩ = none := by
        unfold findF
        rw [if_pos (by show (0 : Int) ≤ k; omega)]
        dsimp only
        rw [Int.toNat_natCast, List.getElem?_eq_none hk]
      have E1 : Hid (FindE w g T ⟨(k : Int), pg⟩ = fun e w' => e = .returned (.pointer none) ∧ Only [] w w') := Lib.hid (by unfold FindE; rw [e]; rfl)
      have q1 : decide (T.length ≤ k) = true := decide_eq_true hk
      clear e
      rw [E1.out]
      go_enter Try.func41, Try.ntmps41
      go_wp2_with fail
      go_quiet ((go_at_call 36; exact quietS (KG.out _)))
      go_wp2
      go_ret
      exact ⟨rfl, O.out _⟩
    · have q1 : decide (T.length ≤ k) = false := decide_eq_false hk
      obtain ⟨x, hx⟩ := some_at (show k < T.length by omega)
      have r := OwnS.alloc HR.out.row (.cells #[.int .i64 (k : Int), .int .i64 pg] 38)
      have x0 := r.at_ hx (j := 0) rfl (q := k * 3) (by show _ = k * 3 + 0; omega)
      have x1 := r.at_ hx (j := 1) rfl (q := k * 3 + 1) rfl
      have p2 : (k : Int) < (T.length : Int) := by omega
      clear r
      have E0 : Hid (findF T ⟨(k : Int), pg⟩ = if x.al = true ∧ x.had = pg then some x else none) := Lib.hid (by
        unfold findF
        rw [if_pos (by show (0 : Int) ≤ k; omega)]
        dsimp only
        rw [Int.toNat_natCast, hx])
      obtain ⟨xh, xa, xn⟩ := x
      dsimp only at x0 x1
      have HX := Lib.hid hx
      clear hx
      cases xa with
      | false =>
        have E1 : Hid (FindE w g T ⟨(k : Int), pg⟩ = fun e w' => e = .returned (.pointer none) ∧ Only [] w w') := Lib.hid (by unfold FindE; rw [E0.out, if_neg (fun h => by cases h.1)]; rfl)
        clear E0
        rw [E1.out]
        go_enter Try.func41, Try.ntmps41
        go_wp2_with fail
        go_quiet ((go_at_call 36; exact quietS (KG.out _)))
        go_wp2
        go_quiet (fail)
        go_wp2
        go_quiet (fail)
        go_wp2
        go_ret
        exact ⟨rfl, ((O.out _).drewN _).drewN _⟩
      | true =>
        by_cases hg : xh = pg
        · have E1 : Hid (FindE w g T ⟨(k : Int), pg⟩ = fun e w' => e = .returned (.pointer (some ⟨g, k * 3, none⟩)) ∧ Only [] w w') := Lib.hid (by unfold FindE; rw [E0.out, if_pos ⟨rfl, hg⟩]; rfl)
          have t0 : (xh == pg) = true := by simpa using hg
          clear E0
          rw [E1.out]
          go_enter Try.func41, Try.ntmps41
          go_wp2_with fail
          go_quiet ((go_at_call 36; exact quietS (KG.out _)))
          go_wp2
          go_quiet (fail)
          go_wp2
          go_quiet (fail)
          go_wp2
          go_ret
          exact ⟨rfl, ((O.out _).drewN _).drewN _⟩
        · have E1 : Hid (FindE w g T ⟨(k : Int), pg⟩ = fun e w' => e = .returned (.pointer none) ∧ Only [] w w') := Lib.hid (by unfold FindE; rw [E0.out, if_neg (fun h => hg h.2)]; rfl)
          have t0 : (xh == pg) = false := by simpa using hg
          clear E0
          rw [E1.out]
          go_enter Try.func41, Try.ntmps41
          go_wp2_with fail
          go_quiet ((go_at_call 36; exact quietS (KG.out _)))
          go_wp2
          go_quiet (fail)
          go_wp2
          go_quiet (fail)
          go_wp2
          go_ret
          exact ⟨rfl, ((O.out _).drewN _).drewN _⟩
end Go.Proofs.Ytlidnlcmnkagaaa
