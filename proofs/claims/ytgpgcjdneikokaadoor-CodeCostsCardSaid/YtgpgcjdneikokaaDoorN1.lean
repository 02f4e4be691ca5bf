/- The operations' names and costs: Op, OpOf, Cost. -/
import Derived.Test.YtgpgcjdneikokaaDoorGShell
namespace Go.Proofs.YtgpgcjdneikokaaDoor
open Go.RowKit

/-- The names, each in its operation's place; in place 0 none. -/
def nml : List ByteArray := [⟨#[]⟩, ⟨#[112, 117, 115, 104]⟩, ⟨#[112, 111, 112]⟩, ⟨#[100, 117, 112]⟩, ⟨#[108, 111, 97, 100]⟩, ⟨#[115, 116, 111, 114, 101]⟩, ⟨#[97, 100, 100]⟩, ⟨#[115, 117, 98]⟩, ⟨#[109, 117, 108]⟩, ⟨#[100, 105, 118]⟩, ⟨#[114, 101, 109]⟩, ⟨#[110, 101, 103]⟩, ⟨#[99, 111, 110, 106]⟩, ⟨#[116, 117, 114, 110]⟩, ⟨#[101, 113]⟩, ⟨#[108, 101, 115, 115]⟩, ⟨#[110, 111, 116]⟩, ⟨#[107, 105, 110, 100]⟩, ⟨#[116, 117, 112, 108, 101]⟩, ⟨#[108, 105, 115, 116]⟩, ⟨#[101, 108, 101, 109]⟩, ⟨#[115, 105, 122, 101]⟩, ⟨#[99, 111, 110, 115]⟩, ⟨#[104, 101, 97, 100]⟩, ⟨#[116, 97, 105, 108]⟩, ⟨#[106, 117, 109, 112]⟩, ⟨#[105, 102]⟩, ⟨#[109, 97, 116, 99, 104]⟩, ⟨#[99, 97, 108, 108]⟩, ⟨#[114, 101, 116]⟩, ⟨#[115, 101, 108, 102]⟩, ⟨#[110, 111, 119]⟩, ⟨#[115, 101, 110, 100]⟩, ⟨#[114, 101, 99, 118]⟩, ⟨#[115, 112, 97, 119, 110]⟩, ⟨#[116, 105, 109, 101, 114]⟩, ⟨#[99, 97, 110, 99, 101, 108]⟩, ⟨#[108, 105, 110, 107]⟩, ⟨#[117, 110, 108, 105, 110, 107]⟩, ⟨#[109, 111, 110, 105, 116, 111, 114]⟩, ⟨#[100, 101, 109, 111, 110]⟩, ⟨#[116, 114, 97, 112]⟩, ⟨#[110, 97, 109, 101]⟩, ⟨#[119, 104, 101, 114, 101]⟩, ⟨#[111, 117, 116]⟩, ⟨#[101, 120, 105, 116]⟩, ⟨#[121, 105, 101, 108, 100]⟩]
def nm (j : Nat) : ByteArray := nml[j]?.getD ⟨#[]⟩
/-- The table of names, as it is laid. -/
def NM (w : World) : Prop := ∀ j, j < 47 → w.cell? ⟨0, j, none⟩ = some (.string (nm j))
theorem NM.lt {w : World} (h : NM w) : 0 < w.heap.size := by
  have h0 := h 0 (by decide)
  apply Nat.lt_of_not_le
  intro hle
  simp [World.cell?, Array.getElem?_eq_none hle] at h0
theorem NM.only {S : List Nat} {w w' : World} (h : NM w) (o : Only S w w') (hS : 0 ∉ S) : NM w' :=
  fun j hj => (o.cell (p := ⟨0, j, none⟩) h.lt hS).trans (h j hj)
theorem NM.same {w w' : World} (h : NM w) (o : Only [] w w') : NM w' := h.only o (by simp)
def lsb (s : ByteArray) : List UInt8 := s.data.toList
/-- Each name is its own. -/
theorem nm_own : ∀ i j, 1 ≤ i → i < 47 → 1 ≤ j → j < 47 → ((nm i).toList == (nm j).toList) = decide (i = j) := by
  have h : ((List.range 47).all fun i => (List.range 47).all fun j => i == 0 || j == 0 || (((nm i).toList == (nm j).toList) == decide (i = j))) = true := by kernel_rfl
  intro i j h1 h2 h3 h4
  have ha := List.all_eq_true.1 (List.all_eq_true.1 h i (List.mem_range.2 h2)) j (List.mem_range.2 h4)
  have e1 : (i == 0) = false := by simp; omega
  have e2 : (j == 0) = false := by simp; omega
  rw [e1, e2] at ha
  simpa using ha
/-- What operations cost. -/
def cst (j : Nat) : Int := ([0, 1, 1, 1, 1, 1, 1, 1, 1, 1, 1, 1, 1, 1, 1, 1, 1, 1, 2, 2, 1, 1, 1, 1, 1, 1, 1, 2, 2, 1, 1, 1, 4, 2, 8, 2, 2, 2, 2, 2, 2, 1, 2, 2, 2, 1, 1] : List Int).getD j 0
theorem cst_in : ∀ j, 1 ≤ j → j < 47 → 1 ≤ cst j ∧ cst j ≤ 8 := by
  have h : ((List.range 47).all fun j => j == 0 || (decide (1 ≤ cst j) && decide (cst j ≤ 8))) = true := by kernel_rfl
  intro j h1 h2
  have ha := List.all_eq_true.1 h j (List.mem_range.2 h2)
  have e1 : (j == 0) = false := by simp; omega
  rw [e1] at ha
  simpa using ha

theorem isWithin_any (n a b : Int) (w : World) : Calls Tryd.prog 13 #[.int .i64 n, .int .i64 a, .int .i64 b] w fun e w' => e = .returned (.bool (decide (a ≤ n) && decide (n ≤ b))) ∧ w = w' := by
  by_cases h1 : a ≤ n
  · by_cases h2 : n ≤ b
    all_goals
      go_enter Tryd.func13, Tryd.ntmps13
      go_wp2_with fail
      go_ret
      exact ⟨ret_b (by simp [h1, h2]), rfl⟩
  · have H1 := Lib.hid h1
    go_enter Tryd.func13, Tryd.ntmps13
    go_wp2_with fail
    go_ret
    exact ⟨ret_b (by rw [decide_eq_false (p := a ≤ n) (by have := H1.out; omega), Bool.false_and]), rfl⟩
/-- An operation's number. -/
def isOpB (n : Int) : Bool := decide (1 ≤ n) && decide (n ≤ 46)
theorem isOpB_yes {n : Int} (h : isOpB n = true) : ∃ j : Nat, n = (j : Int) ∧ 1 ≤ j ∧ j < 47 := by
  simp [isOpB] at h
  exact ⟨n.toNat, by omega, by omega, by omega⟩
theorem isOp_any (n : Int) (w : World) : Calls Tryd.prog 8 #[.int .i64 n] w fun e w' => e = .returned (.bool (isOpB n)) ∧ w = w' := by
  have H := Lib.hid (isWithin_any n 1 46 w)
  go_enter Tryd.func8, Tryd.ntmps8
  go_wp2_with fail
  (with_reducible refine (H.out).mono ?_)
  rintro e w1 ⟨rfl, rfl⟩
  go_wp2_with fail
  go_ret
  exact ⟨rfl, rfl⟩
theorem isOp_yes (n : Int) (h : isOpB n = true) (w : World) : Calls Tryd.prog 8 #[.int .i64 n] w fun e w' => e = .returned (.bool true) ∧ w = w' := by
  have H := isOp_any n w
  rwa [h] at H
theorem op_no (n : Int) (w : World) (h : isOpB n = false) : Calls Tryd.prog 4 #[.int .i64 n] w fun e w' => e = .returned (.tuple #[.string ⟨#[]⟩, .int .i64 3]) ∧ w = w' := by
  have H := Lib.hid (isOp_any n w)
  rw [h] at H
  clear h
  go_enter Tryd.func4, Tryd.ntmps4
  go_wp2_with fail
  (with_reducible refine (H.out).mono ?_)
  rintro e w1 ⟨rfl, rfl⟩
  go_wp2_with fail
  exact bodyPost_ret (v := .tuple #[.string ⟨#[]⟩, .int .i64 3]) (by simp [results, Tryd.results4, go_sem]) rfl ⟨rfl, rfl⟩
theorem op_yes (j : Nat) (w : World) (h1 : 1 ≤ j) (h2 : j < 47) (hn : NM w) : Calls Tryd.prog 4 #[.int .i64 (j : Int)] w fun e w' => e = .returned (.tuple #[.string (nm j), .int .i64 0]) ∧ w = w' := by
  have H := Lib.hid (isOp_any (j : Int) w)
  rw [show isOpB (j : Int) = true by simp [isOpB]; omega] at H
  have c0 := hn j h2
  have e2 : ((j : Int) < 47) := by omega
  clear hn
  generalize nm j = s at c0
  go_enter Tryd.func4, Tryd.ntmps4
  go_wp2_with fail
  (with_reducible refine (H.out).mono ?_)
  rintro e w1 ⟨rfl, rfl⟩
  go_wp2_with fail
  exact bodyPost_ret (v := .tuple #[.string s, .int .i64 0]) (by simp [results, Tryd.results4, go_sem]) rfl ⟨rfl, rfl⟩
set_option maxRecDepth 20000 in
set_option maxHeartbeats 1000000 in
theorem opOf_any (k : Nat) (w : World) (h1 : 1 ≤ k) (h2 : k < 47) (hn : NM w) : Calls Tryd.prog 7 #[.string (nm k)] w fun e w' => e = .returned (.tuple #[.int .i64 (k : Int), .int .i64 0]) ∧ w = w' := by
  have HN := Lib.hid hn
  clear hn
  go_enter Tryd.func7, Tryd.ntmps7
  go_wp2_with fail
  go_loopw [4] (fun iv wr => ∃ j : Nat, iv = .int .i64 j ∧ 1 ≤ j ∧ j ≤ k ∧ w = wr) (fun iv _ => 47 - (intOf iv).toNat)
  case atStart => exact ⟨1, rfl, Nat.le_refl _, h1, rfl⟩
  case round =>
    obtain ⟨j, rfl, hj1, hj, rfl⟩ := hrel
    have c0 := HN.out j (by omega)
    have e1 : ((j : Int) ≤ 46) := by omega
    have e2 : ((j : Int) < 47) := by omega
    have e3 := nm_own j k hj1 (by omega) h1 h2
    by_cases he : j = k
    · subst he
      simp only [decide_true] at e3
      generalize nm j = s at c0 e3
      go_wp2_with fail
      exact bodyPost_ret (v := .tuple #[.int .i64 j, .int .i64 0]) (by simp [results, Tryd.results7, go_sem]) rfl ⟨rfl, rfl⟩
    · rw [decide_eq_false he] at e3
      generalize nm j = s at c0 e3
      go_wp2_with fail
      go_roundw
      case rel => exact ⟨j + 1, by go_num, by omega, by omega, by trivial⟩
      case measure =>
        simp [intOf]
        omega
/-- An instruction of an operation alone. -/
abbrev ics0 (n : Int) : Array Value := #[.int .i64 n, .int .i64 0, .int .i64 0, .int .i64 0, .int .i64 0, .complex .f64 0 0, .string ⟨#[]⟩, .int .i64 0, .int .i64 0, .slice none 0 0, .slice none 0 0]
set_option maxRecDepth 20000 in
set_option maxHeartbeats 1000000 in
theorem cost_no (n : Int) (w : World) (h : isOpB n = false) : Calls Tryd.prog 5 #[.agg (ics0 n)] w fun e w' => e = .returned (.tuple #[.int .i64 0, .int .i64 61]) ∧ Only [] w w' := by
  have H := Lib.hid (fun w => isOp_any n w)
  rw [h] at H
  clear h
  go_enter Tryd.func5, Tryd.ntmps5
  go_wp2_with fail
  (with_reducible refine (H.out _).mono ?_)
  rintro e w1 ⟨rfl, rfl⟩
  go_wp2_with fail
  exact bodyPost_ret (v := .tuple #[.int .i64 0, .int .i64 61]) (by simp [results, Tryd.results5, go_sem]) rfl ⟨rfl, (Only.refl [] w).alloc _⟩
set_option maxRecDepth 20000 in
set_option maxHeartbeats 8000000 in
theorem cost_yes (j : Nat) (w : World) (h1 : 1 ≤ j) (h2 : j < 47) : Calls Tryd.prog 5 #[.agg (ics0 (j : Int))] w fun e w' => e = .returned (.tuple #[.int .i64 (cst j), .int .i64 0]) ∧ Only [] w w' := by
  rcases j with _ | _ | _ | _ | _ | _ | _ | _ | _ | _ | _ | _ | _ | _ | _ | _ | _ | _ | _ | _ | _ | _ | _ | _ | _ | _ | _ | _ | _ | _ | _ | _ | _ | _ | _ | _ | _ | _ | _ | _ | _ | _ | _ | _ | _ | _ | _ | j
  · omega
  all_goals first
    | omega
    | (go_enter Tryd.func5, Tryd.ntmps5
       go_wp2_with fail
       (with_reducible refine (isOp_yes _ (by decide) _).mono ?_)
       rintro e w1 ⟨rfl, rfl⟩
       go_wp2_with fail
       exact bodyPost_ret (v := .tuple #[.int .i64 (cst _), .int .i64 0]) (by simp [results, Tryd.results5, go_sem]; rfl) rfl ⟨rfl, (Only.refl [] w).alloc _⟩)
end Go.Proofs.YtgpgcjdneikokaaDoor
