/- The program's accounts: 48 counts as cells, and those cut to 0 and 64. -/
import Derived.Test.YtcchahgfjnphgaaM5
import Derived.Test.YtcchahgfjnphgaaRw
import Derived.Deep.MidRow
import Derived.Lib.MinMax
namespace Go.Proofs.Ytcchahgfjnphgaa
open Go.RowKit
set_option maxRecDepth 20000

/-- The 48 counts as cells. -/
def cL (u : Nat → Int) : List Value := (List.range 48).map fun i => .int .i64 (u i)
abbrev cA (u : Nat → Int) : Array Value := (cL u).toArray
theorem cL_len (u : Nat → Int) : (cL u).length = 48 := by simp [cL]
theorem cA_size (u : Nat → Int) : (cA u).size = 48 := by simp [cL]
theorem cL_at (u : Nat → Int) {i : Nat} (h : i < 48) : (cL u)[i]? = some (.int .i64 (u i)) := by
  simp [cL, List.getElem?_range h]
theorem cA_at (u : Nat → Int) {i : Nat} (h : i < 48) : (cA u)[i]? = some (.int .i64 (u i)) := by
  simp [cL, List.getElem?_range h]
def updU (u : Nat → Int) (i : Nat) (v : Int) : Nat → Int := fun j => if j = i then v else u j
theorem cA_set (u : Nat → Int) (i : Nat) (v : Int) : (cA u).setIfInBounds i (.int .i64 v) = cA (updU u i v) := by
  apply Array.ext
  · simp [cL]
  · intro j h1 h2
    simp only [cA_size] at h2
    rw [Array.getElem_setIfInBounds (by simpa [cL_len] using h2)]
    simp only [cA, cL, List.getElem_toArray, List.getElem_map, List.getElem_range, updU]
    by_cases e : i = j
    · subst e; simp
    · simp [e, Ne.symm e]
def clipI (x : Int) : Int := min (max x 0) 64
def mixU (u : Nat → Int) (k : Nat) : Nat → Int := fun i => if i < k then clipI (u i) else u i
theorem cA_zero : cA (fun _ => 0) = #[.int .i64 0, .int .i64 0, .int .i64 0, .int .i64 0, .int .i64 0, .int .i64 0, .int .i64 0, .int .i64 0, .int .i64 0, .int .i64 0, .int .i64 0, .int .i64 0, .int .i64 0, .int .i64 0, .int .i64 0, .int .i64 0, .int .i64 0, .int .i64 0, .int .i64 0, .int .i64 0, .int .i64 0, .int .i64 0, .int .i64 0, .int .i64 0, .int .i64 0, .int .i64 0, .int .i64 0, .int .i64 0, .int .i64 0, .int .i64 0, .int .i64 0, .int .i64 0, .int .i64 0, .int .i64 0, .int .i64 0, .int .i64 0, .int .i64 0, .int .i64 0, .int .i64 0, .int .i64 0, .int .i64 0, .int .i64 0, .int .i64 0, .int .i64 0, .int .i64 0, .int .i64 0, .int .i64 0, .int .i64 0] := by
  kernel_rfl
theorem cA_one (u : Nat → Int) : (cA u).all (·.oneCell') = true := by
  rw [Array.all_eq_true_iff_forall_mem]
  intro v hv
  simp only [cA, cL, List.mem_toArray, List.mem_map] at hv
  obtain ⟨_, _, rfl⟩ := hv
  rfl
theorem cA_congr {u v : Nat → Int} (h : ∀ i, i < 48 → u i = v i) : cA u = cA v := by
  unfold cA cL
  congr 1
  exact List.map_congr_left (fun i hi => by rw [h i (List.mem_range.1 hi)])
theorem mixU_all (u : Nat → Int) : cA (mixU u (16 * 3)) = cA (fun i => clipI (u i)) := cA_congr (fun _ hi => if_pos hi)
theorem isz : (Try.prog.info? 45).map (·.size) = some 48 := by kernel_rfl
set_option maxHeartbeats 4000000 in
theorem clipped_any (u : Nat → Int) (w : World) :
    Calls Try.prog 25 #[.agg (cA u)] w fun e w' => e = .returned (.agg (cA (fun i => clipI (u i)))) ∧ Only [] w w' := by
  go_enter Try.func25, Try.ntmps25
  go_upto_region 2 with fail
  have b0 := (Bk.made w 45 (cA u)).alloc (.cells (cA fun _ => 0) 45)
  have b1 := Bk.newAt (w := w.alloc (.cells (cA u) 45)) (t := 45) (cs := cA fun _ => 0) (b := w.heap.size + 1) (by simp)
  have o0 := ((Only.refl [] w).alloc (.cells (cA u) 45)).alloc (.cells (cA fun _ => 0) 45)
  simp only [← cA_zero]
  generalize (w.alloc (.cells (cA u) 45)).alloc (.cells (cA fun _ => 0) 45) = W at *
  have B0 := Lib.hid b0
  have B1 := Lib.hid b1
  have O := Lib.hid o0
  clear b0 b1 o0
  go_loopw [5] (fun iv wr => ∃ k : Nat, iv = .int .i64 k ∧ k ≤ 16 ∧ Bk wr w.heap.size 45 (cA (mixU u (k * 3))) ∧ Only [w.heap.size] W wr) (fun iv _ => 16 - (intOf iv).toNat)
  case atStart => exact ⟨0, rfl, by omega, B0.out, Only.refl _ _⟩
  case round =>
    clear B0
    obtain ⟨k, rfl, hk, b, o⟩ := hrel
    have OO := Lib.hid o
    have BB := Lib.hid b
    clear b o
    by_cases hlt : k < 16
    · go_upto_region 5 with fail
      go_loopw [8] (fun iv wr => ∃ m : Nat, iv = .int .i64 m ∧ m ≤ 3 ∧ Bk wr w.heap.size 45 (cA (mixU u (k * 3 + m))) ∧ Only [w.heap.size] W wr) (fun iv _ => 3 - (intOf iv).toNat)
      case atStart => exact ⟨0, rfl, by omega, BB.out, OO.out⟩
      case round =>
        clear BB OO
        obtain ⟨m, rfl, hm, b, o⟩ := hrel
        by_cases hlt : m < 3
        · have c0 := b.cell0 (cA_at _ (show k * 3 + m < 48 by omega))
          have f0 := b.free (k * 3 + m)
          have BB := Lib.hid b
          have OO := Lib.hid o
          clear b o
          have nx : Bk (wr.setCell ⟨w.heap.size, k * 3 + m, none⟩ (.int .i64 (min (max (mixU u (k * 3 + m) (k * 3 + m)) 0) 64))).drew w.heap.size 45 (cA (mixU u (k * 3 + (m + 1)))) := by
            have h := (BB.out.set (k * 3 + m) (.int .i64 (min (max (mixU u (k * 3 + m) (k * 3 + m)) 0) 64))).drew
            rw [cA_set] at h
            rw [show cA (mixU u (k * 3 + (m + 1))) = cA (updU (mixU u (k * 3 + m)) (k * 3 + m) (min (max (mixU u (k * 3 + m) (k * 3 + m)) 0) 64)) from cA_congr (fun i _ => by
              have e : mixU u (k * 3 + m) (k * 3 + m) = u (k * 3 + m) := if_neg (by omega)
              rw [e]
              unfold updU mixU clipI
              by_cases h1 : i = k * 3 + m
              · subst h1
                rw [if_pos (by omega), if_pos rfl]
              · rw [if_neg h1]
                by_cases h2 : i < k * 3 + m
                · rw [if_pos (by omega), if_pos h2]
                · rw [if_neg (by omega), if_neg h2])]
            exact h
          have ox : Only [w.heap.size] W (wr.setCell ⟨w.heap.size, k * 3 + m, none⟩ (.int .i64 (min (max (mixU u (k * 3 + m) (k * 3 + m)) 0) 64))).drew := (OO.out.set (p := ⟨w.heap.size, k * 3 + m, none⟩) (.inl (by simp)) _).drew
          have NX := Lib.hid nx
          have OX := Lib.hid ox
          clear nx ox BB
          go_wp2_with fail
          go_region
          clear c0 f0
          generalize World.drew _ = w5 at *
          go_wp2_with fail
          go_roundw
          case rel => exact ⟨m + 1, by go_num, by omega, NX.out, OX.out⟩
          case measure => simp [intOf]; omega
        · have e : m = 3 := by omega
          subst e
          have BB := Lib.hid b
          have OO := Lib.hid o
          clear b o
          go_wp2_with fail
          go_roundw
          case rel => exact ⟨k + 1, by go_num, by omega, by rw [show (k + 1) * 3 = k * 3 + 3 by omega]; exact BB.out, OO.out⟩
          case measure => simp [intOf]; omega
    · have e : k = 16 := by omega
      subst e
      have fin : ∀ W7, wr.setRow (w.heap.size + 1) (cA (mixU u (16 * 3))) = W7 → Bk W7 (w.heap.size + 1) 45 (cA (mixU u (16 * 3))) ∧ Only [] w W7 := fun W7 hW => by
        obtain ⟨b, o⟩ := row_set (B1.out.only OO.out (by simp)) hW
        exact ⟨b, (O.out.trans OO.out (fun i hi => .inr (by simp at hi; omega))).trans o (fun i hi => .inr (by simp at hi; omega))⟩
      have FIN := Lib.hid fin
      have B1' := Lib.hid (B1.out.only OO.out (by simp))
      clear fin
      go_wp2_with (first
        | (refine wpList_load_row (by rfl) 45 _ (by rfl) w.heap.size (by rfl) 45 (cA (mixU u (16 * 3))) (0, 0) _ BB.out Try.underlying45 (by rfl) isz ?_)
        | (refine wpList_store_row (by rfl) _ _ _ (by rfl) (w.heap.size + 1) (cA (mixU u (16 * 3))) (by rfl) (by rfl) 45 _ B1'.out isz (by rfl) (cA_one _) ?_; generalize hW : World.setRow _ _ _ = W7; obtain ⟨b7, o7⟩ := FIN.out _ hW; clear hW))
      exact res1 Try.results25 b7 (by rfl) (by rfl) Try.underlying45 isz rfl ⟨by rw [mixU_all], o7⟩
end Go.Proofs.Ytcchahgfjnphgaa
