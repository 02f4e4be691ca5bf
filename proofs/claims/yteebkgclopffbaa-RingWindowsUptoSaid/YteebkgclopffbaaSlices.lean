/- Cuts of slices of ints that are read; more of a ring of the call's own. -/
import Derived.Test.YteebkgclopffbaaOwn
namespace Go.Proofs.Yteebkgclopffbaa
open Go.RowKit

theorem int_size : (sizeOf 3).run Try.prog = fun w => .ok 1 w := by funext w; kernel_rfl
theorem slice_from (A : Option Addr) (l : List Int) (cap k : Nat) (x : Int) (hx : x = (k : Int)) (hk : k ≤ l.length) (hc : l.length ≤ cap) :
    ∃ A', (∀ W, (Instr.slice 27 (.slice A l.length cap) (some (.int .i64 x)) none none).run Try.prog W = .ok (.slice A' (l.length - k) (cap - k)) W) ∧ ∀ W, Rd W A l → Rd W A' (l.drop k) := by
  subst hx
  refine ⟨if cap = k then A else A.map (·.add (k * 1)), fun W => ?_, fun W h => ?_⟩
  · have := run_slice_l (P := Try.prog) (w := W) 27 A l.length cap Try.underlying27 .i64 (k : Int) (by omega) (by omega)
    rw [this, show Try.prog.elem 27 = 3 from by kernel_rfl, int_size]
    simp [Result.andThen, sliced]
  · by_cases hkl : k = l.length
    · rw [hkl, List.drop_length]
      exact Rd.nil _ _
    · rcases h with rfl | ⟨bl, off, rfl, hb, hcell⟩
      · simp at hk
        simp [hk] at hkl
      · rw [if_neg (by omega)]
        refine .inr ⟨bl, off + k, ?_, hb, fun j v hj => ?_⟩
        · simp [Addr.add]
        · rw [List.getElem?_drop] at hj
          have := hcell _ _ hj
          rw [show off + k + j = off + (k + j) from by omega]
          exact this
theorem slice_to (A : Option Addr) (l : List Int) (cap k : Nat) (x : Int) (hx : x = (k : Int)) (hk : k ≤ l.length) (hc : l.length ≤ cap) :
    ∃ A', (∀ W, (Instr.slice 27 (.slice A l.length cap) none (some (.int .i64 x)) none).run Try.prog W = .ok (.slice A' k cap) W) ∧ ∀ W, Rd W A l → Rd W A' (l.take k) := by
  subst hx
  refine ⟨if cap = 0 then A else A.map (·.add (0 * 1)), fun W => ?_, fun W h => ?_⟩
  · have := run_slice_h (P := Try.prog) (w := W) 27 A l.length cap Try.underlying27 .i64 (k : Int) (by omega) (by omega)
    rw [this, show Try.prog.elem 27 = 3 from by kernel_rfl, int_size]
    simp [Result.andThen, sliced]
  · rcases h with rfl | ⟨bl, off, rfl, hb, hcell⟩
    · rw [List.take_nil]
      exact Rd.nil _ _
    · refine .inr ⟨bl, off, ?_, hb, fun j v hj => ?_⟩
      · simp [Addr.add]
      · rw [List.getElem?_take] at hj
        by_cases h2 : j < k
        · rw [if_pos h2] at hj
          exact hcell _ _ hj
        · rw [if_neg h2] at hj
          cases hj

/-- A ring of the call's own, and a row G of its own beside it. -/
def OwnC (w0 w : World) (b room : Nat) (xs : List Int) (G : Nat) (ys : List Int) : Prop :=
  ∃ A, Ring w b A room xs ∧ w0.heap.size ≤ b ∧ (∀ g, A = some g → w0.heap.size ≤ g) ∧ Only [] w0 w ∧ Bk w G 3 (ics ys) ∧ G ≠ b ∧ A ≠ some G
section
variable {w0 w w' : World} {b room G : Nat} {xs ys : List Int}
theorem OwnC.own (h : OwnC w0 w b room xs G ys) : OwnR w0 w b room xs := by
  obtain ⟨A, r, h1, h2, o, _⟩ := h
  exact ⟨A, r, h1, h2, o⟩
theorem OwnC.row (h : OwnC w0 w b room xs G ys) : Bk w G 3 (ics ys) := by
  obtain ⟨A, r, h1, h2, o, hb, _⟩ := h
  exact hb
theorem OwnC.quiet (h : OwnC w0 w b room xs G ys) (o : Only [] w w') : OwnC w0 w' b room xs G ys := by
  obtain ⟨A, r, h1, h2, o2, hb, h3, h4⟩ := h
  exact ⟨A, r.only o (by simp) (by simp), h1, h2, o2.trans o (by simp), hb.only o (by simp), h3, h4⟩
theorem OwnC.drewN (h : OwnC w0 w b room xs G ys) (k : Nat) : OwnC w0 (w.drewN k) b room xs G ys := h.quiet ((Only.refl _ _).drewN k)
end

theorem own_join {w0 w : World} {b room : Nat} {xs : List Int} (h : OwnR w0 w b room xs) (Al : Option Addr) (l : List Int) (cap : Nat) (hl : Rd w0 Al l) (hn : xs.length + l.length ≤ room) :
    Calls Try.prog 22 #[.pointer (some ⟨b, 0, none⟩), .slice Al l.length cap] w fun e w' => e = .returned (.int .i64 0) ∧ OwnR w0 w' b room (xs ++ l) := by
  have h' := h
  obtain ⟨A, r, h1, h2, o⟩ := h'
  refine (join_yes r Al l cap (hl.only o (by simp)) (fun h0 bl' off' e' hmem => ?_) hn).mono fun _ _ ⟨he, p⟩ => ⟨he, h.pushed r h1 h2 p⟩
  rcases hl with hl | ⟨bl, off, e, hb, hc⟩
  · exact h0 hl
  · rw [e] at e'
    injection e' with e'
    injection e' with e'
    subst e'
    simp only [List.mem_cons, Option.mem_toList] at hmem
    rcases hmem with rfl | hmem
    · omega
    · have := h2 bl (by simpa using hmem)
      omega
theorem own_join_no {w0 w : World} {b room : Nat} {xs : List Int} (h : OwnR w0 w b room xs) (Al : Option Addr) (m cap : Nat) (hm : m ≤ 9223372036854775807) (hn : room < xs.length + m) :
    Calls Try.prog 22 #[.pointer (some ⟨b, 0, none⟩), .slice Al m cap] w fun e w' => e = .returned (.int .i64 2) ∧ OwnR w0 w' b room xs := by
  have h' := h
  obtain ⟨A, r, h1, h2, o⟩ := h'
  exact (join_no r Al m cap hm hn).mono fun _ _ ⟨he, k, hw⟩ => ⟨he, by rw [hw]; exact h.drewN k⟩
theorem own_cut {w0 w : World} {b room : Nat} {xs : List Int} (h : OwnR w0 w b room xs) (n : Nat) (hn : n ≤ xs.length) :
    Calls Try.prog 23 #[.pointer (some ⟨b, 0, none⟩), .int .i64 n] w fun e w' => e = .returned (.tuple #[.slice (some ⟨w.heap.size, 0, none⟩) n n, .int .i64 0]) ∧
      OwnC w0 w' b room (xs.take (xs.length - n)) w.heap.size (xs.drop (xs.length - n)) := by
  have h' := h
  obtain ⟨A, r, h1, h2, o⟩ := h'
  have hbl := r.lt
  have hAl := r.ltA
  refine (cut_yes r n hn).mono fun _ _ ⟨he, hb, r', o'⟩ => ⟨he, ?_⟩
  obtain ⟨A', r2, h3, h4, o2⟩ := h.turned h1 h2 r' o'
  exact ⟨A, r', h1, h2, o2, hb, by omega, fun e => by have := hAl _ e; omega⟩
theorem own_cut_neg {w0 w : World} {b room : Nat} {xs : List Int} (h : OwnR w0 w b room xs) (n : Int) (hn : n < 0) :
    Calls Try.prog 23 #[.pointer (some ⟨b, 0, none⟩), .int .i64 n] w fun e w' => e = .returned (.tuple #[.slice none 0 0, .int .i64 1]) ∧ w = w' := by
  obtain ⟨A, r, h1, h2, o⟩ := h
  exact cut_neg r n hn
theorem own_cut_none {w0 w : World} {b room : Nat} {xs : List Int} (h : OwnR w0 w b room xs) (n : Int) (hn : (xs.length : Int) < n) :
    Calls Try.prog 23 #[.pointer (some ⟨b, 0, none⟩), .int .i64 n] w fun e w' => e = .returned (.tuple #[.slice none 0 0, .int .i64 3]) ∧ w = w' := by
  obtain ⟨A, r, h1, h2, o⟩ := h
  exact cut_none r n hn
theorem own_itemsC {w0 w : World} {b room G : Nat} {xs ys : List Int} (h : OwnC w0 w b room xs G ys) :
    Calls Try.prog 24 #[.pointer (some ⟨b, 0, none⟩)] w fun e w' => e = .returned (.slice (some ⟨w.heap.size, 0, none⟩) xs.length xs.length) ∧ Bk w' w.heap.size 3 (ics xs) ∧ OwnC w0 w' b room xs G ys := by
  have h' := h
  obtain ⟨A, r, h1, h2, o, _⟩ := h'
  exact (items_yes r).mono fun _ _ ⟨he, hb, o'⟩ => ⟨he, hb, h.quiet o'⟩
theorem own_rejoin {w0 w : World} {b room G : Nat} {xs ys : List Int} (h : OwnC w0 w b room xs G ys) (cap : Nat) (hn : xs.length + ys.length ≤ room) :
    Calls Try.prog 22 #[.pointer (some ⟨b, 0, none⟩), .slice (some ⟨G, 0, none⟩) ys.length cap] w fun e w' => e = .returned (.int .i64 0) ∧ OwnR w0 w' b room (xs ++ ys) := by
  have h' := h
  obtain ⟨A, r, h1, h2, o, hb, h3, h4⟩ := h'
  exact (join_yes r _ ys cap (Rd.of_bk hb) (fun _ bl' off' e' hmem => by
    injection e' with e'
    injection e' with e'
    subst e'
    simp only [List.mem_cons, Option.mem_toList] at hmem
    rcases hmem with rfl | hmem
    · exact h3 rfl
    · exact h4 (by simpa using hmem)) hn).mono fun _ _ ⟨he, p⟩ => ⟨he, h.own.pushed r h1 h2 p⟩

end Go.Proofs.Yteebkgclopffbaa
