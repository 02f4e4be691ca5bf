/- A script that came in, opened: each op's three cells, its list. -/
import Derived.Test.YteebkgclopffbaaLawPlays
import Derived.Test.YteebkgclopffbaaShell
import Derived.SizedLaws
import Derived.Deep.Slices
import Derived.Deep.Strs
namespace Go.Proofs.Yteebkgclopffbaa
open Go.ChangeShapes Go.WideShapes Go.ChangeAt Go.RowKit

theorem mem_weightsAll {H : Type} {P : Program} {e : TypeId} {n : Nat} : ∀ {l : List (DataW H)} {d : DataW H}, d ∈ l → n ∈ d.weights P e → n ∈ DataW.weightsAll P e l
  | [], _, h, _ => by cases h
  | d0 :: r, d, h, hn => by
    simp only [DataW.weightsAll, List.mem_append]
    rcases List.mem_cons.1 h with rfl | h
    · exact .inl hn
    · exact .inr (mem_weightsAll h hn)

theorem under_ops : Try.prog.underlying 22 = some (.slice 36) := by kernel_rfl
theorem cells_op : Try.prog.cellsOf 36 = 3 := by kernel_rfl
theorem cells_int : Try.prog.cellsOf 3 = 1 := by kernel_rfl
theorem cells_ints : Try.prog.cellsOf 27 = 1 := by kernel_rfl
theorem bytes_int : Try.prog.bytesOf 3 = 8 := by kernel_rfl

section
variable {H : Type} {enc : TypeId × Value → H} {W : World} {base : Nat} {sp : Nat → Bool} {hd : Bool}
theorem ints_sized {fuel : Nat} {a : Option Addr} {len cap : Nat} {y : DataW H × List MemPlace} (h : DataW.trod enc Try.prog W base sp hd fuel 27 [.slice a len cap] = some y)
    (hw : ∀ n ∈ y.1.weights Try.prog 27, n ≤ reachBytes) : len + 20 ≤ 17592186044416 := by
  rcases open_ints Try.underlying27 Try.underlying3 cells_int h with ⟨hcs, _⟩ | ⟨x, l, c, zs, hcs, _, hl, hm, hz, hy, hcell, hwz⟩
  · simp only [List.cons.injEq, Value.slice.injEq, and_true] at hcs
    omega
  · simp only [List.cons.injEq, Value.slice.injEq, and_true] at hcs
    obtain ⟨rfl, rfl, rfl⟩ := hcs
    subst hy
    have hlz : len ≤ zs.length := by
      rw [hz]
      split <;> omega
    have := hw (((lits (H := H) .i64 (zs.take len)).length + (lits (H := H) .i64 (zs.drop len)).length) * Try.prog.bytesOf 3) (by simp only [DataW.weights, Try.underlying27, List.mem_cons, true_or])
    rw [bytes_int] at this
    have e1 : (lits (H := H) .i64 (zs.take len)).length + (lits (H := H) .i64 (zs.drop len)).length = zs.length := by
      simp [lits]
      omega
    rw [e1] at this
    simp only [reachBytes] at this
    omega

theorem open_script {a : Option Addr} {len cap : Nat} {d : DataW H} {p : List MemPlace} (h : DataW.Trod enc Try.prog W base sp hd 22 (.slice a len cap) d p)
    (hw : ∀ n ∈ d.weights Try.prog 22, n ≤ reachBytes) : RdOps W a len ∧ len ≤ 9223372036854775807 := by
  obtain ⟨fuel, hf⟩ := h
  have hcv : (Value.slice a len cap).cells.toList = [.slice a len cap] := by simp [Value.cells]
  rw [hcv] at hf
  rcases Go.Deep.open_slice under_ops hf with ⟨hcs, _⟩ | ⟨x, l, c, m, n, D, Pl, hcs, hb, hl, hm, hmm, hx, hel⟩
  · simp only [List.cons.injEq, Value.slice.injEq, and_true] at hcs
    obtain ⟨_, rfl, _⟩ := hcs
    exact ⟨.inl rfl, by omega⟩
  · simp only [List.cons.injEq, Value.slice.injEq, and_true] at hcs
    obtain ⟨rfl, rfl, rfl⟩ := hcs
    have hlm : len ≤ m := by
      rw [hmm]
      split <;> omega
    unfold maxLen at hm
    refine ⟨?_, by omega⟩
    by_cases h0 : len = 0
    · exact .inl h0
    right
    have hd : d = .slice ((List.range len).map D) ((List.range (m - len)).map fun j => D (len + j)) := congrArg Prod.fst hx
    subst hd
    have each : ∀ i, i < len → ∃ kind n Al l capl, W.cell? (x.add (i * 3)) = some (.int .i64 kind) ∧ W.cell? ((x.add (i * 3)).add 1) = some (.int .i64 n) ∧ W.cell? ((x.add (i * 3)).add 2) = some (.slice Al l.length capl) ∧ Rd W Al l ∧ l.length + 20 ≤ 17592186044416 := by
      intro i hi
      obtain ⟨cs', hc, ht⟩ := hel i (by omega)
      rw [cells_op] at hc
      obtain ⟨_, hcl, hat⟩ := World.cells?_some hc
      obtain ⟨y0, y1, y2, n', hy, _, t0, t1, t2⟩ := Go.Deep.trod_struct3 Try.underlying36 ht
      rw [cells_int] at t0 t1
      rw [cells_ints] at t2
      match cs', hcl with
      | [u0, u1, u2], _ =>
        obtain ⟨k, e0, _⟩ := DataW.trod_int Try.underlying3 t0
        obtain ⟨k1, e1, _⟩ := DataW.trod_int Try.underlying3 t1
        have t2' : DataW.trod enc Try.prog W base sp hd n' 27 [u2] = some y2 := t2
        have hk0 : u0 = .int .i64 k := by simpa using e0
        have hk1 : u1 = .int .i64 k1 := by simpa using e1
        subst hk0
        subst hk1
        obtain ⟨Al, ln, capl, rfl⟩ : ∃ Al ln capl, u2 = .slice Al ln capl := by
          rcases open_ints Try.underlying27 Try.underlying3 cells_int t2' with ⟨hcs, _⟩ | ⟨x, l, c, zs, hcs, _⟩
          · exact ⟨_, _, _, (List.cons.inj hcs).1⟩
          · exact ⟨_, _, _, (List.cons.inj hcs).1⟩
        have hwy : ∀ n ∈ y2.1.weights Try.prog 27, n ≤ reachBytes := by
          intro n hn
          refine hw n ?_
          have hmem : D i ∈ (List.range len).map D := List.mem_map.2 ⟨i, List.mem_range.2 hi, rfl⟩
          have hDi : D i = .agg [y0.1, y1.1, y2.1] := congrArg Prod.fst hy
          have hin : n ∈ (D i).weights Try.prog 36 := by
            rw [hDi]
            simp only [DataW.weights, Try.underlying36, DataW.weightsEach, List.map_cons, List.map_nil, List.mem_append]
            exact .inr (.inr (.inl hn))
          simp only [DataW.weights, under_ops, List.mem_cons, List.mem_append]
          exact .inr (.inl (mem_weightsAll hmem hin))
        have hsz := ints_sized t2' hwy
        obtain ⟨l, hR, hll, _⟩ := open_rd (enc := enc) (base := base) (sp := sp) (hd := hd) (d := y2.1) (p := y2.2) ⟨n', by simpa [Value.cells] using t2'⟩
        refine ⟨k, k1, Al, l, capl, ?_, ?_, ?_, hR, by omega⟩
        · have := hat 0 (by omega)
          simpa [Addr.add] using this
        · exact hat 1 (by omega)
        · rw [hll]
          exact hat 2 (by omega)
    obtain ⟨bl, off, rfl⟩ : ∃ bl off, x = ⟨bl, off, none⟩ := by
      obtain ⟨bl, off, spot⟩ := x
      obtain ⟨k, _, _, _, _, h1, _⟩ := each 0 (by omega)
      have hspot : spot = none := by simpa [Addr.add] using World.cell?_spot h1
      exact ⟨bl, off, by rw [hspot]⟩
    refine ⟨bl, off, rfl, ?_, fun i hi => ?_⟩
    · obtain ⟨k, _, _, _, _, h1, _⟩ := each 0 (by omega)
      exact World.block_lt_of_cell? W ⟨bl, off, none⟩ (by simpa [Addr.add] using h1)
    · obtain ⟨k, n, Al, l, capl, h1, h2, h3, h4, h5⟩ := each i hi
      rw [Go.WideShapes.add_plain] at h1 h2 h3
      rw [Go.WideShapes.add_plain] at h2 h3
      exact ⟨k, n, Al, l, capl, h1, h2, h3, h4, h5⟩
end

end Go.Proofs.Yteebkgclopffbaa
