/- A strings.Builder of the call's own: copyCheck, WriteString. -/
import Derived.Test.YtlpafnibcmcjgaaGreatDoorMb
namespace Go.Proofs.YtlpafnibcmcjgaaGreatDoor
open Go.RowKit

abbrev TB : TypeId := 93
abbrev TU : TypeId := 5
theorem nfo_builder : (Tryz.prog.info? TB).map (·.size) = some 2 := by kernel_rfl
theorem nfo_byte : (Tryz.prog.info? TU).map (fun i => (i.zero, i.size, i.bytes)) = some (some (.int .u8 0), 1, 1) := by kernel_rfl
theorem lies_builder : liesAt Tryz.prog Tryz.prog.depth TB (2 / Tryz.prog.cellsOf TB) 0 TB 1 = true := by kernel_rfl
set_option maxRecDepth 100000 in
set_option maxHeartbeats 1000000 in
theorem cc_used (b : Nat) (w : World) (h0 : w.cell? ⟨b, 0, none⟩ = some (.pointer (some ⟨b, 0, none⟩))) :
    Calls Tryz.prog 100 #[.pointer (some ⟨b, 0, none⟩)] w fun e w' => e = .returned (.tuple #[]) ∧ w' = w := by
  obtain ⟨j, hj, _⟩ := Option.map_eq_some_iff.1 nfo_builder
  have hne := Lib.run_neq_ptr_same (P := Tryz.prog) w ⟨b, 0, none⟩ Tryz.underlying90 hj
  go_enter Tryz.func100, Tryz.ntmps100
  go_wp2_with fail
  exact bodyPost_end (v := .tuple #[]) (by simp [results, Tryz.results100, go_sem]) rfl ⟨rfl, rfl⟩
set_option maxRecDepth 100000 in
set_option maxHeartbeats 1000000 in
theorem cc_fresh (b : Nat) (w : World) (h0 : w.cell? ⟨b, 0, none⟩ = some (.pointer none)) (hsh : w.shape? b = some (TB, 2)) (hfz : w.frozen? ⟨b, 0, none⟩ = false) :
    Calls Tryz.prog 100 #[.pointer (some ⟨b, 0, none⟩)] w fun e w' => e = .returned (.tuple #[]) ∧ w' = w.setCell ⟨b, 0, none⟩ (.pointer (some ⟨b, 0, none⟩)) := by
  obtain ⟨j, hj, hjs⟩ := Option.map_eq_some_iff.1 nfo_builder
  go_enter Tryz.func100, Tryz.ntmps100
  go_wp2
  rw [Lib.run_to_unsafe w ⟨b, 0, none⟩ Tryz.underlying90 Tryz.underlying163 hj (by rw [hjs]; decide) hsh (Nat.zero_lt_succ 1)]
  simp only [Result.andThen]
  rw [Oper.upon_value]
  go_wp2
  rw [run_callFunc_extern Tryz.func131 (by kernel_rfl) (by kernel_rfl) (by kernel_rfl) (e := Extern.AbiNoEscape.same) (by kernel_rfl)]
  rw [Lib.run_noEscape]
  simp only [Result.andThen]
  rw [Oper.upon_value]
  go_wp2
  rw [Lib.run_from_unsafe w ⟨b, 0, none⟩ Tryz.underlying163 Tryz.underlying90 hj hsh lies_builder]
  simp only [Result.andThen]
  rw [Oper.upon_value]
  go_wp2
  exact bodyPost_end (v := .tuple #[]) (by simp [results, Tryz.results100, go_sem]) rfl ⟨rfl, rfl⟩
theorem copy_check (B b : Nat) (bs : List Value) (w : World) (h : Lib.IsBuilder TB TU B b bs w) :
    Calls Tryz.prog 100 #[.pointer (some ⟨b, 0, none⟩)] w fun e w' => e = .returned (.tuple #[]) ∧ (Lib.BuilderAt TB TU B b (.pointer (some ⟨b, 0, none⟩)) bs w' ∧ Below B w w') ∧ (w' = w ∨ w' = w.setCell ⟨b, 0, none⟩ (.pointer (some ⟨b, 0, none⟩))) := by
  rcases h with h | h
  · refine (cc_fresh b w h.cell0 h.shape h.frozen0).mono ?_
    rintro e w' ⟨rfl, rfl⟩
    exact ⟨rfl, ⟨h.used _, (Below.refl B w).setCell (p := ⟨b, 0, none⟩) h.1 _⟩, .inr rfl⟩
  · refine (cc_used b w h.cell0).mono ?_
    rintro e w' ⟨rfl, rfl⟩
    exact ⟨rfl, ⟨h, Below.refl B _⟩, .inl rfl⟩
/-- The blocks from U on lie as they did: the builder's lie below. -/
def Far (U b : Nat) (w w' : World) : Prop := b < U → (∀ p v, w.heap[b]? = some (.cells #[p, v] TB (0, 0)) → ∀ g, v.ownBlock = some g → g < U) → ∀ k, U ≤ k → k < w.heap.size → w'.heap[k]? = w.heap[k]?
set_option maxRecDepth 100000 in
set_option maxHeartbeats 2000000 in
theorem write_string (B b : Nat) (bs : List Value) (s : ByteArray) (w : World) (h : Lib.IsBuilder TB TU B b bs w) (hlen : bs.length + s.size ≤ 140737488355328) (hBw : B ≤ w.heap.size) :
    Calls Tryz.prog 72 #[.pointer (some ⟨b, 0, none⟩), .string s] w fun e w' => e = .returned (.tuple #[.int .i64 s.size, .nilIface]) ∧ (Lib.IsBuilder TB TU B b (bs ++ Lib.strCells s) w' ∧ Below B w w') ∧ ∀ U, Far U b w w' := by
  obtain ⟨i0, hi, hz0, hz1, hz2⟩ := info_parts nfo_byte
  go_enter Tryz.func72, Tryz.ntmps72
  go_wp2_with fail
  (with_reducible refine (copy_check B b bs _ h).mono ?_)
  rintro e w1 ⟨rfl, ⟨h1, hb1⟩, hcc⟩
  obtain ⟨hB, v, hbk, hown, hne⟩ := h1
  have hvv : ∃ p, w.heap[b]? = some (.cells #[p, v] TB (0, 0)) := by
    rcases hcc with rfl | rfl
    · exact ⟨_, hbk⟩
    · rcases h with ⟨_, v', hb', _⟩ | ⟨_, v', hb', _⟩
      · have hs := Bk.set (t := TB) (cs := #[.pointer none, v']) hb' 0 (.pointer (some ⟨b, 0, none⟩))
        have hbk' : Bk (w.setCell ⟨b, 0, none⟩ (.pointer (some ⟨b, 0, none⟩))) b TB #[.pointer (some ⟨b, 0, none⟩), v] := hbk
        unfold Bk at hs hbk'
        rw [hs] at hbk'
        injection hbk' with h1
        injection h1 with h1
        have : v' = v := by simpa using h1
        exact ⟨_, by rw [← this]; exact hb'⟩
      · have hs := Bk.set (t := TB) (cs := #[.pointer (some ⟨b, 0, none⟩), v']) hb' 0 (.pointer (some ⟨b, 0, none⟩))
        have hbk' : Bk (w.setCell ⟨b, 0, none⟩ (.pointer (some ⟨b, 0, none⟩))) b TB #[.pointer (some ⟨b, 0, none⟩), v] := hbk
        unfold Bk at hs hbk'
        rw [hs] at hbk'
        injection hbk' with h1
        injection h1 with h1
        have : v' = v := by simpa using h1
        exact ⟨_, by rw [← this]; exact hb'⟩
  have hcc2 : ∀ k, k ≠ b → w1.heap[k]? = w.heap[k]? ∧ w1.heap.size = w.heap.size := by
    intro k hk
    rcases hcc with rfl | rfl
    · exact ⟨rfl, rfl⟩
    · have o := (Only.refl [b] w).set (p := ⟨b, 0, none⟩) (.inl (by simp)) (.pointer (some ⟨b, 0, none⟩))
      have hsz : (w.setCell ⟨b, 0, none⟩ (.pointer (some ⟨b, 0, none⟩))).heap.size = w.heap.size := by simp
      by_cases hlt : k < w.heap.size
      · exact ⟨o.block k hlt (by simpa using hk), hsz⟩
      · exact ⟨by rw [Array.getElem?_eq_none (by omega), Array.getElem?_eq_none (by omega)], hsz⟩
  have c0 : w1.cell? ⟨b, 0, none⟩ = some (.pointer (some ⟨b, 0, none⟩)) := by rw [Lib.cell_of_heap hbk]; rfl
  have c1 : w1.cell? ⟨b, 1, none⟩ = some v := by rw [Lib.cell_of_heap hbk]; rfl
  go_wp2_with (at_builtin; refine Lib.wpList_append_own_string _ rfl _ _ 91 9 rfl B TU i0 Tryz.underlying91 Tryz.underlying9 hi hz0 hz1 hz2 _ _ _ rfl hown s rfl ?c3 ?c4 ?c5 ?_)
  case c3 => unfold maxLen; omega
  case c4 => omega
  case c5 => have := hb1.size; omega
  intro v' w2 hown' hgrow _
  have hlt : b < w1.heap.size := by
    rcases Nat.lt_or_ge b w1.heap.size with h' | h'
    · exact h'
    · simp [Array.getElem?_eq_none h'] at hbk
  have hb2 : w2.heap[b]? = some (.cells #[.pointer (some ⟨b, 0, none⟩), v] TB (0, 0)) := by
    rw [hgrow.block b hlt (fun e => hne e.symm)]
    exact hbk
  have d0 : w2.cell? ⟨b, 0, none⟩ = some (.pointer (some ⟨b, 0, none⟩)) := by rw [Lib.cell_of_heap hb2]; rfl
  have d1 : w2.cell? ⟨b, 1, none⟩ = some v := by rw [Lib.cell_of_heap hb2]; rfl
  have f1 : w2.frozen? ⟨b, 1, none⟩ = false := Lib.frozen_of_heap hb2 1
  obtain ⟨ao, n', cap, rfl⟩ : ∃ ao n' cap, v' = .slice ao n' cap := by
    rcases hown'.2 with ⟨hv, _⟩ | ⟨g, cap, cur, hv, _⟩
    · exact ⟨_, _, _, hv⟩
    · exact ⟨_, _, _, hv⟩
  go_wp2_with fail
  go_ret2
  refine ⟨rfl, ⟨.inr ?_, ?_⟩, ?_⟩
  · exact Lib.BuilderAt.put (T := TB) (e := TU) hB hb2 (bs' := bs ++ Lib.strCells s) (by simpa [Lib.strCells_length] using hown') (by decide)
  · exact (hb1.grown hgrow (by have := hb1.size; omega) (fun k hk => (World.ownsRow.lt hown k hk).1)).setCell (p := ⟨b, 1, none⟩) hB _
  · intro U hbU hU k hk hlt'
    obtain ⟨p, hp⟩ := hvv
    have hkb : k ≠ b := by omega
    have hkr : some k ≠ v.ownBlock := fun e => by have := hU p v hp k e.symm; omega
    have h2 : k < w1.heap.size := by rw [(hcc2 k hkb).2]; exact hlt'
    have h3 : w2.heap[k]? = w1.heap[k]? := hgrow.block k h2 hkr
    have h4 := ((Only.refl [b] w2).set (p := ⟨b, 1, none⟩) (.inl (by simp)) (.slice ao n' cap)).block k (Nat.lt_of_lt_of_le h2 hgrow.size) (by simpa using hkb)
    rw [h4, h3, (hcc2 k hkb).1]
theorem builder_string (B b : Nat) (l : List UInt8) (w : World) (h : Lib.IsBuilder TB TU B b (Lib.byteCells l) w) (hBw : B ≤ w.heap.size) :
    Calls Tryz.prog 52 #[.pointer (some ⟨b, 0, none⟩)] w fun e w' => e = .returned (.string ⟨l.toArray⟩) ∧ Below B w w' := Tryz.Builder_String_any B b l w h hBw
end Go.Proofs.YtlpafnibcmcjgaaGreatDoor
