/- A map from texts to pids in memory, by what it answers: looked into, entered, struck out, cloned. Rows of things: one cell turned, made, read. -/
import Derived.Test.YtlidnlcmnkagaaaJ0
import Derived.MapKept
import Derived.Carry
namespace Go.Proofs.Ytlidnlcmnkagaaa
open Go.RowKit Go.MapKept
set_option maxRecDepth 20000

theorem by_eq (t : ByteArray) : (t == t) = true := (bytes_beq t t).2 rfl
theorem by_ne {t s : ByteArray} (h : ¬ t = s) : (t == s) = false := by
  cases he : t == s with
  | true => exact absurd ((bytes_beq t s).1 he) h
  | false => rfl
/-- Entries that answer as f does. -/
def MList : List MapEntry → (ByteArray → Option Pd) → Prop
  | [], f => ∀ s, f s = none
  | e :: r, f => ∃ s p, e.key = .string s ∧ e.val = .agg p.cs ∧ f s = some p ∧ MList r (fun t => if t = s then none else f t)
theorem MList.ext : ∀ {l : List MapEntry} {f g : ByteArray → Option Pd}, MList l f → (∀ s, f s = g s) → MList l g
  | [], _, _, h, e => fun s => (e s).symm.trans (h s)
  | _ :: _, _, _, ⟨s, p, h1, h2, h3, h4⟩, e => ⟨s, p, h1, h2, (e s).symm.trans h3, h4.ext fun t => by rw [e t]⟩
theorem MList.keys : ∀ {l : List MapEntry} {f : ByteArray → Option Pd}, MList l f → ∀ x ∈ l, IsKey .string x.key
  | [], _, _, _, h => by cases h
  | e :: r, _, ⟨s, p, h1, h2, h3, h4⟩, x, hx => by
    rcases List.mem_cons.1 hx with rfl | hx
    · rw [h1]; trivial
    · exact h4.keys x hx
theorem MList.find (t : ByteArray) : ∀ {l : List MapEntry} {f : ByteArray → Option Pd} (i : Nat), MList l f →
    (f t = none ∧ Instr.findNow .string (.string t) l i = some none) ∨ ∃ p j, f t = some p ∧ Instr.findNow .string (.string t) l i = some (some (i + j, .agg p.cs)) ∧ MList (l.eraseIdx j) (fun u => if u = t then none else f u)
  | [], f, i, h => .inl ⟨h t, rfl⟩
  | e :: r, f, i, ⟨s, p, h1, h2, h3, h4⟩ => by
    by_cases hs : t = s
    · subst hs
      refine .inr ⟨p, 0, h3, ?_, h4⟩
      simp [Instr.findNow, Instr.sameNow, h1, h2, by_eq]
    · have hn : Instr.sameNow .string (.string t) e.key = some false := by
        rw [h1]
        simp [Instr.sameNow, by_ne hs]
      rcases h4.find t (i + 1) with ⟨h5, h6⟩ | ⟨q, j, h5, h6, h7⟩
      · rw [if_neg hs] at h5
        exact .inl ⟨h5, by simp [Instr.findNow, hn, h6]⟩
      · rw [if_neg hs] at h5
        refine .inr ⟨q, j + 1, h5, by simp [Instr.findNow, hn, h6]; omega, ?_⟩
        rw [List.eraseIdx_cons_succ]
        refine ⟨s, p, h1, h2, (if_neg (fun e => hs e.symm)).trans h3, h7.ext fun u => ?_⟩
        by_cases hu : u = t <;> by_cases hv : u = s <;> simp [hu, hv]
theorem MList.push {s : ByteArray} {p : Pd} {e : MapEntry} (h1 : e.key = .string s) (h2 : e.val = .agg p.cs) : ∀ {l : List MapEntry} {f : ByteArray → Option Pd}, MList l f → f s = none → MList (l ++ [e]) (fun u => if u = s then some p else f u)
  | [], f, h, hs => ⟨s, p, h1, h2, by simp, fun u => by
      by_cases hu : u = s
      · simp [hu]
      · simp [hu, h u]⟩
  | x :: r, f, ⟨t, q, h3, h4, h5, h6⟩, hs => by
    have hne : t ≠ s := fun e => by rw [e, hs] at h5; cases h5
    refine ⟨t, q, h3, h4, by simp [hne, h5], (MList.push h1 h2 h6 (by simp [hs])).ext fun u => ?_⟩
    by_cases hu : u = s
    · subst hu
      simp [Ne.symm hne]
    · simp [hu]
/-- Block b is a map that answers as f does. -/
def MapIs (w : World) (b : Nat) (f : ByteArray → Option Pd) : Prop := ∃ es clock, w.heap[b]? = some (.map es clock) ∧ MList es.toList f
theorem MapIs.lt {w : World} {b : Nat} {f : ByteArray → Option Pd} (h : MapIs w b f) : b < w.heap.size := by
  obtain ⟨es, c, h1, _⟩ := h
  exact (Array.getElem?_eq_some_iff.1 h1).1
theorem MapIs.only {S : List Nat} {w w' : World} {b : Nat} {f : ByteArray → Option Pd} (h : MapIs w b f) (o : Only S w w') (hS : b ∉ S) : MapIs w' b f := by
  have hl := h.lt
  obtain ⟨es, c, h1, h2⟩ := h
  exact ⟨es, c, (o.block b hl hS).trans h1, h2⟩
theorem MapIs.ext {w : World} {b : Nat} {f g : ByteArray → Option Pd} (h : MapIs w b f) (e : ∀ s, f s = g s) : MapIs w b g := by
  obtain ⟨es, c, h1, h2⟩ := h
  exact ⟨es, c, h1, h2.ext e⟩
theorem MapIs.apart {w : World} {b g : Nat} {f : ByteArray → Option Pd} {t : TypeId} {cs : Array Value} (h : MapIs w b f) (k : Bk w g t cs) : b ≠ g := by
  rintro rfl
  obtain ⟨es, c, h1, _⟩ := h
  unfold Bk at k
  rw [h1] at k
  cases k
theorem MapIs.made (w : World) : MapIs (w.alloc (.map #[] 0)) w.heap.size (fun _ => none) := ⟨#[], 0, heap_alloc_new w _, fun _ => rfl⟩
abbrev mapV (b : Nat) : Value := .map (some b)
theorem map_look {w : World} {b : Nat} {f : ByteArray → Option Pd} (h : MapIs w b f) (t : ByteArray) :
    (Instr.lookup 81 (mapV b) (.string t) true).run Try.prog w = .ok (.tuple #[.agg ((f t).getD P0).cs, .bool (f t).isSome]) w := by
  obtain ⟨es, c, hb, hm⟩ := h
  have hz : (zeroValue 38).run Try.prog w = .ok (.agg #[.int .i64 0, .int .i64 0]) w := by kernel_rfl
  have hk : ∀ e, (Instr.checkKey e 10000 9 (.string t)).run Try.prog w = .ok () w := fun e => run_checkKey Try.underlying9 (k := .string t) trivial e 9999
  rcases hm.find t 0 with ⟨h1, h2⟩ | ⟨p, j, h1, h2, _⟩
  · rw [h1]
    simp [Instr.lookup, run_underlying Try.underlying81, MapKept.run_getObj_map hb, hk, run_findKey Try.underlying9 h2, hz, Result.andThen]
  · rw [h1]
    simp [Instr.lookup, run_underlying Try.underlying81, MapKept.run_getObj_map hb, hk, run_findKey Try.underlying9 h2, Result.andThen]
theorem only_block {w : World} {b : Nat} {o o' : Obj} (hb : w.heap[b]? = some o) : Only [b] w { w with heap := w.heap.setIfInBounds b o' } :=
  ⟨rfl, rfl, rfl, by simp, fun k _ hk => (MapKept.heap_set hb).2 k (by simpa using hk)⟩
theorem map_put {w : World} {b : Nat} {f : ByteArray → Option Pd} (h : MapIs w b f) (t : ByteArray) (p : Pd) (hf : f t = none) :
    ∃ w', (Instr.mapUpdate 81 (mapV b) (.string t) (.agg p.cs)).run Try.prog w = .ok () w' ∧ MapIs w' b (fun u => if u = t then some p else f u) ∧ Only [b] w w' := by
  obtain ⟨es, c, hb, hm⟩ := h
  have hk : ∀ e, (Instr.checkKey e 10000 9 (.string t)).run Try.prog w = .ok () w := fun e => run_checkKey Try.underlying9 (k := .string t) trivial e 9999
  rcases hm.find t 0 with ⟨h1, h2⟩ | ⟨q, j, h1, h2, _⟩
  · refine ⟨_, by simp [Instr.mapUpdate, run_underlying Try.underlying81, MapKept.run_getObj_map hb, hk, run_findKey Try.underlying9 h2, run_setObj_map _ hb, Result.andThen]; rfl, ⟨_, _, (MapKept.heap_set hb).1, ?_⟩, only_block hb⟩
    rw [Array.toList_push]
    exact MList.push rfl rfl hm hf
  · rw [hf] at h1
    cases h1
theorem map_del {w : World} {b : Nat} {f : ByteArray → Option Pd} (h : MapIs w b f) (t : ByteArray) (ty : TypeId) :
    ∃ w', (Builtin.delete_ #[81, 9] ty #[mapV b, .string t]).run Try.prog w = .ok (.tuple #[]) w' ∧ MapIs w' b (fun u => if u = t then none else f u) ∧ Only [b] w w' := by
  obtain ⟨es, c, hb, hm⟩ := h
  have hk : ∀ e, (Instr.checkKey e 10000 9 (.string t)).run Try.prog w = .ok () w := fun e => run_checkKey Try.underlying9 (k := .string t) trivial e 9999
  rcases hm.find t 0 with ⟨h1, h2⟩ | ⟨q, j, h1, h2, h3⟩
  · refine ⟨_, by simp [Builtin.delete_, run_underlying Try.underlying81, MapKept.run_getObj_map hb, hk, run_findKey Try.underlying9 h2, run_setObj_map _ hb, Result.andThen]; rfl, ⟨_, _, (MapKept.heap_set hb).1, hm.ext fun u => ?_⟩, only_block hb⟩
    by_cases hu : u = t
    · rw [if_pos hu, hu, h1]
    · rw [if_neg hu]
  · refine ⟨_, by simp [Builtin.delete_, run_underlying Try.underlying81, MapKept.run_getObj_map hb, hk, run_findKey Try.underlying9 h2, run_setObj_map _ hb, Result.andThen]; rfl, ⟨_, _, (MapKept.heap_set hb).1, ?_⟩, only_block hb⟩
    have e : (es.eraseIdxIfInBounds (0 + j)).toList = es.toList.eraseIdx j := by
      rw [Nat.zero_add]
      unfold Array.eraseIdxIfInBounds
      split
      · simp only [Array.toList_eraseIdx]
      · rename_i hj
        rw [List.eraseIdx_of_length_le (by simpa using hj)]
    first | (rw [e]; exact h3) | (rw [Nat.zero_add] at e; rw [e]; exact h3)
theorem map_clone {w : World} {b : Nat} {f : ByteArray → Option Pd} (h : MapIs w b f) (t : TypeId) :
    ∃ w', (Extern.MapsClone.clone #[.iface t (mapV b)]).run Try.prog w = .ok (.iface t (mapV w.heap.size)) w' ∧ MapIs w' w.heap.size f ∧ Only [] w w' := by
  obtain ⟨es, c, hb, hm⟩ := h
  have e : Extern.MapsClone.clone #[.iface t (mapV b)] = (getObj b >>= fun o => match o with
      | .map entries clock => (newObj (.map entries clock) >>= fun n => pure (.iface t (.map (some n))))
      | _ => stuck "maps.clone: a map expected") := rfl
  rw [e]
  refine ⟨_, by simp [MapKept.run_getObj_map hb, Result.andThen], ⟨es, c, heap_alloc_new w _, hm⟩, (Only.refl [] w).alloc _⟩
end Go.Proofs.Ytlidnlcmnkagaaa
