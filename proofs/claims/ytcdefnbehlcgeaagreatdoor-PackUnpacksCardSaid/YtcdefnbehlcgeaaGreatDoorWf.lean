/- Lists of small structs in memory: a slice that reads as a list, a row of the call's own; a. Rows of the call's own that are written over. strings.Clone: the same bytes.. A region that draws its order, whose operations read and whose callees may make memory of . The program's reader: names, complex numbers, pids.. -/
import Derived.Test.YtcdefnbehlcgeaaGreatDoorWe
import Derived.Test.YtcdefnbehlcgeaaGreatDoorWa
import Derived.Maps.AppendAt
import Derived.Deep.AppendLies
import Derived.Deep.RegionLaw
import Derived.Deep.RegionHeldLaw
import Derived.Lib.BufferWrite
import Derived.Lib.UnsafeStr
import Derived.Test.YtcdefnbehlcgeaaGreatDoorWb
set_option maxHeartbeats 4000000
set_option maxRecDepth 20000
namespace Go.Proofs.YtcdefnbehlcgeaaGreatDoor
open Go.RowKit
structure Sk (α : Type) where
 e : TypeId
 t : TypeId
 k : Nat
 by' : Nat
 i : TypeInfo
 z : Value
 enc : α → List Value
 ht : Tryz.prog.underlying t = some (.slice e)
 hi : Tryz.prog.info? e = some i
 hz : i.zero = some z
 hk : i.size = k
 hb : i.bytes = by'
 hzs : z.cells.size = k
 h0 : 0 < k
 hb0 : 0 < by'
 henc : ∀ a, (enc a).length = k
 hone : ∀ a, ∀ u ∈ enc a, u.oneCell' = true
variable {α : Type}
def RdS (K : Sk α) (w : World) (A : Option Addr) (xs : List α) : Prop :=
 xs = [] ∨ ∃ bl off, A = some ⟨bl, off, none⟩ ∧ bl < w.heap.size ∧ ∀ i x, xs[i]? = some x → ∀ j v, (K.enc x)[j]? = some v → w.cell? ⟨bl, off + i * K.k + j, none⟩ = some v
def OwnS (K : Sk α) (w : World) (base : Nat) (v : Value) (xs : List α) : Prop := w.ownsRow base K.e K.k v xs.length (xs.flatMap K.enc)
theorem RdS.nil (K : Sk α) (w : World) (A : Option Addr) : RdS K w A [] := .inl rfl
theorem RdS.only {K : Sk α} {w w' : World} {A : Option Addr} {xs : List α} {S : List Nat} (h : RdS K w A xs) (o : Only S w w') (hn : xs ≠ [] → ∀ bl off, A = some ⟨bl, off, none⟩ → bl ∉ S) : RdS K w' A xs := by
 rcases h with rfl | ⟨bl, off, e, hb, hc⟩
 ·exact .inl rfl
 ·by_cases h0 : xs = []
  ·exact .inl h0
  ·exact .inr ⟨bl, off, e, Nat.lt_of_lt_of_le hb o.size, fun i x hx j v hv => (o.cell (p := ⟨bl, off + i * K.k + j, none⟩) hb (hn h0 bl off e)).trans (hc i x hx j v hv)⟩
theorem RdS.alloc {K : Sk α} {w : World} {A : Option Addr} {xs : List α} (h : RdS K w A xs) (o : Obj) : RdS K (w.alloc o) A xs := h.only ((Only.refl [] w).alloc o) (by simp)
theorem RdS.form {K : Sk α} {w : World} {A : Option Addr} {xs : List α} (h : RdS K w A xs) (h0 : 0 < xs.length) :
 ∃ bl off, A = some ⟨bl, off, none⟩ ∧ bl < w.heap.size ∧ ∀ i x, xs[i]? = some x → ∀ j v, (K.enc x)[j]? = some v → w.cell? ⟨bl, off + i * K.k + j, none⟩ = some v := by
 rcases h with rfl | ⟨bl, off, e, hb, hc⟩
 ·simp at h0
 ·exact ⟨bl, off, e, hb, hc⟩
theorem flat_at (K : Sk α) : ∀ {xs : List α} {i : Nat} {x : α} (_ : xs[i]? = some x) {j : Nat} {v : Value} (_ : (K.enc x)[j]? = some v), (xs.flatMap K.enc)[i * K.k + j]? = some v
 | [], i, _, h, _, _, _ => by simp at h
 | y :: r, 0, x, h, j, v, hv => by
  simp only [List.getElem?_cons_zero, Option.some.injEq] at h
  subst h
  have hj := (List.getElem?_eq_some_iff.1 hv).1
  rw [List.flatMap_cons, Nat.zero_mul, Nat.zero_add, List.getElem?_append_left hj]
  exact hv
 | y :: r, i + 1, x, h, j, v, hv => by
  simp only [List.getElem?_cons_succ] at h
  rw [List.flatMap_cons, List.getElem?_append_right (by rw [K.henc, Nat.succ_mul]; omega), K.henc, show (i + 1) * K.k + j - K.k = i * K.k + j by rw [Nat.succ_mul]; omega]
  exact flat_at K h hv
theorem at_flat (K : Sk α) : ∀ {xs : List α} {n : Nat} {v : Value}, (xs.flatMap K.enc)[n]? = some v → ∃ i x j, xs[i]? = some x ∧ (K.enc x)[j]? = some v ∧ n = i * K.k + j
 | [], n, v, h => by simp at h
 | y :: r, n, v, h => by
  rw [List.flatMap_cons] at h
  by_cases hn : n < K.k
  ·rw [List.getElem?_append_left (by rw [K.henc]; exact hn)] at h
   exact ⟨0, y, n, rfl, h, by omega⟩
  ·rw [List.getElem?_append_right (by rw [K.henc]; omega), K.henc] at h
   obtain ⟨i, x, j, h1, h2, h3⟩ := at_flat K h
   exact ⟨i + 1, x, j, by simpa using h1, h2, by rw [Nat.succ_mul]; omega⟩
theorem RdS.cells {K : Sk α} {w : World} {xs : List α} {ad : Addr} (h : RdS K w (some ad) xs) : ∀ n v, (xs.flatMap K.enc)[n]? = some v → w.cell? (ad.add n) = some v := by
 intro n v hn
 rcases h with rfl | ⟨bl, off, e, hb, hc⟩
 ·simp at hn
 ·injection e with e
  subst e
  obtain ⟨i, x, j, h1, h2, rfl⟩ := at_flat K hn
  rw [Go.WideShapes.add_plain, ← Nat.add_assoc]
  exact hc i x h1 j v h2
theorem RdS.of_cells {K : Sk α} {w : World} {xs : List α} {bl off : Nat} (hb : bl < w.heap.size) (h : ∀ n v, (xs.flatMap K.enc)[n]? = some v → w.cell? ⟨bl, off + n, none⟩ = some v) : RdS K w (some ⟨bl, off, none⟩) xs :=
 .inr ⟨bl, off, rfl, hb, fun i x hx j v hv => by rw [Nat.add_assoc]; exact h _ v (flat_at K hx hv)⟩
theorem RdS.of_bk {K : Sk α} {w : World} {g : Nat} {t : TypeId} {cs : Array Value} {xs : List α} (h : Bk w g t cs) (hc : cs.toList = xs.flatMap K.enc) : RdS K w (some ⟨g, 0, none⟩) xs :=
 RdS.of_cells h.lt fun n v hn => by rw [Nat.zero_add]; exact h.cell0 (by rw [← hc, Array.getElem?_toList] at hn; exact hn)
theorem RdS.one {K : Sk α} {w : World} {g : Nat} {t : TypeId} {cs : Array Value} {x : α} (h : Bk w g t cs) (hc : cs.toList = K.enc x) : RdS K w (some ⟨g, 0, none⟩) [x] := RdS.of_bk h (by simp [hc])
theorem OwnS.nil (K : Sk α) (w : World) (base : Nat) : OwnS K w base (.slice none 0 0) [] := World.ownsRow_nil _ _ _ _
theorem OwnS.alloc {K : Sk α} {w : World} {base : Nat} {v : Value} {xs : List α} (h : OwnS K w base v xs) (o : Obj) : OwnS K (w.alloc o) base v xs := World.ownsRow.alloc h o
theorem OwnS.drewN {K : Sk α} {w : World} {base : Nat} {v : Value} {xs : List α} (h : OwnS K w base v xs) (n : Nat) : OwnS K (w.drewN n) base v xs := h
theorem OwnS.only {K : Sk α} {S : List Nat} {w w' : World} {base : Nat} {v : Value} {xs : List α} (h : OwnS K w base v xs) (o : Only S w w') (hS : ∀ g, v.ownBlock = some g → g ∉ S) : OwnS K w' base v xs := by
 refine ⟨h.1, ?_⟩
 rcases h.2 with h2 | ⟨g, cap, cur, hv, hb, hg, h3⟩
 ·exact .inl h2
 ·have hg' : Bk w g K.e cur := hg
  exact .inr ⟨g, cap, cur, hv, hb, hg'.only o (hS g (by rw [hv]; rfl)), h3⟩
theorem OwnS.block {K : Sk α} {w : World} {base : Nat} {v : Value} {xs : List α} (h : OwnS K w base v xs) {g : Nat} (hg : v.ownBlock = some g) : base ≤ g ∧ g < w.heap.size := by
 rcases h.2 with ⟨hv, _⟩ | ⟨g', cap, cur, hv, hb, hg', _⟩
 ·rw [hv] at hg; cases hg
 ·rw [hv] at hg
  injection hg with hg
  subst hg
  exact ⟨hb, Bk.lt (t := K.e) (cs := cur) hg'⟩
theorem OwnS.form {K : Sk α} {w : World} {base : Nat} {v : Value} {xs : List α} (h : OwnS K w base v xs) :
 ∃ A cap, v = .slice A xs.length cap ∧ xs.length ≤ cap ∧ cap ≤ maxLen ∧ RdS K w A xs ∧ (∀ bl off, A = some ⟨bl, off, none⟩ → base ≤ bl ∧ bl < w.heap.size ∧ off = 0 ∧ v.ownBlock = some bl) := by
 have hb := @OwnS.block _ K w base v xs h
 obtain ⟨h1, h2⟩ := h
 rcases h2 with ⟨rfl, h3⟩ | ⟨g, cap, cur, rfl, hg, hh, hn, hm, hs, ht⟩
 ·have : xs = [] := List.eq_nil_of_length_eq_zero h3
  subst this
  exact ⟨none, 0, rfl, Nat.le_refl _, by simp [maxLen], RdS.nil _ _ _, (fun bl off e => by cases e)⟩
 ·refine ⟨some ⟨g, 0, none⟩, cap, rfl, hn, hm, RdS.of_cells (Bk.lt (t := K.e) (cs := cur) hh) (fun n v hv => ?_), fun bl off e => ?_⟩
  ·rw [Nat.zero_add, Bk.cell (t := K.e) (cs := cur) hh, ← Array.getElem?_toList]
   rw [← ht, List.getElem?_take] at hv
   split at hv
   ·exact hv
   ·cases hv
  ·injection e with e
   injection e with e1 e2
   subst e1
   exact ⟨hg, (hb rfl).2, e2.symm, rfl⟩
theorem OwnS.own_ge {K : Sk α} {w : World} {base : Nat} {v : Value} {xs : List α} (h : OwnS K w base v xs) : ∀ i ∈ v.ownBlock.toList, base ≤ i ∧ i < w.heap.size := fun i hi => h.block (by simpa using hi)
theorem OwnS.goes {K : Sk α} {w0 w w1 : World} {base : Nat} {v : Value} {xs : List α} {S : List Nat} (h : OwnS K w base v xs) (hg : w.grownBy w1 v.ownBlock) (o : Only S w0 w) (hb : w0.heap.size ≤ base) : Only S w0 w1 :=
 o.trans (Only.of_grown hg) fun i hi => .inr (by have := (h.own_ge i hi).1; omega)
/-! ### What an argument is -/
theorem Bk.newAt {w : World} {t : TypeId} {cs : Array Value} {b : Nat} (h : b = w.heap.size) : Bk (w.alloc (.cells cs t)) b t cs := by
 subst h
 exact Bk.made w t cs
open Go.RowKit
open Go.RowKit
theorem made_list (z : Array Value) : ∀ n, (madeCells z (n * z.size)).toList = (List.replicate n z.toList).flatten
 | 0 => by simp [madeCells]
 | n + 1 => by
  have ih := made_list z n
  unfold madeCells at ih ⊢
  rw [Array.toList_map, Array.toList_range] at ih ⊢
  rw [Nat.succ_mul, List.range_add, List.map_append, ih, List.replicate_succ', List.flatten_append, List.map_map]
  congr 1
  simp only [List.flatten_cons, List.flatten_nil, List.append_nil]
  apply List.ext_getElem?
  intro i
  rw [List.getElem?_map]
  by_cases h : i < z.size
  ·rw [List.getElem?_range h]
   simp [Nat.mod_eq_of_lt h, h]
  ·rw [List.getElem?_eq_none (by simpa using h), List.getElem?_eq_none (by simpa using h)]
   rfl
theorem wpList_makeS {α : Type} (K : Sk α) (z : α) (hz : K.enc z = K.z.cells.toList) (w : World) {ops : Array Oper} {rest : List Oper} {o : Oper} {a : Act} {Q : Exit → Act → World → Prop} (hgd : o.guard = none) (l c : Operand) (ho : o.op = Op.makeSlice K.t l c) (n : Nat) (L C : Int)
 (hl : a.eval l = .int .i64 L) (hc : a.eval c = .int .i64 C) (hL : L = (n : Int)) (hC : C = (n : Int)) (hn : K.by' * n ≤ 281474976710656)
 (h : ∀ w', OwnS K w' w.heap.size (.slice (some ⟨w.heap.size, 0, none⟩) n n) (List.replicate n z) → Only [] w w' → wpList Tryz.prog ops Q rest (a.put o.dst (.slice (some ⟨w.heap.size, 0, none⟩) n n)) w') : wpList Tryz.prog ops Q (o :: rest) a w := by
 refine wpList_make_full w hgd l c K.t ho w.heap.size K.e K.i K.z K.k K.ht K.hi K.hz K.hk .i64 .i64 L C n hl hc hL hC (by rw [K.hb]; exact hn) (by
  have := Nat.le_trans (Nat.le_mul_of_pos_left n K.hb0) hn
  unfold maxLen
  omega) (Nat.le_refl _) (fun w' h1 h2 => h w' ?_ (Only.of_grown h2))
 have e : (madeCells K.z.cells (n * K.k)).toList = (List.replicate n z).flatMap K.enc := by
  rw [← K.hzs, made_list, ← hz, List.flatMap_replicate]
 rw [e] at h1
 unfold OwnS
 rw [List.length_replicate]
 exact h1
noncomputable def KU : Sk UInt8 where
 e := 5
 t := 69
 k := 1
 by' := 1
 i := (Tryz.prog.info? 5).getD default
 z := .int .u8 0
 enc := fun x => [.int .u8 (x.toNat : Int)]
 ht := Tryz.underlying69
 hi := by kernel_rfl
 hz := by kernel_rfl
 hk := by kernel_rfl
 hb := by kernel_rfl
 hzs := rfl
 h0 := by decide
 hb0 := by decide
 henc := fun _ => rfl
 hone := fun a u hu => by
  simp only [List.mem_cons, List.not_mem_nil, or_false] at hu
  rcases hu with rfl <;> rfl
theorem OwnS.cur {α : Type} {K : Sk α} {w : World} {base g n cap : Nat} {xs : List α} (h : OwnS K w base (.slice (some ⟨g, 0, none⟩) n cap) xs) : ∃ cur, w.heap[g]? = some (.cells cur K.e (0, 0)) ∧ cur.size = cap * K.k ∧ cur.toList.take (xs.length * K.k) = xs.flatMap K.enc := by
 rcases h.2 with ⟨hv, _⟩ | ⟨g', cap', cur, hv, hb, hg', h1, h2, h3, h4⟩
 ·cases hv
 ·injection hv with k1 k2 k3
  injection k1 with k1
  injection k1 with k1
  subst k1 k2 k3
  exact ⟨cur, hg', h3, h4⟩
theorem bytes_mk (s : ByteArray) : (⟨s.data.toList.toArray⟩ : ByteArray) = s := by simp
theorem litClone_facts {s : ByteArray} {w1 : World} {g : Nat} {M : Array Value} (hM : w1.heap[g]? = some (.cells M 5 (0, 0))) (hMs : M.size = s.size) (h0 : s.size ≠ 0) (hs : s.size ≤ 140737488351232) :
 ∃ w2 w3, (Builtin.copy_ #[69, 9] 3 #[.slice (some ⟨g, 0, none⟩) s.size s.size, .string s]).run Tryz.prog w1 = .ok (.int .i64 s.size) w2 ∧ (Builtin.unsafeString_ #[152, 3] 9 #[.pointer (some ⟨g, 0, none⟩), .int .i64 s.size]).run Tryz.prog w2 = .ok (.string s) w3 ∧ Only [g] w1 w2 ∧ ∀ w, w.heap.size ≤ g → Only [] w w1 → Only [] w w3 := by
 have hinfo : (Tryz.prog.info? 5).map (·.size) = some 1 := by kernel_rfl
 have hco : Tryz.prog.cellsOf 5 = 1 := by kernel_rfl
 have hne : s.data.toList ≠ [] := fun e => h0 (by show s.data.size = 0; rw [← Array.length_toList, e]; rfl)
 have hll : s.data.toList.length = s.size := Array.length_toList ..
 have hcp := Lib.run_copy_row_string (P := Tryz.prog) w1 69 9 3 5 g 0 s.size s.size s M 5 Tryz.underlying69 hinfo hM (Nat.le_refl _) (by omega)
 obtain ⟨Y, hY⟩ : ∃ Y, Y = (M.toList.take 0 ++ Lib.byteCells s.data.toList ++ M.toList.drop (0 + s.size)).toArray := ⟨_, rfl⟩
 rw [← hY] at hcp
 have hYl : Y.toList = Lib.byteCells s.data.toList := by
  rw [hY, List.toList_toArray, List.take_zero, List.nil_append, List.drop_of_length_le (by rw [Array.length_toList]; omega), List.append_nil]
 have hYs : Y.size = s.size := by rw [← Array.length_toList, hYl, Lib.byteCells_length, hll]
 have hgY : (w1.setRow g Y).heap[g]? = some (.cells Y 5 (0, 0)) := setRow_heap _ _ M _ 5 (0, 0) hM
 have hUS := Lib.run_unsafeString_row (P := Tryz.prog) (w1.setRow g Y) 152 3 9 5 Tryz.underlying152 hco g Y.size (by unfold World.shape?; rw [hgY]) s.data.toList hne (by omega) (by omega)
  (fun j x hx => Lib.cells_of_row hgY Y.size j _ (by rw [List.take_of_length_le (by rw [Array.length_toList]; exact Nat.le_refl _), hYl]; simp [Lib.byteCells, hx]))
 rw [hll, bytes_mk] at hUS
 have o1 : Only [g] w1 (w1.setRow g Y) := ⟨rfl, rfl, rfl, by simp [World.setRow], fun k _ hk => setRow_other _ _ _ _ (by simpa using hk)⟩
 exact ⟨_, _, hcp, hUS, o1, fun w hw ho => Only.of_below (Lib.below_freeze (ho.trans o1 (by simp; omega)).below (p := ⟨g, 0, none⟩) hw _)⟩
theorem litClone_any (s : ByteArray) (w : World) (hs : s.size ≤ 140737488351232) : Calls Tryz.prog 78 #[.string s] w fun e w' => e = .returned (.string s) ∧ Only [] w w' := by
 by_cases h0 : s.size = 0
 ·have : s = ⟨#[]⟩ := ByteArray.ext (Array.eq_empty_of_size_eq_zero h0)
  subst this
  clear h0 hs
  go_enter Tryz.func78, Tryz.ntmps78
  go_wp2_with fail
  go_ret
  exact ⟨rfl, Only.refl _ _⟩
 ·have q0 : (s.size == 0) = false := by simpa using h0
  have p0 : 0 < s.size := by omega
  have H0 := Lib.hid h0
  clear h0
  go_enter Tryz.func78, Tryz.ntmps78
  go_wp2_with (refine wpList_makeS KU (0 : UInt8) rfl w (by rfl) (.tmp 8) (.tmp 8) (by rfl) s.size _ _ (by rfl) (by rfl) rfl rfl (by show 1 * _ ≤ _; omega) ?_; intro w1 hown ho; obtain ⟨M, hM, hMs, -⟩ := hown.cur; obtain ⟨w2, w3, hc1, hc2, -, ho3⟩ := litClone_facts hM (by rw [hMs]; exact Nat.mul_one _) H0.out hs; have HO := Lib.hid (ho3 w (Nat.le_refl _) ho); clear hown ho hM hMs ho3)
  go_ret
  exact ⟨rfl, HO.out⟩
theorem clone_any (s : ByteArray) (w : World) (hs : s.size ≤ 140737488351232) : Calls Tryz.prog 44 #[.string s] w fun e w' => e = .returned (.string s) ∧ Only [] w w' := by
 have K := Lib.hid (litClone_any s w hs)
 go_enter Tryz.func44, Tryz.ntmps44
 go_wp2_with fail
 (with_reducible refine K.out.mono ?_)
 rintro e w1 ⟨rfl, o1⟩
 go_wp2_with fail
 go_ret
 exact ⟨rfl, o1⟩
def Cm (w : World) : Type := {w' : World // Only [] w w'}
instance (w : World) : Nonempty (Cm w) := ⟨⟨w, Only.refl _ _⟩⟩
theorem Cm.o {w : World} (x : Cm w) : Only [] w x.1 := x.2
theorem Cm.cell {w : World} {p : Addr} {v : Value} (h : w.cell? p = some v) (x : Cm w) : x.1.cell? p = some v :=
 (x.2.cell (World.block_lt_of_cell? w p h) (by simp)).trans h
theorem calmS {P : Program} {f : FuncId} {args : Array Value} {w : World} {x : Cm w} {v : Value} (h : Calls P f args x.1 fun e w' => e = .returned v ∧ Only [] x.1 w') : Calls P f args x.1 fun e w'' => e = .returned v ∧ ∃ y : Cm w, w'' = y.1 :=
 h.mono fun _ w' ⟨he, o⟩ => ⟨he, ⟨w', x.2.trans o (by simp)⟩, rfl⟩
theorem calmE {P : Program} {f : FuncId} {args : Array Value} {w : World} {x : Cm w} {v : Value} (h : Calls P f args x.1 fun e w' => e = .returned v ∧ x.1 = w') : Calls P f args x.1 fun e w'' => e = .returned v ∧ ∃ y : Cm w, w'' = y.1 :=
 h.mono fun _ _ ⟨he, o⟩ => ⟨he, x, o.symm⟩
theorem wp_region_calm {P : Program} {id : Nat} {Q : Exit → Act → World → Prop} {a : Act} {w : World} {l : List Oper} (hm : P.follows .mixedOrders = true) (hB : Region.lexB .any l.toArray = true)
 (h : wpQuiet P l.toArray (fun w' => ∃ x : Cm w, w' = x.1) (fun a' => ∀ w', (∃ x : Cm w, w' = x.1) → Q .normal a' w') l a) : (Code.region id l.toArray true).wp P Q a w :=
 wp_region_quiet (C := fun w' => ∃ x : Cm w, w' = x.1) hm hB ⟨⟨_, (Only.refl [] w).drew⟩, rfl⟩ (by simpa using h)
open Go.RowKit
theorem rLen_bd {s : ByteArray} {p n q : Nat} (h : rLen s p = .ok n q) : n ≤ s.size - q ∧ q ≤ s.size ∧ p < q := by
 unfold rLen rFit at h
 split at h
 ·rename_i n' q' hc
  split at h
  ·rename_i hf
   injection h with h1 h2
   subst h1 h2
   exact ⟨by simpa using hf, (cnt_bd hc).2.2, (cnt_bd hc).2.1⟩
  ·cases h
 ·cases h
theorem rFit_bad {f : Nat → Nat → Bool} {s : ByteArray} {p q : Nat} (h : rFit f s p = .bad q) : q = p := by
 unfold rFit at h
 split at h
 ·split at h
  ·cases h
  ·injection h with h; exact h.symm
 ·injection h with h; exact h.symm
abbrev RS (_ _ : World) (x : ByteArray) (u : Value) : Prop := u = .string x
theorem name_any (b : Nat) (s : ByteArray) (p : Nat) (w : World) (hb : Rdb w b s p) (hp : p ≤ s.size) (hs : s.size ≤ 262144) :
 Calls Tryz.prog 19 #[.pointer (some ⟨b, 0, none⟩)] w fun e w' => RdE b s (.string ⟨#[]⟩) RS (rName s p) w e w' := by
 have HF := Lib.hid (length_any b s p w hb hp hs)
 cases hr : rLen s p with
 | ok n q =>
  have hn : rName s p = .ok (s.extract q (q + n)) (q + n) := by unfold rName; rw [hr]; rfl
  obtain ⟨hn1, hq, -⟩ := rLen_bd hr
  rw [hn]
  rw [hr] at HF
  clear hr hn
  go_enter Tryz.func19, Tryz.ntmps19
  go_wp2_with fail
  (with_reducible refine HF.out.mono ?_)
  rintro e w1 ⟨u, rfl, rfl, h3, h4, h5⟩
  obtain ⟨c0, c1⟩ := Rdb.two h3
  have f1 := Bk.free h3 1
  have h3' : Rdb (w1.setCell ⟨b, 1, none⟩ (.int .i64 ((q : Int) + n))) b s (q + n) := by
   have := Bk.set h3 1 (.int .i64 ((q : Int) + n))
   have e : ((q : Int) + n) = ((q + n : Nat) : Int) := by omega
   rw [e] at this ⊢
   exact this
  have H3 := Lib.hid h3'
  have H4 := Lib.hid (h4.set (p := ⟨b, 1, none⟩) (.inl (by simp)) (.int .i64 ((q : Int) + n)))
  have z0 : ∀ x : Cm (w1.setCell ⟨b, 1, none⟩ (.int .i64 ((q : Int) + n))), x.1.cell? ⟨b, 0, none⟩ = some (.string s) := Cm.cell (Rdb.two h3').1
  have z1 : ∀ x : Cm (w1.setCell ⟨b, 1, none⟩ (.int .i64 ((q : Int) + n))), x.1.cell? ⟨b, 1, none⟩ = some (.int .i64 ((q : Int) + n)) := Cm.cell (Bk.cell0 (i := 1) h3' (by simp))
  clear h3 h4 h3'
  go_wp2_with fail
  clear c0 c1 f1
  refine wp_region_calm (by kernel_rfl) (by kernel_rfl) ?_
  have KC := Lib.hid (fun x : Cm (w1.setCell ⟨b, 1, none⟩ (.int .i64 ((q : Int) + n))) => clone_any (s.extract q (q + n)) x.1 (by rw [ByteArray.size_extract]; omega))
  repeat (go_big_quiet_step ((go_at_call 44; exact calmS (KC.out _))))
  refine wpQuiet_nil ?_
  rintro w5 ⟨⟨w5', o5⟩, e5⟩
  obtain rfl : w5 = w5' := e5
  have H5 := Lib.hid (Bk.only H3.out o5 (by simp))
  have O5 := Lib.hid (H4.out.trans o5 (by simp))
  clear z0 z1 o5 KC
  go_wp2_with fail
  go_ret2
  exact ⟨_, rfl, rfl, H5.out, O5.out, by omega⟩
 | bad q =>
  have hn : rName s p = .bad q := by unfold rName; rw [hr]; rfl
  obtain rfl := rFit_bad hr
  rw [hn]
  rw [hr] at HF
  clear hr hn
  go_enter Tryz.func19, Tryz.ntmps19
  go_wp2_with fail
  (with_reducible refine HF.out.mono ?_)
  rintro e w1 ⟨rfl, h3, h4⟩
  obtain ⟨c0, c1⟩ := Rdb.two h3
  have f1 := Bk.free h3 1
  have h3' : Rdb (w1.setCell ⟨b, 1, none⟩ (.int .i64 q)) b s q := Bk.set h3 1 (.int .i64 (q : Int))
  have H3 := Lib.hid h3'
  have H4 := Lib.hid (h4.set (p := ⟨b, 1, none⟩) (.inl (by simp)) (.int .i64 (q : Int)))
  have z0 : ∀ x : Cm (w1.setCell ⟨b, 1, none⟩ (.int .i64 q)), x.1.cell? ⟨b, 0, none⟩ = some (.string s) := Cm.cell (Rdb.two h3').1
  have z1 : ∀ x : Cm (w1.setCell ⟨b, 1, none⟩ (.int .i64 q)), x.1.cell? ⟨b, 1, none⟩ = some (.int .i64 q) := Cm.cell (Rdb.two h3').2
  clear h3 h4 h3'
  go_wp2_with fail
  clear c0 c1 f1
  refine wp_region_calm (by kernel_rfl) (by kernel_rfl) ?_
  have KC := Lib.hid (fun x : Cm (w1.setCell ⟨b, 1, none⟩ (.int .i64 q)) => clone_any ⟨#[]⟩ x.1 (by decide))
  repeat (go_big_quiet_step ((go_at_call 44; exact calmS (KC.out _))))
  refine wpQuiet_nil ?_
  rintro w5 ⟨⟨w5', o5⟩, e5⟩
  obtain rfl : w5 = w5' := e5
  have H5 := Lib.hid (Bk.only H3.out o5 (by simp))
  have O5 := Lib.hid (H4.out.trans o5 (by simp))
  clear z0 z1 o5 KC
  go_wp2_with fail
  go_ret2
  exact ⟨rfl, H5.out, O5.out⟩
abbrev RC (_ _ : World) (x : Int × Int) (u : Value) : Prop := u = .complex .f64 (floatOfInt .f64 x.1) (floatOfInt .f64 x.2)
theorem parts_any (b : Nat) (s : ByteArray) (p : Nat) (w : World) (hb : Rdb w b s p) (hp : p ≤ s.size) (hs : s.size ≤ 262144) :
 Calls Tryz.prog 72 #[.pointer (some ⟨b, 0, none⟩)] w fun e w' => RdE b s (.complex .f64 0 0) RC (rParts s p) w e w' := by
 have HF := Lib.hid (part_any b s p w hb hp hs)
 unfold rParts
 generalize rPart s p = r at HF ⊢
 cases r with
 | ok x q =>
  have HG := Lib.hid (fun w1 (h : Rdb w1 b s q) (hq : q ≤ s.size) => part_any b s q w1 h hq hs)
  show Calls Tryz.prog _ _ w fun e w' => RdE b s (.complex .f64 0 0) RC ((rPart s q).bind fun c r => .ok (x, c) r) w e w'
  generalize rPart s q = r2 at HG ⊢
  go_enter Tryz.func72, Tryz.ntmps72
  go_wp2_with fail
  refine wp_scope_fwd 0 rfl ?_
  go_wp2_with fail
  (with_reducible refine HF.out.mono ?_)
  rintro e w1 ⟨u, rfl, rfl, h3, h4, h5⟩
  have H3 := Lib.hid h3
  have H4 := Lib.hid h4
  clear h3 h4
  go_wp2_with fail
  (with_reducible refine (HG.out _ H3.out h5).mono ?_)
  intro e w2 h
  cases r2 with
  | ok y t =>
   obtain ⟨u, rfl, rfl, h3, h4, h6⟩ := h
   have K3 := Lib.hid h3
   have K4 := Lib.hid (H4.out.trans h4 (fun i hi => .inl hi))
   clear h3 h4
   go_wp2_with fail
   try rw [Exit.jump_ret]
   go_ret2
   exact ⟨_, rfl, rfl, K3.out, K4.out, h6⟩
  | bad t =>
   obtain ⟨rfl, h3, h4⟩ := h
   have K3 := Lib.hid h3
   have K4 := Lib.hid (H4.out.trans h4 (fun i hi => .inl hi))
   clear h3 h4
   go_wp2_with fail
   refine wp_goto (And.intro rfl ?_)
   go_wp2_with fail
   try rw [Exit.last_ret]
   go_ret2
   exact ⟨rfl, K3.out, K4.out⟩
 | bad q =>
  show Calls Tryz.prog _ _ w fun e w' => RdE b s (.complex .f64 0 0) RC (.bad q) w e w'
  go_enter Tryz.func72, Tryz.ntmps72
  go_wp2_with fail
  refine wp_scope_fwd 0 rfl ?_
  go_wp2_with fail
  (with_reducible refine HF.out.mono ?_)
  rintro e w1 ⟨rfl, h3, h4⟩
  have H3 := Lib.hid h3
  have H4 := Lib.hid h4
  clear h3 h4
  go_wp2_with fail
  refine wp_goto (And.intro rfl ?_)
  go_wp2_with fail
  try rw [Exit.last_ret]
  go_ret2
  exact ⟨rfl, H3.out, H4.out⟩
theorem Bk.two' {w : World} {b : Nat} {t : TypeId} {v0 v1 : Value} (h : Bk w b t #[v0, v1]) : w.cell? ⟨b, 0, none⟩ = some v0 ∧ w.cell? ⟨b, 1, none⟩ = some v1 := ⟨h.cell0 rfl, h.cell0 rfl⟩
theorem put2 {W : World} {b : Nat} {t : TypeId} {q0 q1 : Value} (B : Bk W b t #[q0, q1]) (v0 v1 : Value) : Bk ((W.setCell ⟨b, 0, none⟩ v0).setCell ⟨b, 1, none⟩ v1) b t #[v0, v1] := by
 have := (B.set 0 v0).set 1 v1
 simpa using this
theorem Rdb.fresh {w : World} {b m : Nat} {s : ByteArray} {p : Nat} (h : Rdb w b s p) (hb : b < m) {a : Addr} (ha : m ≤ a.block) (u : Value) : Rdb (w.setCell a u) b s p := Bk.away h (by omega) u
abbrev RP (_ _ : World) (x : Nat × Nat) (u : Value) : Prop := u = .agg #[.int .i64 x.1, .int .i64 x.2]
theorem pid_any (b : Nat) (s : ByteArray) (p : Nat) (w : World) (hb : Rdb w b s p) (hp : p ≤ s.size) (hs : s.size ≤ 262144) :
 Calls Tryz.prog 73 #[.pointer (some ⟨b, 0, none⟩)] w fun e w' => RdE b s (.agg #[.int .i64 0, .int .i64 0]) RP (rPid s p) w e w' := by
 have HF := Lib.hid (fun w1 (hb1 : Rdb w1 b s p) (_ : Only [b] w w1) => count_rd b s p w1 hb1 hp hs)
 unfold rPid
 generalize rCnt s p = r at HF ⊢
 cases r with
 | ok x q =>
  have HG := Lib.hid (fun w1 (h : Rdb w1 b s q) (hq : q ≤ s.size) => count_rd b s q w1 h hq hs)
  show Calls Tryz.prog _ _ w fun e w' => RdE b s (.agg #[.int .i64 0, .int .i64 0]) RP ((rCnt s q).bind fun c r => .ok (x, c) r) w e w'
  generalize rCnt s q = r2 at HG ⊢
  have HL := Lib.hid (Bk.lt hb)
  go_enter Tryz.func73, Tryz.ntmps73
  go_wp2_with fail
  refine wp_scope_fwd 0 rfl ?_
  go_wp2_with fail
  (with_reducible refine (HF.out _ (hb.alloc _ |>.alloc _) ((Only.refl [b] w).alloc _ |>.alloc _)).mono ?_)
  rintro e w1 ⟨u, rfl, rfl, h3, h4, h5⟩
  have hlt := HL.out
  have hB0 : Bk w1 w.heap.size 49 #[.int .i64 0, .int .i64 0] := Bk.only (Bk.alloc (Bk.made w _ _) _) h4 (by simp; omega)
  have hB1 : Bk w1 (w.heap.size + 1) 49 #[.int .i64 0, .int .i64 0] := Bk.only (Bk.newAt (by unfold World.alloc; simp)) h4 (by simp; omega)
  have O1 := Lib.hid (((Only.refl [b] w).alloc _ |>.alloc _).trans h4 (fun i hi => .inl hi))
  have H3 := Lib.hid h3
  obtain ⟨x0, x1⟩ := Bk.two' hB1
  obtain ⟨y0, y1⟩ := Bk.two' hB0
  have f0 := Bk.free hB0 0
  have f1 := Bk.free hB0 1
  have g0 := Bk.free hB1 0
  have g1 := Bk.free hB1 1
  have HB0 := Lib.hid hB0
  have HB1 := Lib.hid hB1
  clear hB0 hB1 h3 h4
  go_wp2_with fail
  clear x0 x1 y0 y1 f0 f1 g0 g1
  (with_reducible refine (HG.out _ (Bk.away H3.out (by show b ≠ w.heap.size + 1; omega) _) h5).mono ?_)
  intro e w2 h
  have hO1 := O1.out.set (p := ⟨w.heap.size + 1, 0, none⟩) (.inr (by show w.heap.size ≤ w.heap.size + 1; omega)) (.int .i64 x)
  have hB1 := Bk.set HB1.out 0 (.int .i64 x)
  have hB0 := Bk.away HB0.out (p := ⟨w.heap.size + 1, 0, none⟩) (by show w.heap.size ≠ w.heap.size + 1; omega) (.int .i64 x)
  simp only [List.setIfInBounds_toArray, List.set_cons_zero] at hB1
  cases r2 with
  | ok y t =>
   obtain ⟨u, rfl, rfl, h3, h4, h6⟩ := h
   have K3 := Lib.hid h3
   have K4 := Lib.hid (hO1.trans h4 (fun i hi => .inl hi))
   have B1 := Bk.only hB1 h4 (by simp; omega)
   have B0 := Bk.only hB0 h4 (by simp; omega)
   obtain ⟨x0, x1⟩ := Bk.two' B1
   obtain ⟨y0, y1⟩ := Bk.two' B0
   have f0 := Bk.free B0 0
   have f1 := Bk.free B0 1
   have g0 := Bk.free B1 0
   have g1 := Bk.free B1 1
   have PB := Lib.hid B0
   clear h3 h4 hO1 hB1 hB0 B1 B0
   go_wp2_with fail
   try rw [Exit.jump_ret]
   obtain ⟨z0, z1⟩ := Bk.two' (put2 (Bk.away PB.out (p := ⟨w.heap.size + 1, 1, none⟩) (by show w.heap.size ≠ w.heap.size + 1; omega) (.int .i64 y)) (.int .i64 x) (.int .i64 y))
   refine bodyPost_ret (v := .tuple #[.agg #[.int .i64 x, .int .i64 y], .bool true]) (by simp [results, Tryz.results73, go_sem, z0, z1]) rfl ⟨_, rfl, rfl, ((K3.out.fresh hlt (by show w.heap.size ≤ w.heap.size + 1; omega) _).fresh hlt (Nat.le_refl _) _).fresh hlt (Nat.le_refl _) _, ((K4.out.set (.inr (by show w.heap.size ≤ w.heap.size + 1; omega)) _).set (.inr (Nat.le_refl _)) _).set (.inr (Nat.le_refl _)) _, h6⟩
  | bad t =>
   obtain ⟨rfl, h3, h4⟩ := h
   have K3 := Lib.hid h3
   have K4 := Lib.hid (hO1.trans h4 (fun i hi => .inl hi))
   have B1 := Bk.only hB1 h4 (by simp; omega)
   have B0 := Bk.only hB0 h4 (by simp; omega)
   obtain ⟨x0, x1⟩ := Bk.two' B1
   obtain ⟨y0, y1⟩ := Bk.two' B0
   have f0 := Bk.free B0 0
   have f1 := Bk.free B0 1
   have g0 := Bk.free B1 0
   have g1 := Bk.free B1 1
   have PB := Lib.hid B0
   clear h3 h4 hO1 hB1 hB0 B1 B0
   go_wp2_with fail
   refine wp_goto (And.intro rfl ?_)
   go_wp2_with fail
   try rw [Exit.last_ret]
   obtain ⟨z0, z1⟩ := Bk.two' (put2 (Bk.away PB.out (p := ⟨w.heap.size + 1, 1, none⟩) (by show w.heap.size ≠ w.heap.size + 1; omega) (.int .i64 0)) (.int .i64 0) (.int .i64 0))
   refine bodyPost_ret (v := .tuple #[.agg #[.int .i64 0, .int .i64 0], .bool false]) (by simp [results, Tryz.results73, go_sem, z0, z1]) rfl ⟨rfl, ((K3.out.fresh hlt (by show w.heap.size ≤ w.heap.size + 1; omega) _).fresh hlt (Nat.le_refl _) _).fresh hlt (Nat.le_refl _) _, ((K4.out.set (.inr (by show w.heap.size ≤ w.heap.size + 1; omega)) _).set (.inr (Nat.le_refl _)) _).set (.inr (Nat.le_refl _)) _⟩
 | bad q =>
  show Calls Tryz.prog _ _ w fun e w' => RdE b s (.agg #[.int .i64 0, .int .i64 0]) RP (.bad q) w e w'
  have HL := Lib.hid (Bk.lt hb)
  go_enter Tryz.func73, Tryz.ntmps73
  go_wp2_with fail
  refine wp_scope_fwd 0 rfl ?_
  go_wp2_with fail
  (with_reducible refine (HF.out _ (hb.alloc _ |>.alloc _) ((Only.refl [b] w).alloc _ |>.alloc _)).mono ?_)
  rintro e w1 ⟨rfl, h3, h4⟩
  have hlt := HL.out
  have B0 : Bk w1 w.heap.size 49 #[.int .i64 0, .int .i64 0] := Bk.only (Bk.alloc (Bk.made w _ _) _) h4 (by simp; omega)
  have B1 : Bk w1 (w.heap.size + 1) 49 #[.int .i64 0, .int .i64 0] := Bk.only (Bk.newAt (by unfold World.alloc; simp)) h4 (by simp; omega)
  have K4 := Lib.hid (((Only.refl [b] w).alloc _ |>.alloc _).trans h4 (fun i hi => .inl hi))
  have K3 := Lib.hid h3
  obtain ⟨x0, x1⟩ := Bk.two' B1
  obtain ⟨y0, y1⟩ := Bk.two' B0
  have f0 := Bk.free B0 0
  have f1 := Bk.free B0 1
  have g0 := Bk.free B1 0
  have g1 := Bk.free B1 1
  have PB := Lib.hid B0
  clear h3 h4 B1 B0
  go_wp2_with fail
  refine wp_goto (And.intro rfl ?_)
  go_wp2_with fail
  try rw [Exit.last_ret]
  obtain ⟨z0, z1⟩ := Bk.two' (put2 (Bk.away PB.out (p := ⟨w.heap.size + 1, 0, none⟩) (by show w.heap.size ≠ w.heap.size + 1; omega) (.int .i64 0)) (.int .i64 0) (.int .i64 0))
  refine bodyPost_ret (v := .tuple #[.agg #[.int .i64 0, .int .i64 0], .bool false]) (by simp [results, Tryz.results73, go_sem, z0, z1]) rfl ⟨rfl, ((K3.out.fresh hlt (by show w.heap.size ≤ w.heap.size + 1; omega) _).fresh hlt (Nat.le_refl _) _).fresh hlt (Nat.le_refl _) _, ((K4.out.set (.inr (by show w.heap.size ≤ w.heap.size + 1; omega)) _).set (.inr (Nat.le_refl _)) _).set (.inr (Nat.le_refl _)) _⟩
end Go.Proofs.YtcdefnbehlcgeaaGreatDoor
