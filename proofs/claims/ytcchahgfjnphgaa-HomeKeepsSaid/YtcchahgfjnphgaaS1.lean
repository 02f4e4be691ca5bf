/- Lists of small structs in memory: a slice that reads as a list, a row of the call's own; append, cuts. Nothing here speaks of a program in particular. -/
import Derived.Test.YtcchahgfjnphgaaS0
import Derived.Test.YtcchahgfjnphgaaBase
import Derived.Maps.AppendAt
import Derived.Deep.AppendLies
import Derived.Deep.RegionLaw
import Derived.Deep.RegionHeldLaw
namespace Go.Proofs.Ytcchahgfjnphgaa
open Go.RowKit
set_option maxRecDepth 20000

/-- A kind of things of k cells, and slices of them. -/
structure Sk (α : Type) where
  e : TypeId
  t : TypeId
  k : Nat
  by' : Nat
  i : TypeInfo
  z : Value
  enc : α → List Value
  ht : Try.prog.underlying t = some (.slice e)
  hi : Try.prog.info? e = some i
  hz : i.zero = some z
  hk : i.size = k
  hb : i.bytes = by'
  hzs : z.cells.size = k
  h0 : 0 < k
  hb0 : 0 < by'
  henc : ∀ a, (enc a).length = k
  hone : ∀ a, ∀ u ∈ enc a, u.oneCell' = true

variable {α : Type}

/-- A slice's value at A reads as xs (where it has things at all). -/
def RdS (K : Sk α) (w : World) (A : Option Addr) (xs : List α) : Prop :=
  xs = [] ∨ ∃ bl off, A = some ⟨bl, off, none⟩ ∧ bl < w.heap.size ∧ ∀ i x, xs[i]? = some x → ∀ j v, (K.enc x)[j]? = some v → w.cell? ⟨bl, off + i * K.k + j, none⟩ = some v
/-- v is a row of the call's own (from block base on) that holds xs. -/
def OwnS (K : Sk α) (w : World) (base : Nat) (v : Value) (xs : List α) : Prop := w.ownsRow base K.e K.k v xs.length (xs.flatMap K.enc)

theorem RdS.nil (K : Sk α) (w : World) (A : Option Addr) : RdS K w A [] := .inl rfl
theorem RdS.only {K : Sk α} {w w' : World} {A : Option Addr} {xs : List α} {S : List Nat} (h : RdS K w A xs) (o : Only S w w') (hn : xs ≠ [] → ∀ bl off, A = some ⟨bl, off, none⟩ → bl ∉ S) : RdS K w' A xs := by
  rcases h with rfl | ⟨bl, off, e, hb, hc⟩
  · exact .inl rfl
  · by_cases h0 : xs = []
    · exact .inl h0
    · exact .inr ⟨bl, off, e, Nat.lt_of_lt_of_le hb o.size, fun i x hx j v hv => (o.cell (p := ⟨bl, off + i * K.k + j, none⟩) hb (hn h0 bl off e)).trans (hc i x hx j v hv)⟩
theorem RdS.alloc {K : Sk α} {w : World} {A : Option Addr} {xs : List α} (h : RdS K w A xs) (o : Obj) : RdS K (w.alloc o) A xs := h.only ((Only.refl [] w).alloc o) (by simp)
/-- Where it has things it lies somewhere; each thing's cells. -/
theorem RdS.form {K : Sk α} {w : World} {A : Option Addr} {xs : List α} (h : RdS K w A xs) (h0 : 0 < xs.length) :
    ∃ bl off, A = some ⟨bl, off, none⟩ ∧ bl < w.heap.size ∧ ∀ i x, xs[i]? = some x → ∀ j v, (K.enc x)[j]? = some v → w.cell? ⟨bl, off + i * K.k + j, none⟩ = some v := by
  rcases h with rfl | ⟨bl, off, e, hb, hc⟩
  · simp at h0
  · exact ⟨bl, off, e, hb, hc⟩

theorem flat_len (K : Sk α) (xs : List α) : (xs.flatMap K.enc).length = xs.length * K.k := by
  induction xs with
  | nil => simp
  | cons x r ih => rw [List.flatMap_cons, List.length_append, ih, K.henc, List.length_cons, Nat.succ_mul, Nat.add_comm]
theorem flat_at (K : Sk α) : ∀ {xs : List α} {i : Nat} {x : α} (_ : xs[i]? = some x) {j : Nat} {v : Value} (_ : (K.enc x)[j]? = some v), (xs.flatMap K.enc)[i * K.k + j]? = some v
  | [], i, _, h, _, _, _ => by simp at h
  | y :: r, 0, x, h, j, v, hv => by
    simp only [List.getElem?_cons_zero, Option.some.injEq] at h
    subst h
    have hj := (List.getElem?_eq_some_iff.1 hv).1
    rw [List.flatMap_cons, Nat.zero_mul, Nat.zero_add, List.getElem?_append_left hj]
    exact hv
  | y :: r, i + 1, x, h, j, v, hv => by
    simp only [List.getElem?_cons_succ] at h
    rw [List.flatMap_cons, List.getElem?_append_right (by rw [K.henc, Nat.succ_mul]; omega), K.henc, show (i + 1) * K.k + j - K.k = i * K.k + j by rw [Nat.succ_mul]; omega]
    exact flat_at K h hv
theorem at_flat (K : Sk α) : ∀ {xs : List α} {n : Nat} {v : Value}, (xs.flatMap K.enc)[n]? = some v → ∃ i x j, xs[i]? = some x ∧ (K.enc x)[j]? = some v ∧ n = i * K.k + j
  | [], n, v, h => by simp at h
  | y :: r, n, v, h => by
    rw [List.flatMap_cons] at h
    by_cases hn : n < K.k
    · rw [List.getElem?_append_left (by rw [K.henc]; exact hn)] at h
      exact ⟨0, y, n, rfl, h, by omega⟩
    · rw [List.getElem?_append_right (by rw [K.henc]; omega), K.henc] at h
      obtain ⟨i, x, j, h1, h2, h3⟩ := at_flat K h
      exact ⟨i + 1, x, j, by simpa using h1, h2, by rw [Nat.succ_mul]; omega⟩
/-- All cells of a list that a slice reads as. -/
theorem RdS.cells {K : Sk α} {w : World} {xs : List α} {ad : Addr} (h : RdS K w (some ad) xs) : ∀ n v, (xs.flatMap K.enc)[n]? = some v → w.cell? (ad.add n) = some v := by
  intro n v hn
  rcases h with rfl | ⟨bl, off, e, hb, hc⟩
  · simp at hn
  · injection e with e
    subst e
    obtain ⟨i, x, j, h1, h2, rfl⟩ := at_flat K hn
    rw [Go.WideShapes.add_plain, ← Nat.add_assoc]
    exact hc i x h1 j v h2
theorem RdS.of_cells {K : Sk α} {w : World} {xs : List α} {bl off : Nat} (hb : bl < w.heap.size) (h : ∀ n v, (xs.flatMap K.enc)[n]? = some v → w.cell? ⟨bl, off + n, none⟩ = some v) : RdS K w (some ⟨bl, off, none⟩) xs :=
  .inr ⟨bl, off, rfl, hb, fun i x hx j v hv => by rw [Nat.add_assoc]; exact h _ v (flat_at K hx hv)⟩
theorem RdS.of_bk {K : Sk α} {w : World} {g : Nat} {t : TypeId} {cs : Array Value} {xs : List α} (h : Bk w g t cs) (hc : cs.toList = xs.flatMap K.enc) : RdS K w (some ⟨g, 0, none⟩) xs :=
  RdS.of_cells h.lt fun n v hn => by rw [Nat.zero_add]; exact h.cell0 (by rw [← hc, Array.getElem?_toList] at hn; exact hn)
/-- One thing that lies in a block of its own (the row that append is handed). -/
theorem RdS.one {K : Sk α} {w : World} {g : Nat} {t : TypeId} {cs : Array Value} {x : α} (h : Bk w g t cs) (hc : cs.toList = K.enc x) : RdS K w (some ⟨g, 0, none⟩) [x] := RdS.of_bk h (by simp [hc])

theorem OwnS.nil (K : Sk α) (w : World) (base : Nat) : OwnS K w base (.slice none 0 0) [] := World.ownsRow_nil _ _ _ _
theorem OwnS.alloc {K : Sk α} {w : World} {base : Nat} {v : Value} {xs : List α} (h : OwnS K w base v xs) (o : Obj) : OwnS K (w.alloc o) base v xs := World.ownsRow.alloc h o
theorem OwnS.drewN {K : Sk α} {w : World} {base : Nat} {v : Value} {xs : List α} (h : OwnS K w base v xs) (n : Nat) : OwnS K (w.drewN n) base v xs := h
theorem OwnS.low {K : Sk α} {w : World} {base base' : Nat} {v : Value} {xs : List α} (h : OwnS K w base v xs) (hb : base' ≤ base) : OwnS K w base' v xs := by
  refine ⟨h.1, ?_⟩
  rcases h.2 with h2 | ⟨g, cap, cur, hv, hg, h3⟩
  · exact .inl h2
  · exact .inr ⟨g, cap, cur, hv, by omega, h3⟩
theorem OwnS.only {K : Sk α} {S : List Nat} {w w' : World} {base : Nat} {v : Value} {xs : List α} (h : OwnS K w base v xs) (o : Only S w w') (hS : ∀ g, v.ownBlock = some g → g ∉ S) : OwnS K w' base v xs := by
  refine ⟨h.1, ?_⟩
  rcases h.2 with h2 | ⟨g, cap, cur, hv, hb, hg, h3⟩
  · exact .inl h2
  · have hg' : Bk w g K.e cur := hg
    exact .inr ⟨g, cap, cur, hv, hb, hg'.only o (hS g (by rw [hv]; rfl)), h3⟩
theorem OwnS.block {K : Sk α} {w : World} {base : Nat} {v : Value} {xs : List α} (h : OwnS K w base v xs) {g : Nat} (hg : v.ownBlock = some g) : base ≤ g ∧ g < w.heap.size := by
  rcases h.2 with ⟨hv, _⟩ | ⟨g', cap, cur, hv, hb, hg', _⟩
  · rw [hv] at hg; cases hg
  · rw [hv] at hg
    injection hg with hg
    subst hg
    exact ⟨hb, Bk.lt (t := K.e) (cs := cur) hg'⟩
/-- What such a row's value looks like, and what it reads as. -/
theorem OwnS.form {K : Sk α} {w : World} {base : Nat} {v : Value} {xs : List α} (h : OwnS K w base v xs) :
    ∃ A cap, v = .slice A xs.length cap ∧ xs.length ≤ cap ∧ cap ≤ maxLen ∧ RdS K w A xs ∧ (∀ bl off, A = some ⟨bl, off, none⟩ → base ≤ bl ∧ bl < w.heap.size ∧ off = 0 ∧ v.ownBlock = some bl) := by
  have hb := @OwnS.block _ K w base v xs h
  obtain ⟨h1, h2⟩ := h
  rcases h2 with ⟨rfl, h3⟩ | ⟨g, cap, cur, rfl, hg, hh, hn, hm, hs, ht⟩
  · have : xs = [] := List.eq_nil_of_length_eq_zero h3
    subst this
    exact ⟨none, 0, rfl, Nat.le_refl _, by simp [maxLen], RdS.nil _ _ _, (fun bl off e => by cases e)⟩
  · refine ⟨some ⟨g, 0, none⟩, cap, rfl, hn, hm, RdS.of_cells (Bk.lt (t := K.e) (cs := cur) hh) (fun n v hv => ?_), fun bl off e => ?_⟩
    · rw [Nat.zero_add, Bk.cell (t := K.e) (cs := cur) hh, ← Array.getElem?_toList]
      rw [← ht, List.getElem?_take] at hv
      split at hv
      · exact hv
      · cases hv
    · injection e with e
      injection e with e1 e2
      subst e1
      exact ⟨hg, (hb rfl).2, e2.symm, rfl⟩

/-- append of the things of a slice. -/
theorem appS_run (K : Sk α) (w : World) {base : Nat} {v : Value} {xs : List α} (ty : TypeId) (hown : OwnS K w base v xs) (B : Option Addr) (ys : List α) (cap : Nat) (hR : RdS K w B ys) (hb : base ≤ w.heap.size) (hlen : (xs.length + ys.length) * K.by' ≤ 140737488355328) :
    ∃ v' w', (Builtin.append_ #[K.t, K.t] ty #[v, .slice B ys.length cap]).run Try.prog w = .ok v' w' ∧ OwnS K w' base v' (xs ++ ys) ∧ w.grownBy w' v.ownBlock ∧ (v'.ownBlock = v.ownBlock ∨ v'.ownBlock = some w.heap.size) := by
  have hbytes := hlen
  have h63 : xs.length + ys.length ≤ maxLen := by have := Nat.le_trans (Nat.le_mul_of_pos_right _ K.hb0) hlen; simp only [maxLen]; omega
  have main : ∀ ad : Addr, (∀ j u, (ys.flatMap K.enc)[j]? = some u → w.cell? (ad.add j) = some u) →
      ∃ v' w', (Builtin.append_ #[K.t, K.t] ty #[v, .slice (some ad) ys.length cap]).run Try.prog w = .ok v' w' ∧ OwnS K w' base v' (xs ++ ys) ∧ w.grownBy w' v.ownBlock ∧ (v'.ownBlock = v.ownBlock ∨ v'.ownBlock = some w.heap.size) := by
    intro ad hc
    obtain ⟨v', w', hr, h2, h3, _, h5⟩ := run_append_own_at (P := Try.prog) w base K.t ty K.e K.i K.z K.k K.by' K.ht K.hi K.hz K.hk K.hb K.hzs K.h0 v xs.length (xs.flatMap K.enc) hown ad ys.length cap (ys.flatMap K.enc)
      (flat_len K ys) hc (by intro u hu; obtain ⟨n, _, hn⟩ := List.mem_flatMap.1 hu; exact K.hone n u hn) h63 hbytes hb
    refine ⟨v', w', hr, ?_, h3, h5⟩
    unfold OwnS
    rw [List.length_append, List.flatMap_append]
    exact h2
  cases B with
  | none =>
    rcases hR with rfl | ⟨bl, off, e, _⟩
    · refine ⟨v, w, ?_, by simpa using hown, World.grownBy.refl _ _, .inl rfl⟩
      rcases hown.2 with ⟨rfl, _⟩ | ⟨g, c, cur, rfl, _, _, hnc, _⟩
      · simp [Builtin.append_, run_underlying K.ht, sizeOf, typeInfo, K.hi, Builtin.lenOf, Builtin.firstCells]
      · simp [Builtin.append_, run_underlying K.ht, sizeOf, typeInfo, K.hi, Builtin.lenOf, Builtin.firstCells, hnc, storeCells]
    · cases e
  | some ad => exact main ad hR.cells
theorem wpList_appS (K : Sk α) (w : World) {ops : Array Oper} {rest : List Oper} {o : Oper} {a : Act} {Q : Exit → Act → World → Prop} (hgd : o.guard = none) (s x : Operand)
    (ho : o.op = .call { callee := .builtin .append, args := #[s, x], argTypes := #[K.t, K.t] })
    {base : Nat} {v : Value} {xs : List α} (hs : a.eval s = v) (hown : OwnS K w base v xs) (B : Option Addr) (ys : List α) (m cap : Nat) (hx : a.eval x = .slice B m cap) (hm : m = ys.length) (hR : RdS K w B ys) (hb : base ≤ w.heap.size) (hlen : (xs.length + ys.length) * K.by' ≤ 140737488355328)
    (h : ∀ v' w', OwnS K w' base v' (xs ++ ys) → w.grownBy w' v.ownBlock → (v'.ownBlock = v.ownBlock ∨ v'.ownBlock = some w.heap.size) → wpList Try.prog ops Q rest (a.put o.dst v') w') : wpList Try.prog ops Q (o :: rest) a w := by
  subst hm
  obtain ⟨v', w', hr, h2, h3, h4⟩ := appS_run K w o.type hown B ys cap hR hb hlen
  refine wpList_plain hgd fun _ hK => ?_
  unfold Oper.wp execOp
  simp only [ho, resolve, invoke, builtin, Sem.run_bind, Sem.run_pure, Result.andThen_ok, List.map_toArray, List.map_cons, List.map_nil, hs, hx, hr]
  exact hK _ _ (h v' w' h2 h3 h4)

/-- append of one thing, at a step of a region that draws: for go_region_law. Behind it: intro g cap w1 hown hgrow hat hlt. -/
theorem step_appS (K : Sk α) {w : World} {ops : Array Oper} {o : Oper} {a : Act} {KK : Act → World → Prop} {Q : Exit → Act → World → Prop} {E : Prop} (hgd : o.guard = none) (s x : Operand)
    (ho : o.op = .call { callee := .builtin .append, args := #[s, x], argTypes := #[K.t, K.t] })
    {base : Nat} {v : Value} {xs : List α} (hs : a.eval s = v) (hown : OwnS K w base v xs) (gb : Nat) (y : α) (hx : a.eval x = .slice (some ⟨gb, 0, none⟩) 1 1) (hR : RdS K w (some ⟨gb, 0, none⟩) [y]) (hb : base ≤ w.heap.size) (hlen : (xs.length + 1) * K.by' ≤ 140737488355328) (H : Nat) (hH : w.heap.size = H)
    (h : ∀ g cap w', OwnS K w' base (.slice (some ⟨g, 0, none⟩) (xs.length + 1) cap) (xs ++ [y]) → w.grownBy w' v.ownBlock → (v.ownBlock = some g ∨ g = H) → g < w'.heap.size → KK (a.put o.dst (.slice (some ⟨g, 0, none⟩) (xs.length + 1) cap)) w') :
    if Region.wanted o (yielded ops a.tmps) = true then Oper.wp Try.prog o a w KK Q else E := by
  have hbytes := hlen
  have h63 : xs.length + 1 ≤ maxLen := by have := Nat.le_trans (Nat.le_mul_of_pos_right _ K.hb0) hlen; simp only [maxLen]; omega
  refine step_append_lies (P := Try.prog) w hgd s x K.t ho base K.e K.i K.z K.k K.by' K.ht K.hi K.hz K.hk K.hb K.hzs K.h0 v xs.length (xs.flatMap K.enc) hs hown ⟨gb, 0, none⟩ 1 1 (K.enc y) hx (by rw [K.henc]; omega) ?_ (K.hone y) (by omega) h63 hbytes hb H hH ?_
  · intro j u hj
    exact hR.cells j u (by simpa using hj)
  · intro g cap w' h1 h2 h3 h4
    refine h g cap w' ?_ h2 h3 h4
    unfold OwnS
    rw [List.length_append, List.flatMap_append]
    simpa using h1

theorem OwnS.own_ge {K : Sk α} {w : World} {base : Nat} {v : Value} {xs : List α} (h : OwnS K w base v xs) : ∀ i ∈ v.ownBlock.toList, base ≤ i ∧ i < w.heap.size := fun i hi => h.block (by simpa using hi)
/-- What an append leaves alone: blocks ahead of the call's own; all that was there ahead of the call. -/
theorem OwnS.keep {K : Sk α} {w w1 : World} {base : Nat} {v : Value} {xs : List α} (h : OwnS K w base v xs) (hg : w.grownBy w1 v.ownBlock) {b : Nat} {t : TypeId} {cs : Array Value} (hb : Bk w b t cs) (hlt : b < base) : Bk w1 b t cs :=
  hb.only (Only.of_grown hg) fun hm => by have := (h.own_ge b hm).1; omega
theorem OwnS.goes {K : Sk α} {w0 w w1 : World} {base : Nat} {v : Value} {xs : List α} {S : List Nat} (h : OwnS K w base v xs) (hg : w.grownBy w1 v.ownBlock) (o : Only S w0 w) (hb : w0.heap.size ≤ base) : Only S w0 w1 :=
  o.trans (Only.of_grown hg) fun i hi => .inr (by have := (h.own_ge i hi).1; omega)

/-! ### What an argument is -/
theorem oks_list {w : World} {ks : List Kd} {enc : α → List Value} {Good : α → Prop} (dec : ∀ cs, Oks w ks cs → ∃ a, Good a ∧ cs = enc a) : ∀ (n : Nat) {f : Nat → List Value → Prop}, (∀ i, i < n → ∃ cs, Oks w ks cs ∧ f i cs) → ∃ xs : List α, xs.length = n ∧ (∀ x ∈ xs, Good x) ∧ ∀ i x, xs[i]? = some x → f i (enc x)
  | 0, _, _ => ⟨[], rfl, by simp, by simp⟩
  | n + 1, f, h => by
    obtain ⟨xs, h1, h2, h3⟩ := oks_list dec n (f := f) (fun i hi => h i (by omega))
    obtain ⟨cs, o, hf⟩ := h n (by omega)
    obtain ⟨a, ga, rfl⟩ := dec cs o
    refine ⟨xs ++ [a], by simp [h1], fun x hx => ?_, fun i x hi => ?_⟩
    · rcases List.mem_append.1 hx with hx | hx
      · exact h2 x hx
      · rw [List.mem_singleton.1 hx]; exact ga
    · by_cases hl : i < xs.length
      · rw [List.getElem?_append_left hl] at hi
        exact h3 i x hi
      · rw [List.getElem?_append_right (by omega)] at hi
        by_cases h0 : i - xs.length = 0
        · rw [h0] at hi
          simp at hi
          subst hi
          rw [show i = n by omega]
          exact hf
        · rw [List.getElem?_eq_none (by simp; omega)] at hi
          cases hi
/-- A slice that came in reads as a list of things that may be. -/
theorem RdS.of_ok (K : Sk α) {Good : α → Prop} {w : World} {ks : List Kd} (hk : ks.length = K.k) (dec : ∀ cs, Oks w ks cs → ∃ a, Good a ∧ cs = K.enc a) {v : Value} (h : Kd.ok w (.l ks K.by') v) :
    ∃ A xs cap, v = .slice A xs.length cap ∧ xs.length ≤ cap ∧ cap ≤ 9223372036854775807 ∧ xs.length * K.by' + 4096 ≤ 140737488355328 ∧ RdS K w A xs ∧ ∀ x ∈ xs, Good x := by
  simp only [Kd.ok] at h
  obtain ⟨A, len, cap, rfl, h1, h2, h3, h4⟩ := h
  rcases h4 with rfl | ⟨bl, off, rfl, hb, hc⟩
  · exact ⟨A, [], cap, rfl, h1, h2, h3, RdS.nil _ _ _, by simp⟩
  · obtain ⟨xs, e, g, hx⟩ := oks_list dec len hc
    subst e
    exact ⟨_, xs, cap, rfl, h1, h2, h3, .inr ⟨bl, off, rfl, hb, fun i x hi j v hv => by rw [← hk]; exact hx i x hi j v hv⟩, g⟩

theorem Bk.newAt {w : World} {t : TypeId} {cs : Array Value} {b : Nat} (h : b = w.heap.size) : Bk (w.alloc (.cells cs t)) b t cs := by
  subst h
  exact Bk.made w t cs
theorem retI {a b : Int} (h : a = b) : Ending.returned (.int .i64 a) = .returned (.int .i64 b) := by rw [h]
theorem retB {a b : Bool} (h : a = b) : Ending.returned (.bool a) = .returned (.bool b) := by rw [h]
theorem some_at {α : Type} {l : List α} {i : Nat} (h : i < l.length) : ∃ x, l[i]? = some x := ⟨l[i], List.getElem?_eq_getElem h⟩
end Go.Proofs.Ytcchahgfjnphgaa
