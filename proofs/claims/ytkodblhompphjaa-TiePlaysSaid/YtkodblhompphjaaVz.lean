/- The library's sort of a row of the call's own: pids, ties. Ranges over the program's two maps. What is told, in order: plain mathematics. The program's Watchers. -/
import Derived.Test.YtkodblhompphjaaVm
import Derived.Test.YtkodblhompphjaaShelf
namespace Go.Proofs.Ytkodblhompphjaa
open Go.RowKit Go.Sort
set_option maxRecDepth 20000
variable {α : Type} [Inhabited α]

theorem flatK_list (K : Sk α) (xs : List α) : (flatK K.enc K.k xs.toArray).toList = xs.flatMap K.enc := by
  have h0 := K.h0
  apply List.ext_getElem?
  intro t
  by_cases ht : t < xs.length * K.k
  · have hi : t / K.k < xs.length := Nat.div_lt_of_lt_mul (by rw [Nat.mul_comm]; exact ht)
    have hj : t % K.k < K.k := Nat.mod_lt _ h0
    obtain ⟨x, hx⟩ := some_at hi
    have hv : (K.enc x)[t % K.k]? = some ((K.enc x)[t % K.k]!) := by
      rw [getElem!_pos (K.enc x) _ (by rw [K.henc]; exact hj)]
      exact List.getElem?_eq_getElem _
    have := flat_at K hx hv
    rw [Nat.div_add_mod' t K.k] at this
    rw [this, Array.getElem?_toList]
    unfold flatK
    rw [Array.getElem?_map, Array.getElem?_range]
    simp only [List.size_toArray, if_pos ht, Option.map_some]
    have : xs.toArray[t / K.k]! = x := by
      rw [getElem!_pos xs.toArray _ (by simpa using hi)]
      rw [List.getElem?_eq_getElem hi] at hx
      injection hx
    rw [this]
  · rw [List.getElem?_eq_none (by rw [Array.length_toList, size_flatK, List.size_toArray]; omega), List.getElem?_eq_none (by rw [flat_len]; omega)]
theorem holds_own (K : Sk α) {w : World} {g : Nat} {e : TypeId} {cur : Array Value} {xs : List α} (hb : Bk w g e cur) (ht : cur.toList.take (xs.length * K.k) = xs.flatMap K.enc) : HoldsK K.enc K.k w g 0 xs.toArray := by
  intro j hj
  have hj' : j < xs.length * K.k := by simpa using hj
  refine ⟨?_, hb.free _⟩
  have h1 := flatK_list K xs
  have h2 : (flatK K.enc K.k xs.toArray)[j]! = (xs.flatMap K.enc)[j]'(by rw [flat_len]; exact hj') := by
    rw [getElem!_pos (flatK K.enc K.k xs.toArray) j hj, ← Array.getElem_toList]
    simp only [h1]
  rw [Nat.zero_add, hb.cell, h2, ← Array.getElem?_toList]
  have h3 : (cur.toList.take (xs.length * K.k))[j]? = (xs.flatMap K.enc)[j]? := by rw [ht]
  rw [List.getElem?_take_of_lt hj'] at h3
  rw [h3, List.getElem?_eq_getElem (by rw [flat_len]; exact hj')]
  rfl
theorem own_sorted (K : Sk α) {w : World} {base g cap : Nat} {xs ys : List α} {e : TypeId} {cur : Array Value} (n : Nat) (os : Array Obj) (hl : ys.length = xs.length) (hg : base ≤ g) (he : e = K.e) (hb : Bk w g e cur) (h1 : xs.length ≤ cap) (h2 : cap ≤ maxLen) (h3 : cur.size = cap * K.k) :
    OwnS K (sortWorldK K.enc K.k w g 0 n ys.toArray os) base (.slice (some ⟨g, 0, none⟩) xs.length cap) ys ∧ Only [g] w (sortWorldK K.enc K.k w g 0 n ys.toArray os) := by
  subst he
  have hlt := hb.lt
  constructor
  · refine ⟨flat_len K ys, .inr ⟨g, cap, putCells id 0 (flatK K.enc K.k ys.toArray) cur, by rw [hl], hg, ?_, by omega, h2, ?_, ?_⟩⟩
    · unfold sortWorldK putRowK
      rw [heap_grow_old _ _ (by simp [putRow, mapBlock, Sort.ahead]; exact hlt)]
      unfold Bk at hb
      simp [putRow, mapBlock, Sort.ahead, Array.getElem?_modify, hb, onCells]
    · simp [putCells, h3]
    · have hsz : ys.length * K.k ≤ cur.size := by rw [h3, hl]; exact Nat.mul_le_mul_right _ h1
      rw [← flatK_list K ys]
      apply List.ext_getElem?
      intro j
      by_cases hj : j < ys.length * K.k
      · rw [List.getElem?_take_of_lt hj, Array.getElem?_toList, Array.getElem?_toList]
        have hj2 : j < (flatK K.enc K.k ys.toArray).size := by rw [size_flatK]; simpa using hj
        rw [Array.getElem?_eq_getElem hj2]
        simp [putCells, hj, show j < cur.size by omega]
      · rw [List.getElem?_take_eq_none (by omega), List.getElem?_eq_none (by rw [Array.length_toList, size_flatK, List.size_toArray]; omega)]
  · refine ⟨rfl, rfl, rfl, by simp [sortWorldK, putRowK, putRow, mapBlock, Sort.ahead], fun k hk hne => ?_⟩
    unfold sortWorldK putRowK
    rw [heap_grow_old _ _ (by simp [putRow, mapBlock, Sort.ahead]; exact hk)]
    have : g ≠ k := fun e => hne (by simp [e])
    simp [putRow, mapBlock, Sort.ahead, Array.getElem?_modify, this]
/-- The sort of a row of the call's own, by its contract. -/
theorem sort_of (K : Sk α) {f : Nat} {fv : Value} {lt : α → α → Bool}
    (hs : ∀ (blk cap : Nat) (d : Array α) (w : World), HoldsK K.enc K.k w blk 0 d → blk < w.heap.size → d.size < 4611686018427387904 →
      Calls Try.prog f #[.slice (some ⟨blk, 0, none⟩) d.size cap, fv] w fun e w' => e = .returned (.tuple #[]) ∧ ∃ d' n os, PermIn 0 d.size d d' ∧ SortedIn lt 0 d.size d' ∧ w' = sortWorldK K.enc K.k w blk 0 n d' os)
    (hn : ∀ w, Calls Try.prog f #[.slice none 0 0, fv] w fun e w' => e = .returned (.tuple #[]) ∧ w' = w)
    {w : World} {base : Nat} {v : Value} {xs : List α} (h : OwnS K w base v xs) (hl : xs.length < 4611686018427387904) :
    Calls Try.prog f #[v, fv] w fun e w' => e = .returned (.tuple #[]) ∧ ∃ ys : List α, ys.Perm xs ∧ ys.Pairwise (fun x y => lt y x = false) ∧ OwnS K w' base v ys ∧ Only v.ownBlock.toList w w' := by
  rcases h.2 with ⟨rfl, h0⟩ | ⟨g, cap, cur, rfl, hg, hb, h1, h2, h3, h4⟩
  · have : xs = [] := List.eq_nil_of_length_eq_zero h0
    subst this
    exact (hn w).mono fun e w' ⟨he, hw⟩ => ⟨he, [], List.Perm.refl _, List.Pairwise.nil, by rw [hw]; exact OwnS.nil _ _ _, by rw [hw]; exact Only.refl _ _⟩
  · have hbk : Bk w g K.e cur := hb
    have hc := hs g cap xs.toArray w (holds_own K hbk h4) hbk.lt (by simpa using hl)
    simp only [List.size_toArray] at hc
    refine hc.mono fun e w' ⟨he, d', n, os, ⟨p1, _, p3⟩, hso, hw⟩ => ?_
    have hsz : d'.size = xs.length := by simpa using p1
    have hd : d' = d'.toList.toArray := by simp
    have hp : d'.toList.Perm xs := by
      have e1 : (d'.extract 0 xs.length).toList = d'.toList := by rw [← hsz]; simp
      have e2 : (xs.toArray.extract 0 xs.length).toList = xs := by simp
      rw [e1, e2] at p3
      exact p3
    obtain ⟨r1, r2⟩ := own_sorted K (ys := d'.toList) n os (by simpa using hsz) hg rfl hbk h1 h2 h3
    rw [← hd, ← hw] at r1 r2
    refine ⟨he, d'.toList, hp, ?_, r1, r2⟩
    rw [List.pairwise_iff_getElem]
    intro i j hi hj hij
    have := hso i j (Nat.zero_le _) hij (by rw [Array.length_toList] at hj; omega)
    rw [Array.length_toList] at hi hj
    rw [getElem!_pos d' i hi, getElem!_pos d' j hj] at this
    simpa using this
instance : Inhabited Pd := ⟨⟨0, 0⟩⟩
instance : Inhabited Te := ⟨⟨0, ⟨0, 0⟩, ⟨0, 0⟩⟩⟩
theorem swoP : SWO (Go.Proofs.ltOf cfP) := by
  have e : Go.Proofs.ltOf cfP = befP := by
    funext x y
    exact cfP_lt x y
  rw [e]
  refine ⟨fun x => befP_irr, fun x y z => befP_trans, fun x y z h k => ?_⟩
  cases h3 : befP x z with
  | false => rfl
  | true =>
    cases h4 : befP y x with
    | true => rw [befP_trans h4 h3] at k; cases k
    | false => obtain rfl := befP_tri h h4; rw [h3] at k; cases k
def ltT (x y : Te) : Bool := decide (cfT x y < 0)
theorem ltT_iff {x y : Te} : ltT x y = true ↔ if (x.r != 0 || y.r != 0) = true then x.r < y.r else (befP x.a y.a = true ∨ (x.a = y.a ∧ befP x.b y.b = true)) := by
  unfold ltT
  rw [decide_eq_true_eq, cfT_lt]
theorem swoT : SWO (Go.Proofs.ltOf cfT) := by
  have e : Go.Proofs.ltOf cfT = ltT := by
    funext x y
    rfl
  rw [e]
  have cases2 : ∀ {x y : Te}, ltT x y = true ↔ (¬ (x.r = 0 ∧ y.r = 0) ∧ x.r < y.r) ∨ ((x.r = 0 ∧ y.r = 0) ∧ (befP x.a y.a = true ∨ (x.a = y.a ∧ befP x.b y.b = true))) := fun {x y} => by
    rw [ltT_iff]
    by_cases h1 : x.r = 0 <;> by_cases h2 : y.r = 0 <;> simp [h1, h2]
  have irr : ∀ x, ltT x x = false := fun x => by
    cases h : ltT x x with
    | false => rfl
    | true =>
      rcases cases2.1 h with h | ⟨_, h | h⟩
      · omega
      · rw [befP_irr] at h; cases h
      · rw [befP_irr] at h; cases h.2
  have tr : ∀ x y z, ltT x y = true → ltT y z = true → ltT x z = true := fun x y z h k => by
    rw [cases2] at h k ⊢
    rcases h with h | ⟨h0, h⟩
    · rcases k with k | ⟨k0, k⟩
      · exact .inl ⟨by omega, by omega⟩
      · exact .inl ⟨by omega, by omega⟩
    · rcases k with k | ⟨k0, k⟩
      · exact .inl ⟨by omega, by omega⟩
      · refine .inr ⟨⟨h0.1, k0.2⟩, ?_⟩
        rcases h with h1 | ⟨h1, h2⟩
        · rcases k with k1 | ⟨k1, k2⟩
          · exact .inl (befP_trans h1 k1)
          · rw [← k1]; exact .inl h1
        · rcases k with k1 | ⟨k1, k2⟩
          · rw [h1]; exact .inl k1
          · exact .inr ⟨h1.trans k1, befP_trans h2 k2⟩
  have same : ∀ x y, ltT x y = false → ltT y x = false → x.r = y.r ∧ (x.r = 0 → x = y) := fun x y h k => by
    have h' : ¬ _ := fun hh => by rw [cases2.2 hh] at h; cases h
    have k' : ¬ _ := fun hh => by rw [cases2.2 hh] at k; cases k
    have e : x.r = y.r := by
      by_cases h0 : x.r = 0 ∧ y.r = 0
      · omega
      · have h1 : ¬ x.r < y.r := fun hl => h' (.inl ⟨h0, hl⟩)
        have h2 : ¬ y.r < x.r := fun hl => k' (.inl ⟨by omega, hl⟩)
        omega
    refine ⟨e, fun h0 => ?_⟩
    have h1 : befP x.a y.a = false := by
      cases hh : befP x.a y.a with
      | false => rfl
      | true => exact absurd (.inr ⟨⟨h0, by omega⟩, .inl hh⟩) h'
    have h2 : befP y.a x.a = false := by
      cases hh : befP y.a x.a with
      | false => rfl
      | true => exact absurd (.inr ⟨⟨by omega, h0⟩, .inl hh⟩) k'
    have ea := befP_tri h1 h2
    have h3 : befP x.b y.b = false := by
      cases hh : befP x.b y.b with
      | false => rfl
      | true => exact absurd (.inr ⟨⟨h0, by omega⟩, .inr ⟨ea, hh⟩⟩) h'
    have h4 : befP y.b x.b = false := by
      cases hh : befP y.b x.b with
      | false => rfl
      | true => exact absurd (.inr ⟨⟨by omega, h0⟩, .inr ⟨ea.symm, hh⟩⟩) k'
    have eb := befP_tri h3 h4
    obtain ⟨xr, xa, xb⟩ := x
    obtain ⟨yr, ya, yb⟩ := y
    simp only at e ea eb
    rw [e, ea, eb]
  refine ⟨irr, tr, fun x y z h k => ?_⟩
  cases h3 : ltT x z with
  | false => rfl
  | true =>
    exfalso
    cases h4 : ltT y x with
    | true => rw [tr y x z h4 h3] at k; cases k
    | false =>
      obtain ⟨e1, e2⟩ := same x y h h4
      by_cases h0 : x.r = 0
      · rw [e2 h0] at h3; rw [h3] at k; cases k
      · rcases cases2.1 h3 with h5 | h5
        · have : ltT y z = true := cases2.2 (.inl ⟨by omega, by omega⟩)
          rw [this] at k; cases k
        · omega
theorem sortP_any {w : World} {base : Nat} {v : Value} {xs : List Pd} (h : OwnS KP w base v xs) (hl : xs.length < 4611686018427387904) :
    Calls Try.prog 43 #[v, .func (.func 44) #[] #[]] w fun e w' => e = .returned (.tuple #[]) ∧ ∃ ys : List Pd, ys.Perm xs ∧ ys.Pairwise (fun x y => befP y x = false) ∧ OwnS KP w' base v ys ∧ Only v.ownBlock.toList w w' := by
  have e : ∀ x y, Go.Proofs.ltOf cfP x y = befP x y := fun x y => cfP_lt x y
  have := sort_of KP (f := 43) (fv := .func (.func 44) #[] #[]) (lt := Go.Proofs.ltOf cfP)
    (fun blk cap d w hH hb hs => Go.Proofs.AnyQ.slices_SortFunc Go.Proofs.Try.sortPid 2 Try.isAgg32 Try.sizeOf32 encP (fun _ => rfl) KP.hone cfP swoP 44 #[] blk 0 cap d w
      (enters_of Try.func44 (by kernel_rfl) rfl) (fun m os dk _ x y => (cmpPids_any x y _).mono fun _ _ ⟨he, hg⟩ => ⟨he, hg.grown⟩) hH hb hs)
    (fun w => Go.Proofs.AnyF.slices_SortFunc_none Go.Proofs.Try.sortPid none 0 _ w) h hl
  simpa only [e] using this
theorem sortT_any {w : World} {base : Nat} {v : Value} {xs : List Te} (h : OwnS KT w base v xs) (hl : xs.length < 4611686018427387904) :
    Calls Try.prog 50 #[v, .func (.func 38) #[] #[]] w fun e w' => e = .returned (.tuple #[]) ∧ ∃ ys : List Te, ys.Perm xs ∧ ys.Pairwise (fun x y => ltT y x = false) ∧ OwnS KT w' base v ys ∧ Only v.ownBlock.toList w w' := by
  have e : ∀ x y, Go.Proofs.ltOf cfT x y = ltT x y := fun x y => rfl
  have := sort_of KT (f := 50) (fv := .func (.func 38) #[] #[]) (lt := Go.Proofs.ltOf cfT)
    (fun blk cap d w hH hb hs => Go.Proofs.AnyQ.slices_SortFunc Go.Proofs.Try.sortTie 5 Try.isAgg45 Try.sizeOf45 encT (fun _ => rfl) KT.hone cfT swoT 38 #[] blk 0 cap d w
      (enters_of Try.func38 (by kernel_rfl) rfl) (fun m os dk _ x y => (cmpTies_any x y _).mono fun _ _ ⟨he, hg⟩ => ⟨he, hg.grown⟩) hH hb hs)
    (fun w => Go.Proofs.AnyF.slices_SortFunc_none Go.Proofs.Try.sortTie none 0 _ w) h hl
  simpa only [e] using this
end Go.Proofs.Ytkodblhompphjaa

namespace Go.Proofs.Ytkodblhompphjaa
open Go.RowKit Go.Maps
set_option maxRecDepth 20000

theorem ranges_only {k : TypeId} {R : Value → Option (DataW Unit × List MemPlace)} {w w' : World} {b r n : Nat} {D : DataW Unit} {left : Lit → Bool} {cnt : Nat} {T : List Nat} (h : w.ranges Try.prog k R b r n D left cnt) (o : Only T w w') (h1 : b ∉ T) (h2 : r ∉ T) : w'.ranges Try.prog k R b r n D left cnt := by
  have l1 := h.owns.lt
  have l2 := h.lt
  obtain ⟨es, clock, since, seen, c0, hb, F, hs, hD, hr, rest⟩ := h
  exact ⟨es, clock, since, seen, c0, (o.block b l1 h1).trans hb, F, hs, hD, (o.block r l2 h2).trans hr, rest⟩
/-- A range over a map of pairs is under way: of S those of c have come. -/
def LkIt (w : World) (g r : Nat) (S c : List Te) : Prop := ∃ D n left cnt, w.ranges Try.prog 75 unitElem g r n D left cnt ∧ Ents kL dL D S ∧ Came kL S left c
def MnIt (w : World) (g r : Nat) (S c : List Te) : Prop := ∃ D n left cnt, w.ranges Try.prog 3 tieR g r n D left cnt ∧ Ents kM dM D S ∧ Came kM S left c
theorem LkIt.only {T : List Nat} {w w' : World} {g r : Nat} {S c : List Te} (h : LkIt w g r S c) (o : Only T w w') (h1 : g ∉ T) (h2 : r ∉ T) : LkIt w' g r S c ∧ w'.rangeLeft g r = w.rangeLeft g r := by
  obtain ⟨D, n, left, cnt, h3, h4⟩ := h
  have h5 := ranges_only h3 o h1 h2
  exact ⟨⟨D, n, left, cnt, h5, h4⟩, by rw [h5.left_eq, h3.left_eq]⟩
theorem MnIt.only {T : List Nat} {w w' : World} {g r : Nat} {S c : List Te} (h : MnIt w g r S c) (o : Only T w w') (h1 : g ∉ T) (h2 : r ∉ T) : MnIt w' g r S c ∧ w'.rangeLeft g r = w.rangeLeft g r := by
  obtain ⟨D, n, left, cnt, h3, h4⟩ := h
  have h5 := ranges_only h3 o h1 h2
  exact ⟨⟨D, n, left, cnt, h5, h4⟩, by rw [h5.left_eq, h3.left_eq]⟩
theorem LkIt.len {w : World} {g r : Nat} {S c : List Te} (h : LkIt w g r S c) : c.length ≤ S.length := by
  obtain ⟨_, _, _, _, _, _, h⟩ := h
  exact h.len
theorem MnIt.len {w : World} {g r : Nat} {S c : List Te} (h : MnIt w g r S c) : c.length ≤ S.length := by
  obtain ⟨_, _, _, _, _, _, h⟩ := h
  exact h.len
theorem LkIt.mem {w : World} {g r : Nat} {S c : List Te} (h : LkIt w g r S c) : ∀ x ∈ c, x ∈ S := by
  obtain ⟨_, _, _, _, _, _, h⟩ := h
  exact fun x hx => ((h.2 x).1 hx).1
theorem MnIt.mem {w : World} {g r : Nat} {S c : List Te} (h : MnIt w g r S c) : ∀ x ∈ c, x ∈ S := by
  obtain ⟨_, _, _, _, _, _, h⟩ := h
  exact fun x hx => ((h.2 x).1 hx).1
section
variable (w : World) {ops : Array Oper} {rest : List Oper} {o : Oper} {a : Act} {Q : Exit → Act → World → Prop}
theorem wpList_range_lk (hg : o.guard = none) (m : Operand) (hop : o.op = Op.range mpL m) {g : Nat} {S : List Te} (hm : a.eval m = .map (some g)) (h : LkM w g S) (hS : ∀ x ∈ S, LkT x)
    (hK : ∀ w', LkIt w' g w.heap.size S [] → Only [] w w' → w'.heap.size = w.heap.size + 1 → wpList Try.prog ops Q rest (a.put o.dst (.pointer (some ⟨w.heap.size, 0, none⟩))) w') :
    wpList Try.prog ops Q (o :: rest) a w := by
  obtain ⟨D, n, h1, h2⟩ := h
  exact wpList_range_own w hg m mpL hop 75 76 keyPair Try.underlying58 unitElem g n D hm h1 fun w' hr hgr hsz => hK w' ⟨D, n, _, _, hr, h2, Came.start h2 (lk_keys hS)⟩ (Only.of_grown hgr) hsz
theorem wpList_range_mn (hg : o.guard = none) (m : Operand) (hop : o.op = Op.range mpM m) {g : Nat} {S : List Te} (hm : a.eval m = .map (some g)) (h : MnM w g S) (hS : MnS S)
    (hK : ∀ w', MnIt w' g w.heap.size S [] → Only [] w w' → w'.heap.size = w.heap.size + 1 → wpList Try.prog ops Q rest (a.put o.dst (.pointer (some ⟨w.heap.size, 0, none⟩))) w') :
    wpList Try.prog ops Q (o :: rest) a w := by
  obtain ⟨D, n, h1, h2⟩ := h
  exact wpList_range_own w hg m mpM hop 3 45 keyInt Try.underlying59 tieR g n D hm h1 fun w' hr hgr hsz => hK w' ⟨D, n, _, _, hr, h2, Came.start h2 (mn_keys hS)⟩ (Only.of_grown hgr) hsz
theorem wpList_next_lk (hg : o.guard = none) (it : Operand) (hop : o.op = Op.next it false) {g r : Nat} {S c : List Te} (hit : a.eval it = .pointer (some ⟨r, 0, none⟩)) (h : LkIt w g r S c) (hS : ∀ x ∈ S, LkT x) (hnd : S.Nodup)
    (hDone : c.Perm S → wpList Try.prog ops Q rest (a.put o.dst (.tuple #[.bool false])) w)
    (hMore : ∀ (t : Te) (w' : World), t ∈ S → LkIt w' g r S (c ++ [t]) → w'.rangeLeft g r < w.rangeLeft g r → Only [r] w w' → w'.heap.size = w.heap.size →
      (Instr.entry (.pointer (some ⟨r, 0, none⟩))).run Try.prog w' = .ok (.tuple #[.agg (prC t), .agg #[]]) w' → wpList Try.prog ops Q rest (a.put o.dst (.tuple #[.bool true, .agg (prC t), .agg #[]])) w') :
    wpList Try.prog ops Q (o :: rest) a w := by
  obtain ⟨D, n, left, cnt, h1, h2, h3⟩ := h
  refine wpList_plain hg fun K' hK' => ?_
  unfold Oper.wp
  rcases h1.next keyPair o.type with ⟨h0, hl, hrun⟩ | ⟨key, v, kl, y, w', cnt', hkey, hlk, hv, hat, hrun, hrg, hlt, hgr, hsz, hen⟩
  · simp [execOp, hop, hit, hrun, Result.andThen]
    exact hK' _ _ (hDone (h3.perm hnd hl))
  · obtain ⟨t, ht, rfl, _⟩ := h2.at_ hat
    obtain ⟨a1, a2, -⟩ := okTie_ab (hS t ht).1
    obtain rfl := keyPair.inj hkey (kL_of a1 a2)
    obtain ⟨rfl, _⟩ := unitElem_inv hv
    simp [execOp, hop, hit, hrun, Result.andThen]
    exact hK' _ _ (hMore t w' ht ⟨D, n, _, _, hrg, h2, h3.step (lk_keys hS) ht hlk⟩ (by rw [hrg.left_eq, h1.left_eq]; exact hlt) (Only.of_grown hgr) hsz hen)
theorem wpList_next_mn (hg : o.guard = none) (it : Operand) (hop : o.op = Op.next it false) {g r : Nat} {S c : List Te} (hit : a.eval it = .pointer (some ⟨r, 0, none⟩)) (h : MnIt w g r S c) (hS : MnS S) (hnd : S.Nodup)
    (hDone : c.Perm S → wpList Try.prog ops Q rest (a.put o.dst (.tuple #[.bool false])) w)
    (hMore : ∀ (t : Te) (w' : World), t ∈ S → MnIt w' g r S (c ++ [t]) → w'.rangeLeft g r < w.rangeLeft g r → Only [r] w w' → w'.heap.size = w.heap.size →
      (Instr.entry (.pointer (some ⟨r, 0, none⟩))).run Try.prog w' = .ok (.tuple #[.int .i64 t.r, .agg t.cs]) w' → wpList Try.prog ops Q rest (a.put o.dst (.tuple #[.bool true, .int .i64 t.r, .agg t.cs])) w') :
    wpList Try.prog ops Q (o :: rest) a w := by
  obtain ⟨D, n, left, cnt, h1, h2, h3⟩ := h
  refine wpList_plain hg fun K' hK' => ?_
  unfold Oper.wp
  rcases h1.next keyInt o.type with ⟨h0, hl, hrun⟩ | ⟨key, v, kl, y, w', cnt', hkey, hlk, hv, hat, hrun, hrg, hlt, hgr, hsz, hen⟩
  · simp [execOp, hop, hit, hrun, Result.andThen]
    exact hK' _ _ (hDone (h3.perm hnd hl))
  · obtain ⟨t, ht, rfl, e2⟩ := h2.at_ hat
    have h0 := okTie_ab (hS.1 t ht).1
    obtain rfl := keyInt.inj hkey (kM_of (r := t.r) (by omega))
    obtain ⟨t', rfl, rfl⟩ := tieR_inv hv
    obtain rfl := dM_inj e2
    simp [execOp, hop, hit, hrun, Result.andThen]
    exact hK' _ _ (hMore t w' ht ⟨D, n, _, _, hrg, h2, h3.step (mn_keys hS) ht hlk⟩ (by rw [hrg.left_eq, h1.left_eq]; exact hlt) (Only.of_grown hgr) hsz hen)
end
theorem mayT_nodup {l : List Te} (h : MayT l) : l.Nodup := by
  have hs := mayT_srt h
  have ok := mayT_ok h
  refine List.Pairwise.imp_of_mem ?_ hs
  rintro a b ha hb hab rfl
  rw [aheadT_iff (okTie_r (ok a ha)) (okTie_r (ok a ha))] at hab
  rcases hab with h | h | ⟨_, _, h | h⟩
  · omega
  · omega
  · rw [befP_irr] at h; cases h
  · rw [befP_irr] at h; cases h.2
theorem lks_nodup {l : List Te} (h : MayT l) : (lks l).Nodup := (mayT_nodup h).filter _
theorem mns_nodup {l : List Te} (h : MayT l) : (mns l).Nodup := (mayT_nodup h).filter _
end Go.Proofs.Ytkodblhompphjaa

namespace Go.Proofs.Ytkodblhompphjaa
open Go.RowKit

theorem ltT_ahead {x y : Te} (hx : 0 ≤ x.r) (hy : 0 ≤ y.r) : ltT x y = aheadT x y := by
  rw [Bool.eq_iff_iff, ltT_iff, aheadT_iff hx hy]
  by_cases h1 : x.r = 0 <;> by_cases h2 : y.r = 0 <;> simp [h1, h2] <;> omega
theorem eq_sortedT {l ys : List Te} (h : MayT l) (hp : ys.Perm l) (hs : ys.Pairwise fun x y => ltT y x = false) : ys = l := by
  have ok := mayT_ok h
  have r0 : ∀ x ∈ l, 0 ≤ x.r := fun x hx => okTie_r (ok x hx)
  refine List.Perm.eq_of_pairwise (le := fun x y => ltT y x = false) (fun a b ha hb h1 h2 => ?_) hs ?_ hp
  · have ha' := r0 a (hp.mem_iff.1 ha)
    have hb' := r0 b hb
    rw [ltT_ahead hb' ha'] at h1
    rw [ltT_ahead ha' hb'] at h2
    obtain ⟨e1, e2⟩ := aheadT_tri ha' hb' h2 h1
    by_cases h0 : a.r = 0
    · exact e2 h0
    · exact srt_pair h (hp.mem_iff.1 ha) hb h0 e1
  · refine List.Pairwise.imp_of_mem ?_ (mayT_srt h)
    intro a b ha hb hab
    rw [ltT_ahead (r0 b hb) (r0 a ha)]
    cases hba : aheadT b a with
    | false => rfl
    | true =>
      have := aheadT_trans (r0 a ha) (r0 b hb) (r0 a ha) hab hba
      rw [aheadT_iff (r0 a ha) (r0 a ha)] at this
      rcases this with h | h | ⟨_, _, h | h⟩
      · omega
      · omega
      · rw [befP_irr] at h; cases h
      · rw [befP_irr] at h; cases h.2
theorem eq_sortedP {l ys : List Pd} (h : l.Pairwise fun x y => befP x y = true) (hp : ys.Perm l) (hs : ys.Pairwise fun x y => befP y x = false) : ys = l := by
  refine List.Perm.eq_of_pairwise (le := fun x y => befP y x = false) (fun a b _ _ h1 h2 => befP_tri h2 h1) hs ?_ hp
  refine h.imp ?_
  intro a b hab
  cases hba : befP b a with
  | false => rfl
  | true => have := befP_trans hab hba; rw [befP_irr] at this; cases this
/-- Whom a link ties with p. -/
def lnF (p : Pd) (x : Te) : List Pd := if eqP p x.a = true then [x.b] else if eqP p x.b = true then [x.a] else []
def waF (p : Pd) (x : Te) : List Te := if eqP x.b p = true then [x] else []
theorem eqP_comm (x y : Pd) : eqP x y = eqP y x := by
  rw [Bool.eq_iff_iff, eqP_iff, eqP_iff]
  exact eq_comm
theorem linksT_perm (p : Pd) : ∀ {l : List Te}, (∀ x ∈ l, okTie x = true) → ((lks l).flatMap (lnF p)).Perm (linksT l p)
  | [], _ => List.Perm.refl _
  | x :: r, h => by
    have ih := linksT_perm p (l := r) (fun y hy => h y (by simp [hy]))
    unfold linksT l1T l2T at *
    unfold lks at *
    simp only [List.flatMap_cons]
    cases h0 : x.r == 0 with
    | false => simpa [List.filter_cons, h0] using ih
    | true =>
      have hr : x.r = 0 := by simpa using h0
      simp only [List.filter_cons, h0, if_true, List.flatMap_cons, Bool.true_and]
      have hab : befP x.a x.b = true := by
        have := h x (by simp)
        unfold okTie at this
        simp only [Bool.and_eq_true, Bool.not_eq_true', hr] at this
        simpa using this.2.2.2.2
      have hne : x.a ≠ x.b := fun e => by rw [e, befP_irr] at hab; cases hab
      unfold lnF
      rw [eqP_comm p x.a, eqP_comm p x.b]
      cases h1 : eqP x.a p with
      | true =>
        have h2 : eqP x.b p = false := by
          cases h2 : eqP x.b p with
          | false => rfl
          | true => exact absurd ((eqP_iff.1 h1).trans (eqP_iff.1 h2).symm) hne
        rw [h2]
        simp only [if_true, Bool.false_eq_true, if_false, List.nil_append]
        exact (ih.cons x.b).trans List.perm_middle.symm
      | false =>
        cases h2 : eqP x.b p with
        | true =>
          simp only [if_true, Bool.false_eq_true, if_false, List.nil_append, List.cons_append]
          exact ih.cons _
        | false =>
          unfold lnF at ih
          simpa using ih
theorem linksT_srt {l : List Te} (h : MayT l) (p : Pd) : (linksT l p).Pairwise fun x y => befP x y = true := by
  have ok := mayT_ok h
  have hs := mayT_srt h
  have hlk : ∀ x ∈ l, x.r = 0 → befP x.a x.b = true := fun x hx hr => by
    have := ok x hx
    unfold okTie at this
    simp only [Bool.and_eq_true, Bool.not_eq_true', hr] at this
    simpa using this.2.2.2.2
  unfold linksT l1T l2T
  rw [List.pairwise_append, List.pairwise_flatMap, List.pairwise_flatMap]
  refine ⟨⟨fun x _ => by split <;> simp, ?_⟩, ⟨fun x _ => by split <;> simp, ?_⟩, ?_⟩
  · refine List.Pairwise.imp_of_mem ?_ hs
    intro x y hx hy hxy u hu v hv
    split at hu <;> split at hv
    · rename_i c1 c2
      simp only [Bool.and_eq_true, beq_iff_eq] at c1 c2
      rw [List.mem_singleton] at hu hv
      subst hu hv
      rw [aheadT_iff (okTie_r (ok x hx)) (okTie_r (ok y hy))] at hxy
      have e1 := eqP_iff.1 c1.2
      have e2 := eqP_iff.1 c2.2
      rcases hxy with h | h | ⟨_, _, h | h⟩
      · omega
      · omega
      · exact h
      · rw [e1, e2, befP_irr] at h; cases h.2
    · cases hv
    · cases hu
    · cases hu
  · refine List.Pairwise.imp_of_mem ?_ hs
    intro x y hx hy hxy u hu v hv
    split at hu <;> split at hv
    · rename_i c1 c2
      simp only [Bool.and_eq_true, beq_iff_eq] at c1 c2
      rw [List.mem_singleton] at hu hv
      subst hu hv
      rw [aheadT_iff (okTie_r (ok x hx)) (okTie_r (ok y hy))] at hxy
      have e1 := eqP_iff.1 c1.2
      have e2 := eqP_iff.1 c2.2
      rcases hxy with h | h | ⟨_, _, h | h⟩
      · omega
      · omega
      · rw [e1, e2, befP_irr] at h; cases h
      · exact h.2
    · cases hv
    · cases hu
    · cases hu
  · intro u hu v hv
    obtain ⟨x, hx, hu⟩ := List.mem_flatMap.1 hu
    obtain ⟨y, hy, hv⟩ := List.mem_flatMap.1 hv
    split at hu <;> split at hv
    · rename_i c1 c2
      simp only [Bool.and_eq_true, beq_iff_eq] at c1 c2
      rw [List.mem_singleton] at hu hv
      subst hu hv
      have e1 := eqP_iff.1 c1.2
      have e2 := eqP_iff.1 c2.2
      have k1 := hlk x hx c1.1
      have k2 := hlk y hy c2.1
      rw [e1] at k1
      rw [e2] at k2
      exact befP_trans k1 k2
    · cases hv
    · cases hu
    · cases hu
theorem waT_flat {l : List Te} (h : MayT l) (p : Pd) : (mns l).flatMap (waF p) = waT l p := by
  have ok := mayT_ok h
  clear h
  unfold waT mns waF
  induction l with
  | nil => rfl
  | cons x r ih =>
    have h0 := okTie_r (ok x (by simp))
    have ih := ih fun y hy => ok y (by simp [hy])
    rw [List.flatMap_cons]
    cases hr : x.r == 0 with
    | true =>
      have e : x.r = 0 := by simpa using hr
      simp [e, ih]
    | false =>
      have e : ¬ x.r = 0 := by simpa using hr
      have : decide (0 < x.r) = true := decide_eq_true (by omega)
      simp only [List.filter_cons, hr, Bool.not_false, if_true, List.flatMap_cons, this, Bool.true_and]
      rw [ih]
theorem waT_filter (l : List Te) (p : Pd) : waT l p = l.filter fun x => decide (0 < x.r) && eqP x.b p := by
  unfold waT
  induction l with
  | nil => rfl
  | cons x r ih =>
    rw [List.flatMap_cons, ih, List.filter_cons]
    split <;> simp
theorem waT_may {l : List Te} (h : MayT l) (p : Pd) : MayT (waT l p) := by rw [waT_filter]; exact mayT_filter h _
theorem lks_app_mns (l : List Te) : (lks l ++ mns l).Perm l := by
  unfold lks mns
  exact List.filter_append_perm _ _
end Go.Proofs.Ytkodblhompphjaa

namespace Go.Proofs.Ytkodblhompphjaa
open Go.RowKit Go.Maps
set_option maxRecDepth 20000

theorem flat_snoc {β : Type} (f : Te → List β) (c : List Te) (t : Te) : (c ++ [t]).flatMap f = c.flatMap f ++ f t := by
  rw [List.flatMap_append, List.flatMap_cons, List.flatMap_nil, List.append_nil]
theorem flat_le {β : Type} {f : Te → List β} (hf : ∀ x, (f x).length ≤ 1) : ∀ c : List Te, (c.flatMap f).length ≤ c.length
  | [] => Nat.le_refl _
  | x :: r => by
    rw [List.flatMap_cons, List.length_append, List.length_cons]
    have := hf x
    have := flat_le hf r
    omega
theorem waF_le (p : Pd) (x : Te) : (waF p x).length ≤ 1 := by unfold waF; split <;> simp
theorem lnF_le (p : Pd) (x : Te) : (lnF p x).length ≤ 1 := by unfold lnF; split <;> (try split) <;> simp
theorem mns_len (l : List Te) : (mns l).length ≤ l.length := List.length_filter_le _ _
theorem lks_len (l : List Te) : (lks l).length ≤ l.length := List.length_filter_le _ _
/-- What the loop of Watchers keeps. -/
structure WaR (w : World) (b mb : Nat) (l : List Te) (p : Pd) (v : Value) (c : List Te) (wr : World) : Prop where
  it : MnIt wr mb (w.heap.size + 1) (mns l) c
  own : OwnS KT wr (w.heap.size + 2) v (c.flatMap (waF p))
  bp : Bk wr w.heap.size 32 p.cs
  o : Only [] w wr
  sz : w.heap.size + 2 ≤ wr.heap.size
  lt : mb < w.heap.size
theorem WaR.goes {w wr w' : World} {b mb : Nat} {l : List Te} {p : Pd} {v : Value} {c : List Te} (h : WaR w b mb l p v c wr) (o : Only [] wr w') : WaR w b mb l p v c w' ∧ w'.rangeLeft mb (w.heap.size + 1) = wr.rangeLeft mb (w.heap.size + 1) := by
  obtain ⟨h1, h2⟩ := h.it.only o (by simp) (by simp)
  exact ⟨⟨h1, h.own.only o (by simp), h.bp.only o (by simp), h.o.trans o (by simp), Nat.le_trans h.sz o.size, h.lt⟩, h2⟩
/-- An entry has come. -/
theorem WaR.come {w wr w2 : World} {b mb : Nat} {l : List Te} {p : Pd} {v : Value} {c : List Te} (h : WaR w b mb l p v c wr) (ho : Only [w.heap.size + 1] wr w2) (hsz : w2.heap.size = wr.heap.size) :
    OwnS KT w2 (w.heap.size + 2) v (c.flatMap (waF p)) ∧ Bk w2 w.heap.size 32 p.cs ∧ Only [] w w2 ∧ w.heap.size + 2 ≤ w2.heap.size :=
  ⟨h.own.only ho (fun g hg => by have := (h.own.block hg).1; simp; omega), h.bp.only ho (by simp), h.o.trans ho (by simp), by rw [hsz]; exact h.sz⟩
theorem WaR.next {w w2 w5 : World} {b mb : Nat} {l : List Te} {p : Pd} {v : Value} {c : List Te} {t : Te} {S : List Nat} (hit : MnIt w2 mb (w.heap.size + 1) (mns l) (c ++ [t])) (hown : OwnS KT w5 (w.heap.size + 2) v (c.flatMap (waF p) ++ waF p t))
    (bp : Bk w2 w.heap.size 32 p.cs) (o : Only [] w w2) (hz : w.heap.size + 2 ≤ w2.heap.size) (hm : mb < w.heap.size) (g : Only S w2 w5) (hS : ∀ i ∈ S, w.heap.size + 2 ≤ i) :
    (∃ c', WaR w b mb l p v c' w5) ∧ w5.rangeLeft mb (w.heap.size + 1) = w2.rangeLeft mb (w.heap.size + 1) := by
  obtain ⟨h1, h2⟩ := hit.only g (fun hi => by have := hS _ hi; omega) (fun hi => by have := hS _ hi; omega)
  refine ⟨⟨c ++ [t], ⟨h1, ?_, bp.only g (fun hi => by have := hS _ hi; omega), o.trans g fun i hi => .inr (by have := hS _ hi; omega), Nat.le_trans hz g.size, hm⟩⟩, h2⟩
  rw [flat_snoc]
  exact hown
set_option maxHeartbeats 4000000 in
theorem pwatch_any {w : World} {b lb mb : Nat} {l : List Te} (h : LRep w b lb mb l) (p : Pd) : Calls Try.prog 23 #[ptB b, .agg p.cs] w fun e w' => ∃ v, e = .returned v ∧ OwnS KT w' w.heap.size v (waT l p) ∧ Only [] w w' := by
  have o0 := (Only.refl [] w).alloc (.cells p.cs 32)
  have H0 := Lib.hid (h.only0 o0)
  have K0 := Lib.hid (given_any H0.out)
  have B0 := Lib.hid (Bk.made w 32 p.cs)
  have HM := Lib.hid h.may
  have HL := Lib.hid h.len
  have HB := Lib.hid h.mon.lt
  have c2 := H0.out.blk.cell0 (i := 2) (v := .map (some mb)) rfl
  have O0 := Lib.hid o0
  have es : (w.alloc (.cells p.cs 32)).heap.size = w.heap.size + 1 := by simp
  clear o0 h
  go_enter Try.func23, Try.ntmps23
  go_wp2_with fail
  (with_reducible refine K0.out.mono ?_)
  rintro e w1 ⟨rfl, rfl⟩
  go_wp2_with (first | (at_range; refine wpList_range_mn _ (by rfl) _ (by rfl) (by rfl) H0.out.mon (mns_ok HM.out) ?_; intro w1 hit ho hsz) | fail)
  go_frame
  rw [es] at hit hsz ⊢
  have R0 : Hid (WaR w b mb l p (.slice none 0 0) [] w1) := Lib.hid ⟨hit, OwnS.nil _ _ _, B0.out.only ho (by simp), O0.out.trans ho (by simp), by omega, HB.out⟩
  clear hit ho hsz es c2 K0 H0 B0 O0
  go_loopw [5, 7] (fun ov _ wr => ∃ c, WaR w b mb l p ov c wr) (fun _ _ wr => wr.rangeLeft mb (w.heap.size + 1))
  case atStart => exact ⟨[], R0.out⟩
  case round =>
    clear R0
    obtain ⟨c, hr⟩ := hrel
    have R := Lib.hid hr
    clear hr
    have hcl := R.out.it.len
    have hml := mns_len l
    have hfl := flat_le (waF_le p) c
    go_wp2_with (first | (at_next; refine wpList_next_mn _ (by rfl) _ (by rfl) (by rfl) R.out.it (mns_ok HM.out) (mns_nodup HM.out) ?_ ?_) | fail)
    · intro hp
      have HP := Lib.hid hp
      clear hp
      have KS := Lib.hid (sortT_any R.out.own (by have := HL.out; omega))
      clear hcl hml hfl
      go_wp2_with fail
      (with_reducible refine KS.out.mono ?_)
      rintro e w2 ⟨rfl, ys, py, sy, oy, o2⟩
      have e1 : ys = waT l p := by
        have h1 := HP.out.flatMap_right (waF p)
        rw [waT_flat HM.out] at h1
        exact eq_sortedT (waT_may HM.out p) (py.trans h1) sy
      subst e1
      have E := Lib.hid (oy.low (base' := w.heap.size) (by omega))
      have O2 : Hid (Only [] w w2) := Lib.hid (R.out.o.trans o2 fun i hi => .inr (by have := (R.out.own.own_ge i hi).1; omega))
      clear py sy oy o2
      go_wp2_with fail
      go_ret
      exact ⟨_, rfl, E.out, O2.out⟩
    · intro t w2 ht hit hlt ho hsz hen
      obtain ⟨ow, bp, oo, hz⟩ := R.out.come ho hsz
      have OW := Lib.hid ow
      have BP := Lib.hid bp
      have OO := Lib.hid oo
      have HZ := Lib.hid hz
      have IT := Lib.hid hit
      have LT := Lib.hid hlt
      have hb := R.out.lt
      obtain ⟨p0, p1⟩ := (bp.alloc (.cells t.cs 45)).pid
      have hll := HL.out
      clear R ow bp oo hz hit hlt ho hsz ht
      have T0 := Bk.made w2 45 t.cs
      have T1 := Lib.hid T0
      obtain ⟨t0, t1, t2, t3, t4⟩ := T0.tie
      clear T0
      cases hE : eqP t.b p with
      | true =>
        have hw : waF p t = [t] := by unfold waF; rw [if_pos hE]
        have HW := Lib.hid hw
        clear hw
        simp only [eqP] at hE
        have LL : ((c.flatMap (waF p)).length + [t].length) * KT.by' ≤ 140737488355328 := by show ((c.flatMap (waF p)).length + 1) * 40 ≤ _; omega
        go_wp2_with (at_builtin; refine wpList_appS KT _ (by rfl) (.tmp 24) (.tmp 26) (by rfl) (by rfl) ((OW.out.alloc _).alloc _) (some ⟨w2.heap.size + 1, 0, none⟩) [t] 1 1 (by rfl) rfl (RdS.one (Bk.newAt (by simp)) rfl) (by have := HZ.out; simp; omega) LL ?_; intro v' w5 hown hgrow hat; have HO := Lib.hid hown; have HG := Lib.hid ((((Only.refl u5.ownBlock.toList w2).alloc _).alloc _).trans (Only.of_grown hgrow) (fun i hi => .inl hi)); clear hown hgrow hat)
        obtain ⟨N1, N2⟩ := WaR.next (b := b) IT.out (by rw [HW.out]; exact HO.out) BP.out OO.out HZ.out hb HG.out fun i hi => (OW.out.own_ge i hi).1
        have M1 := Lib.hid N1
        have M2 := Lib.hid N2
        clear N1 N2
        go_roundw
        case rel => exact M1.out
        case measure => rw [M2.out]; exact LT.out
      | false =>
        have hw : waF p t = [] := by unfold waF; rw [if_neg (by rw [hE]; simp)]
        simp only [eqP] at hE
        obtain ⟨N1, N2⟩ := WaR.next (b := b) IT.out (v := u5) (by rw [hw, List.append_nil]; exact OW.out.alloc (.cells t.cs 45)) BP.out OO.out HZ.out hb ((Only.refl [] w2).alloc (.cells t.cs 45)) (by simp)
        have M1 := Lib.hid N1
        have M2 := Lib.hid N2
        clear N1 N2 hw
        go_wp2_with fail
        go_roundw
        case rel => exact M1.out
        case measure => rw [M2.out]; exact LT.out
end Go.Proofs.Ytkodblhompphjaa
