/-
  Running a program by reckoning, 11: append: where the room is not known, the elder row is given up and the new one stands for it.
  Nothing here speaks of the program.
-/
import Derived.Test.YtihlhmphgjlngaaEa
import Derived.ArgAppend
namespace Go.Proofs.Ytihlhmphgjlngaa
open Go.RowKit

section
variable {P : Program} {r : Ren} {W : AW} {w : World}
theorem WR.newX (h : WR P r W w) {o o' : Obj} {l : Bool} {x : Nat} (ho : OR P r x o o') (hl : l = false → x = 0) {w1 : World} (hw1 : w1.heap = w.heap.push o') : WR P (r.add W.next w.heap.size x) (W.new o l) w1 := by
  have hf := h.fresh
  have hle : r.le (r.add W.next w.heap.size x) := Ren.le_add hf
  refine ⟨fun k p hk => ?_, fun k o1 l1 hk => ?_, fun j k b y z hj hk h1 h2 => ?_⟩
  · unfold Ren.add at hk
    by_cases e : k = W.next
    · subst e; exact Nat.lt_succ_self _
    · rw [if_neg e] at hk
      exact Nat.lt_succ_of_lt (h.dom k p hk)
  · rw [AW.get_new] at hk
    by_cases e : k = W.next
    · rw [if_pos e] at hk
      injection hk with hk
      injection hk with hk1 hk2
      subst hk1 hk2 e
      exact ⟨w.heap.size, x, o', Ren.add_self _ _ _ _, by rw [hw1]; simp, ho.le hle, hl⟩
    · rw [if_neg e] at hk
      obtain ⟨b, y, o2, h1, h2, h3, h4⟩ := h.live k o1 l1 hk
      refine ⟨b, y, o2, (Ren.add_ne _ e).trans h1, ?_, h3.le hle, h4⟩
      have := get_lt h2
      rw [hw1, Array.getElem?_push, if_neg (by omega)]
      exact h2
  · unfold AW.holds at hj hk
    rw [AW.get_new] at hj hk
    have old : ∀ i z c, i ≠ W.next → W.get i ≠ none → r.add W.next w.heap.size x i = some (c, z) → c < w.heap.size := fun i z c hi hg hr => by
      rw [Ren.add_ne _ hi] at hr
      cases hgi : W.get i with
      | none => exact absurd hgi hg
      | some p =>
        obtain ⟨o2, l2⟩ := p
        obtain ⟨o3, h3, _⟩ := h.blk hgi hr
        exact get_lt h3
    by_cases e1 : j = W.next
    · by_cases e2 : k = W.next
      · rw [e1, e2]
      · rw [if_neg e2] at hk
        have := old k z b e2 hk h2
        rw [e1, Ren.add_self] at h1
        injection h1 with h1
        injection h1 with h1 _
        omega
    · rw [if_neg e1] at hj
      have h5 := old j y b e1 hj h1
      by_cases e2 : k = W.next
      · rw [e2, Ren.add_self] at h2
        injection h2 with h2
        injection h2 with h2 _
        omega
      · rw [if_neg e2] at hk
        rw [Ren.add_ne _ e1] at h1
        rw [Ren.add_ne _ e2] at h2
        exact h.inj j k b y z hj hk h1 h2
theorem Fr.newX (h : WR P r W w) (o o' : Obj) (l : Bool) (x : Nat) {w1 : World} (hw1 : w1.heap = w.heap.push o') (h0 : w1.os = w.os) (ht : w1.tape = w.tape) (hu : w1.output = w.output) : Fr r W w (r.add W.next w.heap.size x) (W.new o l) w1 := by
  refine ⟨Ren.le_add h.fresh, Nat.le_succ _, rfl, h0, ht, hu, by rw [hw1]; simp, fun b hb _ => ?_, fun k hk hr => (Ren.add_ne r (Nat.ne_of_lt hk)).trans hr, fun k hk hg => by rw [AW.get_new, if_neg (Nat.ne_of_lt hk)]; exact hg, fun k o1 hk => ⟨o1, by
    rw [AW.get_new, if_neg (fun e => by
      subst e
      obtain ⟨b, x, _, h1, _⟩ := h.live _ _ _ hk
      rw [h.fresh] at h1
      cases h1)]
    exact hk⟩, fun k b y hk hr hb => ?_⟩
  · rw [hw1, Array.getElem?_push, if_neg (by omega)]
  · unfold AW.holds at hk
    rw [AW.get_new] at hk
    by_cases e : k = W.next
    · subst e
      rw [Ren.add_self] at hr
      injection hr with hr
      injection hr with hr _
      omega
    · rw [if_neg e] at hk
      rw [Ren.add_ne _ e] at hr
      exact ⟨k, y, hk, hr, id⟩
theorem holds_of_gone {k i : Nat} (h : (W.set k none).holds i) : W.holds i ∧ i ≠ k := by
  unfold AW.holds at h ⊢
  rw [AW.get_set] at h
  by_cases e : i = k
  · rw [if_pos e] at h; exact absurd rfl h
  · rw [if_neg e] at h; exact ⟨h, e⟩
theorem WR.gone (h : WR P r W w) (k : Nat) : WR P r (W.set k none) w := by
  refine ⟨h.dom, fun j o l hj => ?_, fun i j b x y hi hj => h.inj i j b x y (holds_of_gone hi).1 (holds_of_gone hj).1⟩
  rw [AW.get_set] at hj
  by_cases e : j = k
  · rw [if_pos e] at hj; cases hj
  · rw [if_neg e] at hj; exact h.live j o l hj
theorem Fr.gone (r : Ren) (W : AW) (w : World) (k : Nat) (hk : ∀ o, W.get k ≠ some (o, false)) : Fr r W w r (W.set k none) w :=
  ⟨r.le_refl, Nat.le_refl _, rfl, rfl, rfl, rfl, Nat.le_refl _, fun _ _ _ => rfl, fun _ _ h => h, fun j _ hj => by
    rw [AW.get_set]
    split
    · rfl
    · exact hj, fun j o hj => ⟨o, by
    rw [AW.get_set, if_neg (fun e => by subst e; exact hk o hj)]
    exact hj⟩, fun i _ x h1 h2 _ => ⟨i, x, (holds_of_gone h1).1, h2, id⟩⟩
theorem next_set (W : AW) (k : Nat) (x : Option (Obj × Bool)) : (W.set k x).next = W.next := rfl
/-- A block goes, another number stands for its place. -/
theorem WR.moved (h : WR P r W w) {k b x x2 : Nat} {o o1 o2 : Obj} {l : Bool} (hk : W.get k = some (o, l)) (hr : r k = some (b, x)) (ho : OR P r x2 o1 o2) {w1 : World}
    (h1 : w1.heap[b]? = some o2) (h2 : ∀ c, c ≠ b → w1.heap[c]? = w.heap[c]?) : WR P (r.add W.next b x2) ((W.set k none).new o1 true) w1 := by
  have hf := h.fresh
  have hle : r.le (r.add W.next b x2) := Ren.le_add hf
  have hkl : W.holds k := by unfold AW.holds; rw [hk]; simp
  refine ⟨fun j p hj => ?_, fun j o3 l3 hj => ?_, fun i j c y z hi hj hri hrj => ?_⟩
  · unfold Ren.add at hj
    by_cases e : j = W.next
    · subst e; exact Nat.lt_succ_self _
    · rw [if_neg e] at hj
      exact Nat.lt_succ_of_lt (h.dom j p hj)
  · rw [AW.get_new] at hj
    by_cases e : j = (W.set k none).next
    · rw [if_pos e] at hj
      injection hj with hj
      injection hj with hj1 hj2
      subst hj1 hj2 e
      exact ⟨b, x2, o2, Ren.add_self _ _ _ _, h1, ho.le hle, fun h => by cases h⟩
    · rw [if_neg e, AW.get_set] at hj
      by_cases e2 : j = k
      · rw [if_pos e2] at hj; cases hj
      · rw [if_neg e2] at hj
        obtain ⟨b', y, o4, h3, h4, h5, h6⟩ := h.live j o3 l3 hj
        refine ⟨b', y, o4, (Ren.add_ne _ e).trans h3, ?_, h5.le hle, h6⟩
        rw [h2]
        · exact h4
        · rintro rfl
          exact e2 (h.inj j k b' y x (by unfold AW.holds; rw [hj]; simp) hkl h3 hr)
  · unfold AW.holds at hi hj
    rw [AW.get_new, next_set] at hi hj
    have old : ∀ i, i ≠ W.next → (W.set k none).get i ≠ none → W.holds i ∧ i ≠ k := fun i _ hg => holds_of_gone hg
    by_cases e1 : i = W.next
    · by_cases e2 : j = W.next
      · rw [e1, e2]
      · rw [if_neg e2] at hj
        obtain ⟨a1, a2⟩ := old j e2 hj
        rw [e1, Ren.add_self] at hri
        injection hri with hri
        injection hri with hri _
        subst hri
        rw [Ren.add_ne _ e2] at hrj
        exact absurd (h.inj j k b z x a1 hkl hrj hr) a2
    · rw [if_neg e1] at hi
      obtain ⟨a1, a2⟩ := old i e1 hi
      rw [Ren.add_ne _ e1] at hri
      by_cases e2 : j = W.next
      · rw [e2, Ren.add_self] at hrj
        injection hrj with hrj
        injection hrj with hrj _
        subst hrj
        exact absurd (h.inj i k b y x a1 hkl hri hr) a2
      · rw [if_neg e2] at hj
        obtain ⟨a3, _⟩ := old j e2 hj
        rw [Ren.add_ne _ e2] at hrj
        exact h.inj i j c y z a1 a3 hri hrj
theorem Fr.moved (h : WR P r W w) {k b x x2 : Nat} {o o1 : Obj} (hk : W.get k = some (o, true)) (hro : W.ro ≤ k) (hr : r k = some (b, x)) {w1 : World}
    (h0 : w1.os = w.os) (h3 : w1.tape = w.tape) (h4 : w1.output = w.output) (h5 : w1.heap.size = w.heap.size) (h2 : ∀ c, c ≠ b → w1.heap[c]? = w.heap[c]?) : Fr r W w (r.add W.next b x2) ((W.set k none).new o1 true) w1 := by
  have hkl : W.holds k := by unfold AW.holds; rw [hk]; simp
  refine ⟨Ren.le_add h.fresh, Nat.le_succ _, rfl, h0, h3, h4, Nat.le_of_eq h5.symm, fun c _ hn => h2 c ?_, fun j hj hr => (Ren.add_ne r (Nat.ne_of_lt hj)).trans hr, fun j hj hg => by
    rw [AW.get_new, next_set, if_neg (Nat.ne_of_lt hj), AW.get_set]
    split
    · rfl
    · exact hg, fun j o3 hj => ⟨o3, by
    rw [AW.get_new, next_set, if_neg (fun e => by
      subst e
      obtain ⟨b, x, _, h1, _⟩ := h.live _ _ _ hj
      rw [h.fresh] at h1
      cases h1), AW.get_set, if_neg (fun e => by subst e; rw [hk] at hj; cases hj)]
    exact hj⟩, fun j c y hj hrj hc => ?_⟩
  · rintro rfl
    exact hn k x hkl hro hr
  · unfold AW.holds at hj
    rw [AW.get_new, next_set] at hj
    by_cases e : j = W.next
    · subst e
      rw [Ren.add_self] at hrj
      injection hrj with hrj
      injection hrj with hrj _
      subst hrj
      exact ⟨k, x, hkl, hr, fun _ => hro⟩
    · rw [if_neg e] at hj
      rw [Ren.add_ne _ e] at hrj
      exact ⟨j, y, (holds_of_gone hj).1, hrj, id⟩

/-- What is loaded lies in the world's cells. -/
theorem loads_cells (h : WR P r W w) {a a' : Addr} (ha : AR r a a') : ∀ (n i : Nat) (acc acc' cs : Array Value) (W1 : AW), VRs r acc acc' → acc.size = i → (∀ j v', acc'[j]? = some v' → w.cell? (a'.add j) = some v') →
    arun P (loadCellsFrom a i n acc) W = some (cs, W1) → W1 = W ∧ ∃ cs', VRs r cs cs' ∧ cs.size = i + n ∧ ∀ j v', cs'[j]? = some v' → w.cell? (a'.add j) = some v'
  | 0, i, acc, acc', cs, W1, hv, hs, hc, e => by
    simp only [loadCellsFrom] at e
    injection e with e
    injection e with e1 e2
    subst e1 e2
    exact ⟨rfl, acc', hv, hs, hc⟩
  | n + 1, i, acc, acc', cs, W1, hv, hs, hc, e => by
    simp only [loadCellsFrom] at e
    obtain ⟨b', x, h1, h2⟩ := ha.add (n := i)
    change arun P (.load .plain (a.add i) fun v => loadCellsFrom a (i + 1) n (acc.push v)) W = some (cs, W1) at e
    simp only [arun] at e
    split at e
    · rename_i c ce fz l hsp hg
      rw [nthL_eq] at e
      split at e
      · rename_i v hvv
        obtain ⟨o', h3, h4, _⟩ := h.blk hg h1
        cases h4 with
        | cells h5 h6 =>
          obtain ⟨v', h7, h8⟩ := h6 _ v (by simpa using hvv)
          have hcell : w.cell? (a'.add i) = some v' := by
            rw [h2]
            generalize a.add i = q at hsp h7 h3
            obtain ⟨qb, qo, qs⟩ := q
            simp only at hsp
            subst hsp
            exact cell_of h3 h7
          obtain ⟨k1, cs', k2, k3, k4⟩ := loads_cells h ha n (i + 1) (acc.push v) (acc'.push v') cs W1 (hv.push h8) (by simp [hs]) (fun j u hu => by
            rw [Array.getElem?_push] at hu
            by_cases ej : j = acc'.size
            · rw [if_pos ej] at hu
              injection hu with hu
              subst hu
              rw [ej, hv.1, hs]
              exact hcell
            · rw [if_neg ej] at hu
              exact hc j u hu) e
          exact ⟨k1, cs', k2, by omega, k4⟩
      · cases e
    · cases e
theorem loads (h : WR P r W w) {a a' : Addr} (ha : AR r a a') {n : Nat} {cs : Array Value} {W1 : AW} (e : arun P (loadCells a n) W = some (cs, W1)) : W1 = W ∧ ∃ cs', VRs r cs cs' ∧ cs.size = n ∧ ∀ j v', cs'[j]? = some v' → w.cell? (a'.add j) = some v' := by
  obtain ⟨k1, cs', k2, k3, k4⟩ := loads_cells h ha n 0 #[] #[] cs W1 (VRs.nil r) rfl (fun j v' hj => by simp at hj) e
  exact ⟨k1, cs', k2, by omega, k4⟩

theorem heap_setCells_eq : ∀ (vs : List Value) (o : Nat) (w : World) (b : Nat) (c : Array Value) (e : TypeId) (fz : Nat × Nat), w.heap[b]? = some (.cells c e fz) → (w.setCells b o vs).heap[b]? = some (.cells ⟨putC c.toList o vs⟩ e fz)
  | [], o, w, b, c, e, fz, h => h
  | v :: vs, o, w, b, c, e, fz, h => by
    rw [World.setCells, heap_setCells_eq vs (o + 1) _ b _ e fz (heap_setCell_eq (o := o) v h)]
    simp only [putC, setL_eq, Array.toList_setIfInBounds]
theorem heap_setCells_ne : ∀ (vs : List Value) (o : Nat) (w : World) (b c : Nat), c ≠ b → (w.setCells b o vs).heap[c]? = w.heap[c]?
  | [], _, _, _, _, _ => rfl
  | v :: vs, o, w, b, c, h => by rw [World.setCells, heap_setCells_ne vs (o + 1) _ b c h, heap_setCell_ne w v h]
theorem setCells_rest : ∀ (vs : List Value) (o : Nat) (w : World) (b : Nat), (w.setCells b o vs).os = w.os ∧ (w.setCells b o vs).tape = w.tape ∧ (w.setCells b o vs).output = w.output ∧ (w.setCells b o vs).heap.size = w.heap.size
  | [], _, _, _ => ⟨rfl, rfl, rfl, rfl⟩
  | v :: vs, o, w, b => by
    obtain ⟨h1, h2, h3, h4⟩ := setCells_rest vs (o + 1) (w.setCell ⟨b, o, none⟩ v) b
    rw [World.setCells]
    exact ⟨h1, h2, h3, h4.trans (heap_setCell_size _ _ _)⟩
theorem putC_get : ∀ (vs cs : List Value) (o i : Nat), o + vs.length ≤ cs.length → (putC cs o vs)[i]? = if i < o then cs[i]? else if i < o + vs.length then vs[i - o]? else cs[i]?
  | [], cs, o, i, _ => by
    rw [putC, List.length_nil]
    split
    · rfl
    · rw [if_neg (by omega)]
  | v :: vs, cs, o, i, h => by
    simp only [List.length_cons] at h
    rw [putC, putC_get vs _ (o + 1) i (by rw [setL_eq, List.length_set]; omega), setL_eq]
    simp only [List.getElem?_set, List.length_cons]
    by_cases h1 : i < o
    · simp [h1, show i < o + 1 by omega, show ¬ o = i by omega]
    · by_cases h2 : i = o
      · subst h2
        simp [show i < cs.length by omega]
      · by_cases h3 : i < o + (vs.length + 1)
        · simp only [h1, show ¬ i < o + 1 by omega, show i < o + 1 + vs.length by omega, h3, if_true, if_false]
          rw [show i - o = (i - (o + 1)) + 1 by omega, List.getElem?_cons_succ]
        · simp only [h1, show ¬ i < o + 1 by omega, show ¬ i < o + 1 + vs.length by omega, h3, if_false, show ¬ o = i by omega]

/-- A row's cells, all of which are known, from its head on. -/
def headRow (W : AW) (a : Addr) (cap size : Nat) (elem : TypeId) : Bool :=
  match W.get a.block with
  | some (.cells c e (0, 0), true) => Nat.beq a.off 0 && a.spot.isNone && Nat.ble W.ro a.block && Nat.beq e elem && Nat.beq c.toList.length (cap * size)
  | _ => false
def tightRow (W : AW) (a : Addr) : Bool :=
  match W.get a.block with
  | some (.cells _ _ _, false) => a.spot.isNone
  | _ => false
def aappend (E : Env) (ts : Array TypeId) (s x : Value) (W : AW) : Option (Value × AW) :=
  match ts with
  | ⟨[t, t2]⟩ => match Nat.beq t t2, E.ty.get t with
    | true, some i => match i.under with
      | .slice elem => match E.ty.get elem, s, x with
        | some _, .slice base sLen sCap, .slice none 0 _ => cond (Nat.ble sLen sCap) (some (.slice base sLen sCap, W)) none
        | some j, .slice base sLen sCap, .slice (some xa) n _ => match j.zero with
          | some z => match arun E.P (loadCells xa (n * j.size)) W, Nat.beq z.cells.toList.length j.size, Nat.ble ((sLen + n) * j.bytes) 140737488355328, Nat.ble (sLen + n) 4611686018427387904, Nat.beq j.size 0 with
            | some (new, _), true, true, true, false =>
              match Nat.ble (sLen + n) sCap, base with
              | true, some a => match arun E.P (storeCells (a.add (sLen * j.size)) new.toList) W with
                | some (_, W2) => some (.slice (some a) (sLen + n) sCap, W2)
                | none => none
              | true, none => none
              | false, none => cond (Nat.beq sLen 0 && Nat.beq sCap 0) (some (.slice (some ⟨W.next, 0, none⟩) n n, W.new (.cells new elem) true)) none
              | false, some a => match arun E.P (loadCells a (sLen * j.size)) W with
                | some (old, _) => cond (tightRow W a) (some (.slice (some ⟨W.next, 0, none⟩) (sLen + n) (sLen + n), W.new (.cells (old ++ new) elem) true))
                    (cond (headRow W a sCap j.size elem && Nat.ble sLen sCap && new.toList.all oneCell) (some (.slice (some ⟨W.next, 0, none⟩) (sLen + n) (sLen + n), (W.set a.block none).new (.cells (old ++ new) elem) true)) none)
                | none => none
            | _, _, _, _, _ => none
          | none => none
        | _, _, _ => none
      | _ => none
    | _, _ => none
  | _ => none
end
end Go.Proofs.Ytihlhmphgjlngaa
