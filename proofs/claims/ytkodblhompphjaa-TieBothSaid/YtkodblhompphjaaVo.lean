/- Running a program by reckoning, 2: the run of a Sem tree in abstract memory; trees alike; the law that a world alike comes to the same.
  Nothing here speaks of the program. -/
import Derived.Test.YtkodblhompphjaaVn
namespace Go.Proofs.Ytkodblhompphjaa
open Go.RowKit

def arun (P : Program) {α : Type} : Sem α → AW → Option (α × AW)
  | .pure a, W => some (a, W)
  | .load _ a k, W =>
    match a.spot, W.get a.block with
    | none, some (.cells c _ _, _) =>
      match nthL c.toList a.off with
      | some v => arun P (k v) W
      | none => none
    | _, _ => none
  | .store _ a v k, W =>
    match oneCell v, Nat.ble W.ro a.block, a.spot, W.get a.block with
    | true, true, none, some (.cells c e (lo, hi), l) =>
      match Nat.ble (a.off + 1) c.toList.length, Nat.ble lo a.off && Nat.ble (a.off + 1) hi with
      | true, false => arun P k (W.set a.block (some (.cells ⟨setL c.toList a.off v⟩ e (lo, hi), l)))
      | _, _ => none
    | _, _, _, _ => none
  | .new o k, W => arun P (k W.next) (W.new o false)
  | .shape b k, W =>
    match W.get b with
    | some (.cells c e _, false) => arun P (k (some (e, c.size))) W
    | some (.stringIter _ _, _) => arun P (k none) W
    | _ => none
  | .freeze _ _ _, _ => none
  | .frozen a k, W =>
    match W.get a.block with
    | some (.cells _ _ (lo, hi), _) => arun P (k (decide (lo ≤ a.off) && decide (a.off < hi))) W
    | _ => none
  | .getObj b k, W =>
    match W.get b with
    | some (.stringIter s p, _) => arun P (k (.stringIter s p)) W
    | some (.map es n, _) => arun P (k (.map es n)) W
    | some (.mapIter m n a z, _) => arun P (k (.mapIter m n a z)) W
    | _ => none
  | .setObj b o k, W =>
    match o, Nat.ble W.ro b, W.get b with
    | .stringIter s p, true, some (.stringIter _ _, l) => arun P k (W.set b (some (.stringIter s p, l)))
    | .map es n, true, some (.map _ _, l) => arun P k (W.set b (some (.map es n, l)))
    | .mapIter m n a z, true, some (.mapIter _ _ _ _, l) => arun P k (W.set b (some (.mapIter m n a z, l)))
    | _, _, _ => none
  | .choose q k, W =>
    match q.forced with
    | true => arun P (k 0) W
    | false => none
  | .sys _ _, _ => none
  | .program k, W => arun P (k P) W
  | .mark _ k, W => arun P k W
  | .halt _, _ => none

def AR (r : Ren) (a a' : Addr) : Prop := ∃ b' x, r a.block = some (b', x) ∧ a' = { a with block := b' }
theorem AR.le {r s : Ren} {a a' : Addr} (h : AR r a a') (l : r.le s) : AR s a a' := by
  obtain ⟨b', x, h1, h2⟩ := h
  exact ⟨b', x, l _ _ h1, h2⟩
theorem AR.add {r : Ren} {a a' : Addr} (h : AR r a a') (n : Nat) : AR r (a.add n) (a'.add n) := by
  obtain ⟨b', x, h1, rfl⟩ := h
  unfold Addr.add
  by_cases e : n = 0
  · simp only [e, if_true]
    exact ⟨b', x, h1, rfl⟩
  · simp only [e, if_false]
    exact ⟨b', x, h1, rfl⟩

inductive SemR (P : Program) {α β : Type} (R : Ren → α → β → Prop) : Ren → Sem α → Sem β → Prop
  | pure {r : Ren} {a : α} {b : β} : R r a b → SemR P R r (.pure a) (.pure b)
  | load {r : Ren} {m : Mode} {a a' : Addr} {k : Value → Sem α} {k' : Value → Sem β} : AR r a a' → (∀ s v v', r.le s → VR s v v' → SemR P R s (k v) (k' v')) → SemR P R r (.load m a k) (.load m a' k')
  | store {r : Ren} {m : Mode} {a a' : Addr} {v v' : Value} {k : Sem α} {k' : Sem β} : AR r a a' → VR r v v' → SemR P R r k k' → SemR P R r (.store m a v k) (.store m a' v' k')
  | new {r : Ren} {o o' : Obj} {k : Nat → Sem α} {k' : Nat → Sem β} : OR P r 0 o o' → (∀ s b b', r.le s → s b = some (b', 0) → SemR P R s (k b) (k' b')) → SemR P R r (.new o k) (.new o' k')
  | shape {r : Ren} {b b' x : Nat} {k : Option (TypeId × Nat) → Sem α} {k' : Option (TypeId × Nat) → Sem β} : r b = some (b', x) → (∀ t, SemR P R r (k t) (k' t)) → SemR P R r (.shape b k) (.shape b' k')
  | frozen {r : Ren} {a a' : Addr} {k : Bool → Sem α} {k' : Bool → Sem β} : AR r a a' → (∀ t, SemR P R r (k t) (k' t)) → SemR P R r (.frozen a k) (.frozen a' k')
  | getObj {r : Ren} {b b' x : Nat} {k : Obj → Sem α} {k' : Obj → Sem β} : r b = some (b', x) → (∀ s o o', r.le s → OR P s x o o' → SemR P R s (k o) (k' o')) → SemR P R r (.getObj b k) (.getObj b' k')
  | setObj {r : Ren} {b b' x : Nat} {o o' : Obj} {k : Sem α} {k' : Sem β} : r b = some (b', x) → OR P r x o o' → SemR P R r k k' → SemR P R r (.setObj b o k) (.setObj b' o' k')
  | choose {r : Ren} {q : Question} {k : Nat → Sem α} {k' : Nat → Sem β} : SemR P R r (k 0) (k' 0) → SemR P R r (.choose q k) (.choose q k')
  | chooseNo {r : Ren} {q : Question} {k : Nat → Sem α} {s' : Sem β} : q.forced = false → SemR P R r (.choose q k) s'
  | program {r : Ren} {k : Program → Sem α} {k' : Program → Sem β} : SemR P R r (k P) (k' P) → SemR P R r (.program k) (.program k')
  | mark {r : Ren} {m m' : Mark} {k : Sem α} {k' : Sem β} : SemR P R r k k' → SemR P R r (.mark m k) (.mark m' k')
  | programR {r : Ren} {s : Sem α} {k' : Program → Sem β} : SemR P R r s (k' P) → SemR P R r s (.program k')
  | markR {r : Ren} {m' : Mark} {s : Sem α} {k' : Sem β} : SemR P R r s k' → SemR P R r s (.mark m' k')
  | apart {r : Ren} {a a' b b' : Addr} {k : Bool → Bool → Sem α} {s' : Sem β} : AR r a a' → AR r b b' → a.block ≠ b.block → (a'.block ≠ b'.block → ∀ x y, SemR P R r (k x y) s') → SemR P R r (.frozen a fun x => .frozen b fun y => k x y) s'
  | shapeL {r : Ren} {b b' x : Nat} {k : Option (TypeId × Nat) → Sem α} {s' : Sem β} : r b = some (b', x) → (∀ t, (t.isSome = true → x = 0) → SemR P R r (k t) s') → SemR P R r (.shape b k) s'
  | dead {r : Ren} {s : Sem α} {s' : Sem β} : (∀ W, arun P s W = none) → SemR P R r s s'
  | freezeNo {r : Ren} {a : Addr} {n : Nat} {k : Sem α} {s' : Sem β} : SemR P R r (.freeze a n k) s'
  | sysNo {r : Ren} {c : Sys} {k : SysRet → Sem α} {s' : Sem β} : SemR P R r (.sys c k) s'
  | halt {r : Ren} {h : Halt} {s' : Sem β} : SemR P R r (.halt h) s'

theorem arun_bind (P : Program) {α β : Type} (s : Sem α) (f : α → Sem β) : ∀ W, arun P (s.bind f) W = match arun P s W with | some (a, W1) => arun P (f a) W1 | none => none := by
  induction s with
  | pure a => intro W; rfl
  | halt h => intro W; rfl
  | load m a k ih =>
    intro W
    simp only [Sem.bind, arun]
    split
    · split
      · exact ih _ _
      · rfl
    · rfl
  | store m a v k ih =>
    intro W
    simp only [Sem.bind, arun]
    split
    · split
      · exact ih _
      · rfl
    · rfl
  | new o k ih => intro W; exact ih _ _
  | shape r k ih =>
    intro W
    simp only [Sem.bind, arun]
    split
    · exact ih _ _
    · exact ih _ _
    · rfl
  | freeze a n k ih => intro W; rfl
  | frozen a k ih =>
    intro W
    simp only [Sem.bind, arun]
    split
    · exact ih _ _
    · rfl
  | getObj r k ih =>
    intro W
    simp only [Sem.bind, arun]
    split
    · exact ih _ _
    · exact ih _ _
    · exact ih _ _
    · rfl
  | setObj r o k ih =>
    intro W
    simp only [Sem.bind, arun]
    split
    · exact ih _
    · exact ih _
    · exact ih _
    · rfl
  | choose q k ih =>
    intro W
    simp only [Sem.bind, arun]
    split
    · exact ih _ _
    · rfl
  | sys c k ih => intro W; rfl
  | program k ih => intro W; exact ih _ _
  | mark m k ih => intro W; exact ih _
theorem SemR.bind {P : Program} {α β γ δ : Type} {R : Ren → α → β → Prop} {S : Ren → γ → δ → Prop} {r : Ren} {s : Sem α} {s' : Sem β} {f : α → Sem γ} {f' : β → Sem δ}
    (h : SemR P R r s s') (hf : ∀ t a b, r.le t → R t a b → SemR P S t (f a) (f' b)) : SemR P S r (s.bind f) (s'.bind f') := by
  induction h with
  | pure h => exact hf _ _ _ (Ren.le_refl _) h
  | load h1 _ ih => exact .load h1 fun t v v' l hv => ih t v v' l hv fun t' a b l' => hf t' a b (Ren.le_trans l l')
  | store h1 h2 _ ih => exact .store h1 h2 (ih hf)
  | new h1 _ ih => exact .new h1 fun t b b' l hb => ih t b b' l hb fun t' a b l' => hf t' a b (Ren.le_trans l l')
  | shape h1 _ ih => exact .shape h1 fun t => ih t hf
  | frozen h1 _ ih => exact .frozen h1 fun t => ih t hf
  | getObj h1 _ ih => exact .getObj h1 fun t o o' l ho => ih t o o' l ho fun t' a b l' => hf t' a b (Ren.le_trans l l')
  | setObj h1 h2 _ ih => exact .setObj h1 h2 (ih hf)
  | choose _ ih => exact .choose (ih hf)
  | chooseNo h => exact .chooseNo h
  | program _ ih => exact .program (ih hf)
  | mark _ ih => exact .mark (ih hf)
  | programR _ ih => exact .programR (ih hf)
  | shapeL h1 _ ih => exact .shapeL h1 fun t ht => ih t ht hf
  | dead h => exact .dead fun W => by rw [arun_bind, h]
  | markR _ ih => exact .markR (ih hf)
  | apart h1 h2 h3 _ ih => exact .apart h1 h2 h3 fun hn x y => ih hn x y hf
  | freezeNo => exact .freezeNo
  | sysNo => exact .sysNo
  | halt => exact .halt
theorem SemR.bind' {P : Program} {α β γ δ : Type} {R : Ren → α → β → Prop} {S : Ren → γ → δ → Prop} {r : Ren} {s : Sem α} {s' : Sem β} {f : α → Sem γ} {f' : β → Sem δ}
    (h : SemR P R r s s') (hf : ∀ t a b, r.le t → R t a b → SemR P S t (f a) (f' b)) : SemR P S r (s >>= f) (s' >>= f') := h.bind hf
theorem SemR.mono {P : Program} {α β : Type} {R S : Ren → α → β → Prop} {r : Ren} {s : Sem α} {s' : Sem β} (h : SemR P R r s s') (hf : ∀ t a b, r.le t → R t a b → S t a b) : SemR P S r s s' := by
  induction h with
  | pure h => exact .pure (hf _ _ _ (Ren.le_refl _) h)
  | load h1 _ ih => exact .load h1 fun t v v' l hv => ih t v v' l hv fun t' a b l' => hf t' a b (Ren.le_trans l l')
  | store h1 h2 _ ih => exact .store h1 h2 (ih hf)
  | new h1 _ ih => exact .new h1 fun t b b' l hb => ih t b b' l hb fun t' a b l' => hf t' a b (Ren.le_trans l l')
  | shape h1 _ ih => exact .shape h1 fun t => ih t hf
  | frozen h1 _ ih => exact .frozen h1 fun t => ih t hf
  | getObj h1 _ ih => exact .getObj h1 fun t o o' l ho => ih t o o' l ho fun t' a b l' => hf t' a b (Ren.le_trans l l')
  | setObj h1 h2 _ ih => exact .setObj h1 h2 (ih hf)
  | choose _ ih => exact .choose (ih hf)
  | chooseNo h => exact .chooseNo h
  | program _ ih => exact .program (ih hf)
  | mark _ ih => exact .mark (ih hf)
  | programR _ ih => exact .programR (ih hf)
  | shapeL h1 _ ih => exact .shapeL h1 fun t ht => ih t ht hf
  | dead h => exact .dead fun W => h W
  | markR _ ih => exact .markR (ih hf)
  | apart h1 h2 h3 _ ih => exact .apart h1 h2 h3 fun hn x y => ih hn x y hf
  | freezeNo => exact .freezeNo
  | sysNo => exact .sysNo
  | halt => exact .halt

section
variable {P : Program} {r : Ren} {W : AW} {w : World}
theorem WR.fresh (h : WR P r W w) : r W.next = none := by
  cases e : r W.next with
  | none => rfl
  | some p => exact absurd (h.dom _ _ e) (Nat.lt_irrefl _)
theorem WR.blk (h : WR P r W w) {k : Nat} {o : Obj} {l : Bool} (hk : W.get k = some (o, l)) {b x : Nat} (hr : r k = some (b, x)) : ∃ o', w.heap[b]? = some o' ∧ OR P r x o o' ∧ (l = false → x = 0) := by
  obtain ⟨b', x', o', h1, h2, h3, h4⟩ := h.live k o l hk
  rw [hr] at h1
  injection h1 with h1
  injection h1 with h5 h6
  subst h5 h6
  exact ⟨o', h2, h3, h4⟩
theorem get_lt {α : Type} {a : Array α} {b : Nat} {o : α} (h : a[b]? = some o) : b < a.size := by
  apply Nat.lt_of_not_le
  intro hle
  rw [Array.getElem?_eq_none hle] at h
  cases h
theorem WR.new (h : WR P r W w) {o o' : Obj} (ho : OR P r 0 o o') : WR P (r.add W.next w.heap.size 0) (W.new o false) { w with heap := w.heap.push o' } := by
  have hf := h.fresh
  have hle : r.le (r.add W.next w.heap.size 0) := Ren.le_add hf
  refine ⟨fun k p hk => ?_, fun k o1 l hk => ?_, fun j k b x y hj hk h1 h2 => ?_⟩
  · unfold Ren.add at hk
    by_cases e : k = W.next
    · subst e; exact Nat.lt_succ_self _
    · rw [if_neg e] at hk
      exact Nat.lt_succ_of_lt (h.dom k p hk)
  · rw [AW.get_new] at hk
    by_cases e : k = W.next
    · rw [if_pos e] at hk
      injection hk with hk
      injection hk with hk1 hk2
      subst hk1 hk2 e
      exact ⟨w.heap.size, 0, o', Ren.add_self _ _ _ _, by simp, ho.le hle, fun _ => rfl⟩
    · rw [if_neg e] at hk
      obtain ⟨b, x, o2, h1, h2, h3, h4⟩ := h.live k o1 l hk
      refine ⟨b, x, o2, (Ren.add_ne _ e).trans h1, ?_, h3.le hle, h4⟩
      have := get_lt h2
      simp only [Array.getElem?_push]
      rw [if_neg (by omega)]
      exact h2
  · unfold AW.holds at hj hk
    rw [AW.get_new] at hj hk
    have old : ∀ i z c, i ≠ W.next → W.get i ≠ none → r.add W.next w.heap.size 0 i = some (c, z) → c < w.heap.size := fun i z c hi hg hr => by
      rw [Ren.add_ne _ hi] at hr
      cases hgi : W.get i with
      | none => exact absurd hgi hg
      | some p =>
        obtain ⟨o2, l2⟩ := p
        obtain ⟨o3, h3, _⟩ := h.blk hgi hr
        exact get_lt h3
    by_cases e1 : j = W.next
    · by_cases e2 : k = W.next
      · rw [e1, e2]
      · rw [if_neg e2] at hk
        have := old k y b e2 hk h2
        rw [e1, Ren.add_self] at h1
        injection h1 with h1
        injection h1 with h1 _
        omega
    · rw [if_neg e1] at hj
      have h5 := old j x b e1 hj h1
      by_cases e2 : k = W.next
      · rw [e2, Ren.add_self] at h2
        injection h2 with h2
        injection h2 with h2 _
        omega
      · rw [if_neg e2] at hk
        rw [Ren.add_ne _ e1] at h1
        rw [Ren.add_ne _ e2] at h2
        exact h.inj j k b x y hj hk h1 h2
theorem Fr.new (h : WR P r W w) (o o' : Obj) : Fr r W w (r.add W.next w.heap.size 0) (W.new o false) { w with heap := w.heap.push o' } := by
  refine ⟨Ren.le_add h.fresh, Nat.le_succ _, rfl, rfl, rfl, rfl, by simp, fun b hb _ => ?_, fun k hk hr => (Ren.add_ne r (Nat.ne_of_lt hk)).trans hr, fun k hk hg => by rw [AW.get_new, if_neg (Nat.ne_of_lt hk)]; exact hg, fun k o1 hk => ⟨o1, by
    rw [AW.get_new, if_neg (fun e => by
      subst e
      obtain ⟨b, x, _, h1, _⟩ := h.live _ _ _ hk
      rw [h.fresh] at h1
      cases h1)]
    exact hk⟩, fun k b x hk hr hb => ?_⟩
  · simp only [Array.getElem?_push]
    rw [if_neg (by omega)]
  · unfold AW.holds at hk
    rw [AW.get_new] at hk
    by_cases e : k = W.next
    · subst e
      rw [Ren.add_self] at hr
      injection hr with hr
      injection hr with hr _
      omega
    · rw [if_neg e] at hk
      rw [Ren.add_ne _ e] at hr
      exact ⟨k, x, hk, hr, id⟩
/-- A block that is put in another one's place. -/
theorem WR.put (h : WR P r W w) {k b x : Nat} {o o1 o2 : Obj} {l : Bool} (hk : W.get k = some (o, l)) (hr : r k = some (b, x)) (ho : OR P r x o1 o2) {w1 : World}
    (h1 : w1.heap[b]? = some o2) (h2 : ∀ c, c ≠ b → w1.heap[c]? = w.heap[c]?) : WR P r (W.set k (some (o1, l))) w1 := by
  refine ⟨h.dom, fun j o' l' hj => ?_, fun i j c y z hi hj hri hrj => ?_⟩
  · rw [AW.get_set] at hj
    by_cases e : j = k
    · subst e
      rw [if_pos rfl] at hj
      injection hj with hj
      injection hj with hj1 hj2
      subst hj1 hj2
      obtain ⟨o4, _, _, h6⟩ := h.blk hk hr
      exact ⟨b, x, o2, hr, h1, ho, h6⟩
    · rw [if_neg e] at hj
      obtain ⟨b', x', o', h3, h4, h5, h6⟩ := h.live j _ _ hj
      refine ⟨b', x', o', h3, ?_, h5, h6⟩
      rw [h2]
      · exact h4
      · rintro rfl
        exact e (h.inj j k b' x' x (by unfold AW.holds; rw [hj]; simp) (by unfold AW.holds; rw [hk]; simp) h3 hr)
  · have lift : ∀ i, (W.set k (some (o1, l))).holds i → W.holds i := fun i hi => by
      unfold AW.holds at hi ⊢
      rw [AW.get_set] at hi
      by_cases e : i = k
      · subst e; rw [hk]; simp
      · rw [if_neg e] at hi; exact hi
    exact h.inj i j c y z (lift i hi) (lift j hj) hri hrj
theorem Fr.put {k b x : Nat} {o o1 : Obj} {l : Bool} (hk : W.get k = some (o, l)) (hro : W.ro ≤ k) (hr : r k = some (b, x)) {w1 : World}
    (h0 : w1.os = w.os) (h3 : w1.tape = w.tape) (h4 : w1.output = w.output) (h5 : w1.heap.size = w.heap.size) (h2 : ∀ c, c ≠ b → w1.heap[c]? = w.heap[c]?) : Fr r W w r (W.set k (some (o1, l))) w1 := by
  refine ⟨r.le_refl, Nat.le_refl _, rfl, h0, h3, h4, Nat.le_of_eq h5.symm, fun c _ hn => h2 c ?_, fun _ _ h => h, fun j _ hj => by
    rw [AW.get_set, if_neg (fun e => by subst e; rw [hk] at hj; cases hj)]
    exact hj, fun j o3 hj => ?_, fun j c y hj hrj _ => ?_⟩
  · rintro rfl
    exact hn k x (by unfold AW.holds; rw [hk]; simp) hro hr
  · rw [AW.get_set]
    by_cases e : j = k
    · subst e
      rw [hk] at hj
      injection hj with hj
      injection hj with _ hj
      subst hj
      exact ⟨o1, if_pos rfl⟩
    · exact ⟨o3, (if_neg e).trans hj⟩
  · refine ⟨j, y, ?_, hrj, id⟩
    unfold AW.holds at hj ⊢
    rw [AW.get_set] at hj
    by_cases e : j = k
    · subst e; rw [hk]; simp
    · rw [if_neg e] at hj; exact hj

theorem cell_of {c : Array Value} {e : TypeId} {fz : Nat × Nat} {b o : Nat} {v : Value} (h : w.heap[b]? = some (.cells c e fz)) (hv : c[o]? = some v) : w.cell? ⟨b, o, none⟩ = some v := by
  simp [World.cell?, h, hv]
theorem heap_setCell_ne (w : World) {b o c : Nat} (v : Value) (h : c ≠ b) : (w.setCell ⟨b, o, none⟩ v).heap[c]? = w.heap[c]? := by
  simp [World.setCell, Array.getElem?_modify, Ne.symm h]
theorem heap_setCell_eq {w : World} {b o : Nat} {c : Array Value} {e : TypeId} {fz : Nat × Nat} (v : Value) (h : w.heap[b]? = some (.cells c e fz)) : (w.setCell ⟨b, o, none⟩ v).heap[b]? = some (.cells (c.setIfInBounds o v) e fz) := by
  simp [World.setCell, Array.getElem?_modify, h]
theorem heap_setCell_size (w : World) (a : Addr) (v : Value) : (w.setCell a v).heap.size = w.heap.size := by
  simp [World.setCell]
theorem one_of {r : Ren} {v v' : Value} (h : VR r v v') (h1 : oneCell v = true) : oneCell v' = true := by
  cases h <;> first | rfl | cases h1
theorem run_store_one {α : Type} {P : Program} {m : Mode} {a : Addr} {v : Value} {k : Sem α} {w : World} {u : Value} (h : oneCell v = true) (hc : w.cell? a = some u) (hf : w.frozen? a = false) : (Sem.store m a v k).run P w = k.run P (w.setCell a v) := by
  cases v <;> first | (simp [Sem.run, hc, hf]; done) | cases h
end

theorem SemR.run {P : Program} {α β : Type} {R : Ren → α → β → Prop} {r : Ren} {s : Sem α} {s' : Sem β} (h : SemR P R r s s') : ∀ (W : AW) (w : World), WR P r W w → ∀ (a : α) (W1 : AW), arun P s W = some (a, W1) →
    ∃ r1 b w1, s'.run P w = .ok b w1 ∧ R r1 a b ∧ WR P r1 W1 w1 ∧ Fr r W w r1 W1 w1 := by
  induction h with
  | pure h =>
    intro W w hw a W1 e
    simp only [arun, Option.some.injEq, Prod.mk.injEq] at e
    obtain ⟨rfl, rfl⟩ := e
    exact ⟨_, _, w, rfl, h, hw, Fr.refl _ _ _⟩
  | @load r m a a' k k' ha _ ih =>
    intro W w hw x W1 e
    obtain ⟨b', y, h1, rfl⟩ := ha
    obtain ⟨ab, ao, asp⟩ := a
    simp only [arun] at e
    split at e
    · rename_i c ce fz l hg
      simp only at hg h1
      rw [nthL_eq] at e
      split at e
      · rename_i v hv
        obtain ⟨o', h2, h3, _⟩ := hw.blk hg h1
        cases h3 with
        | cells h4 h5 =>
          obtain ⟨v', h6, h7⟩ := h5 ao v (by simpa using hv)
          obtain ⟨r1, b, w1, h8, h9⟩ := ih r v v' (Ren.le_refl r) h7 W w hw x W1 e
          refine ⟨r1, b, w1, ?_, h9⟩
          simp only [Sem.run]
          rw [cell_of h2 h6]
          exact h8
      · cases e
    · cases e
  | @store r m a a' v v' k k' ha hv _ ih =>
    intro W w hw x W1 e
    obtain ⟨b', y, h1, rfl⟩ := ha
    obtain ⟨ab, ao, asp⟩ := a
    simp only [arun] at e
    split at e
    · rename_i c ce lo hi l hone hro hg
      simp only at hg h1 hro
      split at e
      · rename_i hin hfz
        obtain ⟨o', h2, h3, _⟩ := hw.blk hg h1
        cases h3 with
        | @cells _ c' _ _ h4 h5 =>
          have hin' : ao < c.size := by have := Nat.le_of_ble_eq_true hin; simp at this; omega
          obtain ⟨u', hu1, hu2⟩ := h5 ao c[ao] (Array.getElem?_eq_getElem hin')
          have hcell := cell_of h2 hu1
          have hfree : w.frozen? ⟨b', ao, none⟩ = false := by
            simp only [World.frozen?, h2]
            cases h10 : (decide (lo ≤ ao) && decide (ao < hi)) with
            | false => rfl
            | true =>
              simp only [Bool.and_eq_true, decide_eq_true_eq] at h10
              have e1 : Nat.ble lo ao = true := Nat.ble_eq_true_of_le h10.1
              have e2 : Nat.ble (ao + 1) hi = true := Nat.ble_eq_true_of_le h10.2
              rw [e1, e2] at hfz
              cases hfz
          have hrun := run_store_one (P := P) (m := m) (k := k') (one_of hv hone) hcell hfree
          have h11 := heap_setCell_eq (o := ao) v' h2
          have hor : OR P r y (.cells ⟨setL c.toList ao v⟩ ce (lo, hi)) (.cells (c'.setIfInBounds ao v') ce (lo, hi)) := by
            refine .cells ?_ fun i t ht => ?_
            · rw [setL_eq]
              simpa using h4
            · rw [setL_eq] at ht
              simp only [List.getElem?_toArray, List.getElem?_set, Array.length_toList, Array.getElem?_toList] at ht
              rw [Array.getElem?_setIfInBounds]
              by_cases ei : ao = i
              · subst ei
                rw [if_pos rfl, if_pos hin'] at ht
                injection ht with ht
                subst ht
                rw [if_pos rfl, if_pos (by omega)]
                exact ⟨v', rfl, hv⟩
              · rw [if_neg ei] at ht ⊢
                exact h5 i t ht
          obtain ⟨r1, b, w1, h8, h9, h12, h13⟩ := ih (W.set ab (some (.cells ⟨setL c.toList ao v⟩ ce (lo, hi), l))) (w.setCell ⟨b', ao, none⟩ v') (hw.put hg h1 hor h11 (fun d hd => heap_setCell_ne w v' hd)) x W1 e
          refine ⟨r1, b, w1, hrun.trans h8, h9, h12, Fr.trans (Fr.put (w1 := w.setCell ⟨b', ao, none⟩ v') hg (Nat.le_of_ble_eq_true hro) h1 rfl rfl rfl (heap_setCell_size _ _ _) (fun d hd => heap_setCell_ne w v' hd)) h13⟩
      · cases e
    · cases e
  | @new r o o' k k' ho _ ih =>
    intro W w hw x W1 e
    simp only [arun] at e
    obtain ⟨r1, b, w1, h8, h9, h12, h13⟩ := ih (r.add W.next w.heap.size 0) W.next w.heap.size (Ren.le_add hw.fresh) (Ren.add_self _ _ _ _) (W.new o false) _ (hw.new ho) x W1 e
    exact ⟨r1, b, w1, h8, h9, h12, Fr.trans (Fr.new hw o o') h13⟩
  | @shape r b b' x k k' hb _ ih =>
    intro W w hw y W1 e
    simp only [arun] at e
    split at e
    · rename_i c ce fz hg
      obtain ⟨o', h2, h3, h4⟩ := hw.blk hg hb
      have h0 := h4 rfl
      subst h0
      cases h3 with
      | @cells _ c' _ _ h5 _ =>
        obtain ⟨r1, b, w1, h8, h9⟩ := ih (some (ce, c.size)) W w hw y W1 e
        refine ⟨r1, b, w1, ?_, h9⟩
        simp only [Sem.run, World.shape?, h2]
        rw [show c'.size = c.size by omega]
        exact h8
    · rename_i s p l hg
      obtain ⟨o', h2, h3, h4⟩ := hw.blk hg hb
      cases h3
      obtain ⟨r1, b, w1, h8, h9⟩ := ih none W w hw y W1 e
      refine ⟨r1, b, w1, ?_, h9⟩
      simp only [Sem.run, World.shape?, h2]
      exact h8
    · cases e
  | @frozen r a a' k k' ha _ ih =>
    intro W w hw y W1 e
    obtain ⟨b', z, h1, rfl⟩ := ha
    obtain ⟨ab, ao, asp⟩ := a
    simp only [arun] at e
    split at e
    · rename_i c ce lo hi l hg
      obtain ⟨o', h2, h3, _⟩ := hw.blk hg h1
      cases h3 with
      | @cells _ c' _ _ h5 _ =>
        obtain ⟨r1, b, w1, h8, h9⟩ := ih (decide (lo ≤ ao) && decide (ao < hi)) W w hw y W1 e
        refine ⟨r1, b, w1, ?_, h9⟩
        simp only [Sem.run, World.frozen?, h2]
        exact h8
    · cases e
  | @getObj r b b' x k k' hb _ ih =>
    intro W w hw y W1 e
    simp only [arun] at e
    split at e
    · rename_i s p l hg
      obtain ⟨o', h2, h3, _⟩ := hw.blk hg hb
      cases h3
      obtain ⟨r1, b, w1, h8, h9⟩ := ih r _ _ (Ren.le_refl r) (.iter s p) W w hw y W1 e
      refine ⟨r1, b, w1, ?_, h9⟩
      simp only [Sem.run, h2]
      exact h8
    · rename_i es n l hg
      obtain ⟨o', h2, h3, _⟩ := hw.blk hg hb
      cases h3 with
      | map _ hm =>
        obtain ⟨r1, b, w1, h8, h9⟩ := ih r _ _ (Ren.le_refl r) (.map n hm) W w hw y W1 e
        refine ⟨r1, b, w1, ?_, h9⟩
        simp only [Sem.run, h2]
        exact h8
    · rename_i m n a z l hg
      obtain ⟨o', h2, h3, _⟩ := hw.blk hg hb
      obtain ⟨r1, b, w1, h8, h9⟩ := ih r _ _ (Ren.le_refl r) h3 W w hw y W1 e
      refine ⟨r1, b, w1, ?_, h9⟩
      cases h3 <;> simp only [Sem.run, h2] <;> exact h8
    · cases e
  | @setObj r b b' x o o' k k' hb ho _ ih =>
    intro W w hw y W1 e
    simp only [arun] at e
    split at e
    · rename_i s p s0 p0 l hro hg
      obtain ⟨o2, h2, h3, _⟩ := hw.blk hg hb
      cases h3
      cases ho
      have hlt := get_lt h2
      have e1 : ({ w with heap := w.heap.setIfInBounds b' (.stringIter s p) } : World).heap[b']? = some (.stringIter s p) := by
        simp [hlt]
      have e2 : ∀ d, d ≠ b' → ({ w with heap := w.heap.setIfInBounds b' (.stringIter s p) } : World).heap[d]? = w.heap[d]? := fun d hd => by
        simp [Ne.symm hd]
      obtain ⟨r1, c, w1, h8, h9, h12, h13⟩ := ih (W.set b (some (.stringIter s p, l))) { w with heap := w.heap.setIfInBounds b' (.stringIter s p) } (hw.put hg hb (.iter s p) e1 e2) y W1 e
      refine ⟨r1, c, w1, ?_, h9, h12, Fr.trans (Fr.put (w1 := { w with heap := w.heap.setIfInBounds b' (.stringIter s p) }) hg (Nat.le_of_ble_eq_true hro) hb rfl rfl rfl (by simp) e2) h13⟩
      simp only [Sem.run, h2]
      exact h8
    · rename_i es n es0 n0 l hro hg
      obtain ⟨o2, h2, h3, _⟩ := hw.blk hg hb
      cases h3 with
      | map _ hm0 =>
        cases ho with
        | @map _ es' _ hm =>
          have hlt := get_lt h2
          have e1 : ({ w with heap := w.heap.setIfInBounds b' (.map es' n) } : World).heap[b']? = some (.map es' n) := by
            simp [hlt]
          have e2 : ∀ d, d ≠ b' → ({ w with heap := w.heap.setIfInBounds b' (.map es' n) } : World).heap[d]? = w.heap[d]? := fun d hd => by
            simp [Ne.symm hd]
          obtain ⟨r1, c, w1, h8, h9, h12, h13⟩ := ih (W.set b (some (.map es n, l))) { w with heap := w.heap.setIfInBounds b' (.map es' n) } (hw.put hg hb (.map n hm) e1 e2) y W1 e
          refine ⟨r1, c, w1, ?_, h9, h12, Fr.trans (Fr.put (w1 := { w with heap := w.heap.setIfInBounds b' (.map es' n) }) hg (Nat.le_of_ble_eq_true hro) hb rfl rfl rfl (by simp) e2) h13⟩
          simp only [Sem.run, h2]
          exact h8
    · rename_i m n a z m0 n0 a0 z0 l hro hg
      obtain ⟨o2, h2, h3, _⟩ := hw.blk hg hb
      have hlt := get_lt h2
      have e1 : ({ w with heap := w.heap.setIfInBounds b' o' } : World).heap[b']? = some o' := by
        simp [hlt]
      have e2 : ∀ d, d ≠ b' → ({ w with heap := w.heap.setIfInBounds b' o' } : World).heap[d]? = w.heap[d]? := fun d hd => by
        simp [Ne.symm hd]
      obtain ⟨r1, c, w1, h8, h9, h12, h13⟩ := ih (W.set b (some (.mapIter m n a z, l))) { w with heap := w.heap.setIfInBounds b' o' } (hw.put hg hb ho e1 e2) y W1 e
      refine ⟨r1, c, w1, ?_, h9, h12, Fr.trans (Fr.put (w1 := { w with heap := w.heap.setIfInBounds b' o' }) hg (Nat.le_of_ble_eq_true hro) hb rfl rfl rfl (by simp) e2) h13⟩
      cases h3 <;> cases ho <;> simp only [Sem.run, h2] <;> exact h8
    · cases e
  | @choose r q k k' _ ih =>
    intro W w hw y W1 e
    simp only [arun] at e
    split at e
    · rename_i hq
      obtain ⟨r1, b, w1, h8, h9⟩ := ih W w hw y W1 e
      refine ⟨r1, b, w1, ?_, h9⟩
      simp only [Sem.run, hq, if_true]
      exact h8
    · cases e
  | @chooseNo r q k s' hq =>
    intro W w hw y W1 e
    simp [arun, hq] at e
  | program _ ih =>
    intro W w hw y W1 e
    exact ih W w hw y W1 e
  | mark _ ih =>
    intro W w hw y W1 e
    exact ih W w hw y W1 e
  | programR _ ih =>
    intro W w hw y W1 e
    exact ih W w hw y W1 e
  | markR _ ih =>
    intro W w hw y W1 e
    exact ih W w hw y W1 e
  | @apart r a a' b b' k s' ha hb hne _ ih =>
    intro W w hw y W1 e
    obtain ⟨c1, z1, h1, rfl⟩ := ha
    obtain ⟨c2, z2, h2, rfl⟩ := hb
    simp only [arun] at e
    split at e
    · rename_i _ _ _ _ _ hg1
      split at e
      · rename_i _ _ _ _ _ hg2
        refine ih ?_ _ _ W w hw y W1 e
        rintro he
        simp only at he
        subst he
        exact hne (hw.inj _ _ _ _ _ (by unfold AW.holds; rw [hg1]; simp) (by unfold AW.holds; rw [hg2]; simp) h1 h2)
      · cases e
    · cases e
  | @shapeL r b b' x k s' hb _ ih =>
    intro W w hw y W1 e
    simp only [arun] at e
    split at e
    · rename_i c ce fz hg
      obtain ⟨o', h2, h3, h4⟩ := hw.blk hg hb
      exact ih _ (fun _ => h4 rfl) W w hw y W1 e
    · exact ih none (fun h => by cases h) W w hw y W1 e
    · cases e
  | dead h =>
    intro W w hw y W1 e
    rw [h] at e
    cases e
  | freezeNo => intro W w hw y W1 e; cases e
  | sysNo => intro W w hw y W1 e; cases e
  | halt => intro W w hw y W1 e; cases e
end Go.Proofs.Ytkodblhompphjaa
