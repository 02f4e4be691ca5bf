/- The law TiePlays: where the two ties and the document's stand. -/
import Derived.Test.YtkodblhompphjaaVbd
namespace Go.Proofs.Ytkodblhompphjaa
open Go.RowKit
set_option maxRecDepth 20000

/-- What a step makes of the list. -/
noncomputable def doT (l : List Te) (o : TOp) : List Te :=
  if o.kd = 1 then (linkF l ⟨o.an, o.ag⟩ ⟨o.bn, o.bg⟩).1 else if o.kd = 2 then (unlinkF l ⟨o.an, o.ag⟩ ⟨o.bn, o.bg⟩).1 else if o.kd = 3 then (monF l o.rf ⟨o.an, o.ag⟩ ⟨o.bn, o.bg⟩).1 else if o.kd = 4 then (demF l o.rf).1 else if o.kd = 5 then goneT l ⟨o.an, o.ag⟩ else l
theorem does_any (R : TiesRep) (K : TiesDoes R) (M : TiesMore R) {w : World} {b : Nat} {F : List Nat} {xs : List Te} (hr : R.rep w b F xs) (A : Option Addr) (cap : Nat) (h : RdS KT w A xs) (hA : xs ≠ [] → ∀ bl off, A = some ⟨bl, off, none⟩ → bl ∉ F) (o : TOp) :
    Calls Try.prog 9 #[ptB b, .agg (tiC true (.slice A xs.length cap)), .agg o.cs] w (DoesE R w b F (.slice A xs.length cap) xs (doT xs o)) := by
  by_cases h1 : o.kd = 1
  · rw [show doT xs o = (linkF xs ⟨o.an, o.ag⟩ ⟨o.bn, o.bg⟩).1 by unfold doT; rw [if_pos h1]]
    exact does_1 R K M hr A cap h o h1
  by_cases h2 : o.kd = 2
  · rw [show doT xs o = (unlinkF xs ⟨o.an, o.ag⟩ ⟨o.bn, o.bg⟩).1 by unfold doT; rw [if_neg h1, if_pos h2]]
    exact does_2 R K M hr A cap h o h2
  by_cases h3 : o.kd = 3
  · rw [show doT xs o = (monF xs o.rf ⟨o.an, o.ag⟩ ⟨o.bn, o.bg⟩).1 by unfold doT; rw [if_neg h1, if_neg h2, if_pos h3]]
    exact does_3 R K M hr A cap h o h3
  by_cases h4 : o.kd = 4
  · rw [show doT xs o = (demF xs o.rf).1 by unfold doT; rw [if_neg h1, if_neg h2, if_neg h3, if_pos h4]]
    exact does_4 R K M hr A cap h o h4
  by_cases h5 : o.kd = 5
  · rw [show doT xs o = goneT xs ⟨o.an, o.ag⟩ by unfold doT; rw [if_neg h1, if_neg h2, if_neg h3, if_neg h4, if_pos h5]]
    exact does_5 R K M hr A cap h hA o h5
  rw [show doT xs o = xs by unfold doT; rw [if_neg h1, if_neg h2, if_neg h3, if_neg h4, if_neg h5]]
  exact does_none R K M hr A cap h o ⟨h1, h2, h3, h4, h5⟩

/-- One side: the program's ties, the document's row. -/
structure TP (R : TiesRep) (W : World) (b : Nat) (F : List Nat) (v : Value) (l : List Te) (wr : World) : Prop where
  rep : R.rep wr b F l
  row : OwnS KT wr W.heap.size v l
  ap : ∀ g, v.ownBlock = some g → g ∉ F
  lo : ∀ g ∈ F, W.heap.size ≤ g
section
variable {R : TiesRep} {W wr w' : World} {b : Nat} {F : List Nat} {v : Value} {l l2 : List Te} {e : Ending}
theorem TP.only (T : TP R W b F v l wr) {S : List Nat} (o : Only S wr w') (h1 : ∀ g ∈ F, g ∉ S) (h2 : ∀ g, v.ownBlock = some g → g ∉ S) : TP R W b F v l w' := ⟨R.only T.rep o h1, T.row.only o h2, T.ap, T.lo⟩
theorem TP.only0 (T : TP R W b F v l wr) (o : Only [] wr w') : TP R W b F v l w' := T.only o (by simp) (by simp)
theorem TP.form (T : TP R W b F v l wr) : ∃ A c, v = .slice A l.length c ∧ RdS KT wr A l ∧ (l ≠ [] → ∀ bl off, A = some ⟨bl, off, none⟩ → bl ∉ F) := by
  obtain ⟨A, c, rfl, -, -, hr, ha⟩ := T.row.form
  exact ⟨A, c, rfl, hr, fun _ bl off hA => T.ap bl (ha bl off hA).2.2.2⟩
/-- A step on both sides. -/
theorem TP.does (T : TP R W b F v l wr) (oW : Only [] W wr) (d : DoesE R wr b F v l l2 e w') :
    ∃ v2 F2, e = .returned (.tuple #[.agg (tiC true v2), .bool true]) ∧ TP R W b F2 v2 l2 w' ∧ Only F wr w' ∧ (∀ g ∈ F2, g ∈ F ∨ wr.heap.size ≤ g) ∧ (∀ g, v2.ownBlock = some g → v2 = v ∨ wr.heap.size ≤ g) := by
  obtain ⟨v2, F2, he, hrep, hl, hF, hv, o⟩ := d
  refine ⟨v2, F2, he, ⟨hrep, ?_, fun g hg hm => ?_, fun g hg => ?_⟩, o, hF, fun g hg => ?_⟩
  · rcases hl with ⟨rfl, rfl⟩ | hl
    · exact T.row.only o T.ap
    · exact hl.low oW.size
  · rcases hv g hg with rfl | h
    · rcases hF g hm with h | h
      · exact T.ap g hg h
      · have := (T.row.block hg).2
        omega
    · exact h hm
  · rcases hF g hg with h | h
    · exact T.lo g h
    · exact Nat.le_trans oW.size h
  · rcases hl with ⟨rfl, rfl⟩ | hl
    · exact .inl rfl
    · exact .inr (hl.block hg).1
end
/-- The other side, if there is one: c, and the document's v in block r6. No block of N is the ties'. -/
structure CB (R : TiesRep) (W : World) (N : List Nat) (b' : Nat) (F' : List Nat) (v' : Value) (l' : List Te) (F : List Nat) (v : Value) (wr : World) : Prop where
  t : TP R W b' F' v' l' wr
  x1 : ∀ g ∈ F', g ∉ F
  x2 : ∀ g, v.ownBlock = some g → g ∉ F'
  x3 : ∀ g, v'.ownBlock = some g → g ∉ F
  nF : ∀ g ∈ N, g ∉ F'
def CSt (R : TiesRep) (W : World) (N : List Nat) (r6 : Nat) (cv : Value) (F : List Nat) (v : Value) (wr : World) : Prop :=
  (cv = .pointer none ∧ Bk wr r6 tyTi (tiC false (.slice none 0 0))) ∨ ∃ b' F' v' l', cv = ptB b' ∧ Bk wr r6 tyTi (tiC true v') ∧ CB R W N b' F' v' l' F v wr
/-- All but what c is. -/
structure T0 (R : TiesRep) (W : World) (N : List Nat) (b r4 r6 : Nat) (v4 : Value) (F : List Nat) (v : Value) (l : List Te) (f : Bool) (u : Value) (wr : World) : Prop where
  t : TP R W b F v l wr
  b4 : Bk wr r4 tyTi (tiC true v4)
  b6 : Bk wr r6 tyTi (tiC f u)
  nF : ∀ g ∈ N, g ∉ F
  nl : ∀ g ∈ N, g < wr.heap.size
  m4 : r4 ∈ N
  m6 : r6 ∈ N
  o : Only [] W wr
  lo : (∀ g ∈ N, W.heap.size ≤ g) ∧ r4 ≠ r6
/-- All of it; v4 is what block r4 holds. -/
def TS (R : TiesRep) (W : World) (N : List Nat) (b r4 r6 : Nat) (cv v4 : Value) (F : List Nat) (v : Value) (l : List Te) (wr : World) : Prop := ∃ f u, T0 R W N b r4 r6 v4 F v l f u wr ∧ CSt R W N r6 cv F v wr
section
variable {R : TiesRep} {W wr w' : World} {N : List Nat} {b r4 r6 : Nat} {cv v4 : Value} {F : List Nat} {v : Value} {l l2 : List Te} {e : Ending} {f : Bool} {u : Value} {b' : Nat} {F' : List Nat} {v' : Value} {l' l2' : List Te}
theorem CB.only (c : CB R W N b' F' v' l' F v wr) (o : Only [] wr w') : CB R W N b' F' v' l' F v w' := ⟨c.t.only0 o, c.x1, c.x2, c.x3, c.nF⟩
theorem CSt.only (c : CSt R W N r6 cv F v wr) (o : Only [] wr w') : CSt R W N r6 cv F v w' := by
  rcases c with ⟨h1, h2⟩ | ⟨b', F', v', l', h1, h2, h3⟩
  · exact .inl ⟨h1, h2.only o (by simp)⟩
  · exact .inr ⟨b', F', v', l', h1, h2.only o (by simp), h3.only o⟩
theorem T0.only (T : T0 R W N b r4 r6 v4 F v l f u wr) (o : Only [] wr w') : T0 R W N b r4 r6 v4 F v l f u w' := ⟨T.t.only0 o, T.b4.only o (by simp), T.b6.only o (by simp), T.nF, fun g hg => Nat.lt_of_lt_of_le (T.nl g hg) o.size, T.m4, T.m6, T.o.trans o (by simp), T.lo⟩
theorem TS.only (T : TS R W N b r4 r6 cv v4 F v l wr) (o : Only [] wr w') : TS R W N b r4 r6 cv v4 F v l w' := by
  obtain ⟨f, u, t, c⟩ := T
  exact ⟨f, u, t.only o, c.only o⟩
/-- A block just made is nobody's. -/
theorem TS.alloc (T : TS R W N b r4 r6 cv v4 F v l wr) (o : Obj) : TS R W (wr.heap.size :: N) b r4 r6 cv v4 F v l (wr.alloc o) := by
  have oz : Only [] wr (wr.alloc o) := (Only.refl [] wr).alloc o
  obtain ⟨f, u, t, c⟩ := T
  have t' := t.only oz
  have no : ∀ {G : List Nat} {bb : Nat} {ll : List Te}, R.rep wr bb G ll → ∀ g ∈ wr.heap.size :: N, (∀ g ∈ N, g ∉ G) → g ∉ G := fun hr g hg hN hm => by
    rcases List.mem_cons.1 hg with rfl | hg
    · exact Nat.lt_irrefl _ (R.lt hr _ hm)
    · exact hN g hg hm
  refine ⟨f, u, ⟨t'.t, t'.b4, t'.b6, fun g hg => no t.t.rep g hg t.nF, fun g hg => ?_, List.mem_cons_of_mem _ t.m4, List.mem_cons_of_mem _ t.m6, t'.o, ⟨fun g hg => ?_, t.lo.2⟩⟩, ?_⟩
  · rcases List.mem_cons.1 hg with rfl | hg
    · simp
    · exact t'.nl g hg
  · rcases List.mem_cons.1 hg with rfl | hg
    · exact t.o.size
    · exact t.lo.1 g hg
  · rcases c with ⟨h1, h2⟩ | ⟨b', F', v', l', h1, h2, h3⟩
    · exact .inl ⟨h1, h2.only oz (by simp)⟩
    · have h3' := h3.only oz
      exact .inr ⟨b', F', v', l', h1, h2.only oz (by simp), ⟨h3'.t, h3'.x1, h3'.x2, h3'.x3, fun g hg => no h3.t.rep g hg h3.nF⟩⟩
theorem TS.less {g : Nat} (T : TS R W (g :: N) b r4 r6 cv v4 F v l wr) (h4 : r4 ∈ N) (h6 : r6 ∈ N) : TS R W N b r4 r6 cv v4 F v l wr := by
  obtain ⟨f, u, t, c⟩ := T
  refine ⟨f, u, ⟨t.t, t.b4, t.b6, fun g hg => t.nF g (List.mem_cons_of_mem _ hg), fun g hg => t.nl g (List.mem_cons_of_mem _ hg), h4, h6, t.o, ⟨fun g hg => t.lo.1 g (List.mem_cons_of_mem _ hg), t.lo.2⟩⟩, ?_⟩
  rcases c with ⟨h1, h2⟩ | ⟨b', F', v', l', h1, h2, h3⟩
  · exact .inl ⟨h1, h2⟩
  · exact .inr ⟨b', F', v', l', h1, h2, ⟨h3.t, h3.x1, h3.x2, h3.x3, fun g hg => h3.nF g (List.mem_cons_of_mem _ hg)⟩⟩
theorem kt : KT.e ≠ tyTi := by decide +kernel
theorem own_not {W : World} {x : Value} {ys : List Te} (h : OwnS KT wr W.heap.size x ys) {r : Nat} {cs : Array Value} (k : Bk wr r tyTi cs) : ∀ g, x.ownBlock = some g → g ∉ [r] := fun g hg hm => by
  obtain ⟨cs', k'⟩ := h.kind hg
  exact k'.apart k kt (by simpa using hm)
theorem TP.byTi (T : TP R W b F v l wr) {r : Nat} {cs : Array Value} (k : Bk wr r tyTi cs) (hr : r ∉ F) (o : Only [r] wr w') : TP R W b F v l w' :=
  T.only o (fun g hg hm => hr ((by simpa using hm : g = r) ▸ hg)) (own_not T.row k)
/-- A block of N that is neither r4 nor r6 is stored into. -/
theorem TS.other (T : TS R W N b r4 r6 cv v4 F v l wr) {r : Nat} {cs : Array Value} (k : Bk wr r tyTi cs) (hr : r ∈ N) (h4 : r4 ≠ r) (h6 : r6 ≠ r) (o : Only [r] wr w') : TS R W N b r4 r6 cv v4 F v l w' := by
  obtain ⟨f, u, t, c⟩ := T
  refine ⟨f, u, ⟨t.t.byTi k (t.nF r hr) o, t.b4.only o (by simpa using h4), t.b6.only o (by simpa using h6), t.nF, fun g hg => Nat.lt_of_lt_of_le (t.nl g hg) o.size, t.m4, t.m6, t.o.trans o (fun i hi => .inr (by have := t.lo.1 r hr; simp at hi; omega)), t.lo⟩, ?_⟩
  rcases c with ⟨h1, h2⟩ | ⟨b', F', v', l', h1, h2, h3⟩
  · exact .inl ⟨h1, h2.only o (by simpa using h6)⟩
  · exact .inr ⟨b', F', v', l', h1, h2.only o (by simpa using h6), ⟨h3.t.byTi k (h3.nF r hr) o, h3.x1, h3.x2, h3.x3, h3.nF⟩⟩
/-- A step of t. -/
theorem TS.does (T : TS R W N b r4 r6 cv v4 F v l wr) (d : DoesE R wr b F v l l2 e w') : ∃ v2 F2, e = .returned (.tuple #[.agg (tiC true v2), .bool true]) ∧ TS R W N b r4 r6 cv v4 F2 v2 l2 w' ∧ Only F wr w' ∧ (∀ g ∈ N, g ∉ F) := by
  obtain ⟨f, u, t, c⟩ := T
  obtain ⟨v2, F2, he, t2, o, hF, hv⟩ := t.t.does t.o d
  refine ⟨v2, F2, he, ⟨f, u, ⟨t2, t.b4.only o (t.nF _ t.m4), t.b6.only o (t.nF _ t.m6), fun g hg hm => ?_, fun g hg => Nat.lt_of_lt_of_le (t.nl g hg) o.size, t.m4, t.m6, t.o.trans o (fun i hi => .inr (t.t.lo i hi)), t.lo⟩, ?_⟩, o, t.nF⟩
  · rcases hF _ hm with h | h
    · exact t.nF g hg h
    · have := t.nl g hg
      omega
  · rcases c with ⟨h1, h2⟩ | ⟨b', F', v', l', h1, h2, h3⟩
    · exact .inl ⟨h1, h2.only o (t.nF _ t.m6)⟩
    · refine .inr ⟨b', F', v', l', h1, h2.only o (t.nF _ t.m6), ⟨h3.t.only o h3.x1 h3.x3, fun g hg hm => ?_, fun g hg hm => ?_, fun g hg hm => ?_, h3.nF⟩⟩
      · rcases hF g hm with h | h
        · exact h3.x1 g hg h
        · have := R.lt h3.t.rep g hg
          omega
      · rcases hv g hg with rfl | h
        · exact h3.x2 g hg hm
        · have := R.lt h3.t.rep g hm
          omega
      · rcases hF g hm with h | h
        · exact h3.x3 g hg h
        · have := (h3.t.row.block hg).2
          omega
theorem set2 (wr : World) (r : Nat) (f : Bool) (u : Value) : Only [r] wr ((wr.setCell ⟨r, 0, none⟩ (.bool f)).setCell ⟨r, 1, none⟩ u) := ((Only.refl [r] wr).set (.inl (by simp)) _).set (.inl (by simp)) _
/-- The document's ties are put in r's place. -/
theorem TS.put4 (T : TS R W N b r4 r6 cv v4 F v l wr) (u : Value) : TS R W N b r4 r6 cv u F v l ((wr.setCell ⟨r4, 0, none⟩ (.bool true)).setCell ⟨r4, 1, none⟩ u) := by
  obtain ⟨f, u', t, c⟩ := T
  have o := set2 wr r4 true u
  have h6 : r6 ∉ [r4] := by have := t.lo.2; simp; omega
  refine ⟨f, u', ⟨t.t.byTi t.b4 (t.nF _ t.m4) o, (t.b4.set 0 _).set 1 _, t.b6.only o h6, t.nF, fun g hg => Nat.lt_of_lt_of_le (t.nl g hg) o.size, t.m4, t.m6, t.o.trans o (fun i hi => .inr (by have := t.lo.1 _ t.m4; simp at hi; omega)), t.lo⟩, ?_⟩
  rcases c with ⟨h1, h2⟩ | ⟨b', F', v', l', h1, h2, h3⟩
  · exact .inl ⟨h1, h2.only o h6⟩
  · exact .inr ⟨b', F', v', l', h1, h2.only o h6, ⟨h3.t.byTi t.b4 (h3.nF _ t.m4) o, h3.x1, h3.x2, h3.x3, h3.nF⟩⟩
/-- The document's ties are put in v's place: c is what was copied, or went on. -/
theorem T0.put6 (T : T0 R W N b r4 r6 v4 F v l f u wr) (c : CB R W N b' F' v' l' F v wr) : TS R W N b r4 r6 (ptB b') v4 F v l ((wr.setCell ⟨r6, 0, none⟩ (.bool true)).setCell ⟨r6, 1, none⟩ v') := by
  have o := set2 wr r6 true v'
  have h4 : r4 ∉ [r6] := by have := T.lo.2; simp; omega
  exact ⟨true, v', ⟨T.t.byTi T.b6 (T.nF _ T.m6) o, T.b4.only o h4, (T.b6.set 0 _).set 1 _, T.nF, fun g hg => Nat.lt_of_lt_of_le (T.nl g hg) o.size, T.m4, T.m6, T.o.trans o (fun i hi => .inr (by have := T.lo.1 _ T.m6; simp at hi; omega)), T.lo⟩,
    .inr ⟨b', F', v', l', rfl, (T.b6.set 0 _).set 1 _, ⟨c.t.byTi T.b6 (c.nF _ T.m6) o, c.x1, c.x2, c.x3, c.nF⟩⟩⟩
/-- A step of c. -/
theorem T0.does (T : T0 R W N b r4 r6 v4 F v l f u wr) (c : CB R W N b' F' v' l' F v wr) (d : DoesE R wr b' F' v' l' l2' e w') :
    ∃ v2 F2, e = .returned (.tuple #[.agg (tiC true v2), .bool true]) ∧ T0 R W N b r4 r6 v4 F v l f u w' ∧ CB R W N b' F2 v2 l2' F v w' ∧ Only F' wr w' := by
  obtain ⟨v2, F2, he, t2, o, hF, hv⟩ := c.t.does T.o d
  refine ⟨v2, F2, he, ⟨T.t.only o (fun g hg hm => c.x1 g hm hg) c.x2, T.b4.only o (c.nF _ T.m4), T.b6.only o (c.nF _ T.m6), T.nF, fun g hg => Nat.lt_of_lt_of_le (T.nl g hg) o.size, T.m4, T.m6, T.o.trans o (fun i hi => .inr (c.t.lo i hi)), T.lo⟩, ⟨t2, fun g hg hm => ?_, fun g hg hm => ?_, fun g hg hm => ?_, fun g hg hm => ?_⟩, o⟩
  · rcases hF g hg with h | h
    · exact c.x1 g h hm
    · have := R.lt T.t.rep g hm
      omega
  · rcases hF g hm with h | h
    · exact c.x2 g hg h
    · have := (T.t.row.block hg).2
      omega
  · rcases hv g hg with rfl | h
    · exact c.x3 g hg hm
    · have := R.lt T.t.rep g hm
      omega
  · rcases hF _ hm with h | h
    · exact c.nF g hg h
    · have := T.nl g hg
      omega
/-- A copy of t, beside it. -/
theorem T0.copied (T : T0 R W N b r4 r6 v4 F v l f u wr) (h : R.rep w' b' F' l) (hF : ∀ g ∈ F', wr.heap.size ≤ g) (o : Only [] wr w') : CB R W N b' F' v l F v w' := by
  refine ⟨⟨h, T.t.row.only o (by simp), fun g hg hm => ?_, fun g hg => Nat.le_trans T.o.size (hF g hg)⟩, fun g hg hm => ?_, fun g hg hm => ?_, T.t.ap, fun g hg hm => ?_⟩
  · have h1 := (T.t.row.block hg).2
    have h2 := hF g hm
    omega
  · have h1 := R.lt T.t.rep g hm
    have h2 := hF g hg
    omega
  · have h1 := (T.t.row.block hg).2
    have h2 := hF g hm
    omega
  · have h1 := T.nl g hg
    have h2 := hF g hm
    omega
theorem fresh_not {G : List Nat} {bb : Nat} {ll : List Te} (hr : R.rep wr bb G ll) (hN : ∀ g ∈ N, g ∉ G) : ∀ g ∈ wr.heap.size :: N, g ∉ G := fun g hg hm => by
  rcases List.mem_cons.1 hg with rfl | hg
  · exact Nat.lt_irrefl _ (R.lt hr _ hm)
  · exact hN g hg hm
theorem T0.alloc (T : T0 R W N b r4 r6 v4 F v l f u wr) (o : Obj) : T0 R W (wr.heap.size :: N) b r4 r6 v4 F v l f u (wr.alloc o) := by
  have oz : Only [] wr (wr.alloc o) := (Only.refl [] wr).alloc o
  have t' := T.only oz
  refine ⟨t'.t, t'.b4, t'.b6, fresh_not T.t.rep T.nF, fun g hg => ?_, List.mem_cons_of_mem _ T.m4, List.mem_cons_of_mem _ T.m6, t'.o, ⟨fun g hg => ?_, T.lo.2⟩⟩
  · rcases List.mem_cons.1 hg with rfl | hg
    · simp
    · exact t'.nl g hg
  · rcases List.mem_cons.1 hg with rfl | hg
    · exact T.o.size
    · exact T.lo.1 g hg
theorem CB.alloc (c : CB R W N b' F' v' l' F v wr) (o : Obj) : CB R W (wr.heap.size :: N) b' F' v' l' F v (wr.alloc o) := by
  have c' := c.only ((Only.refl [] wr).alloc o)
  exact ⟨c'.t, c'.x1, c'.x2, c'.x3, fresh_not c.t.rep c.nF⟩
theorem T0.less {g : Nat} (T : T0 R W (g :: N) b r4 r6 v4 F v l f u wr) (h4 : r4 ∈ N) (h6 : r6 ∈ N) : T0 R W N b r4 r6 v4 F v l f u wr :=
  ⟨T.t, T.b4, T.b6, fun g hg => T.nF g (List.mem_cons_of_mem _ hg), fun g hg => T.nl g (List.mem_cons_of_mem _ hg), h4, h6, T.o, ⟨fun g hg => T.lo.1 g (List.mem_cons_of_mem _ hg), T.lo.2⟩⟩
theorem CB.less {g : Nat} (c : CB R W (g :: N) b' F' v' l' F v wr) : CB R W N b' F' v' l' F v wr := ⟨c.t, c.x1, c.x2, c.x3, fun g hg => c.nF g (List.mem_cons_of_mem _ hg)⟩
theorem T0.other (T : T0 R W N b r4 r6 v4 F v l f u wr) {r : Nat} {cs : Array Value} (k : Bk wr r tyTi cs) (hr : r ∈ N) (h4 : r4 ≠ r) (h6 : r6 ≠ r) (o : Only [r] wr w') : T0 R W N b r4 r6 v4 F v l f u w' :=
  ⟨T.t.byTi k (T.nF r hr) o, T.b4.only o (by simpa using h4), T.b6.only o (by simpa using h6), T.nF, fun g hg => Nat.lt_of_lt_of_le (T.nl g hg) o.size, T.m4, T.m6, T.o.trans o (fun i hi => .inr (by have := T.lo.1 r hr; simp at hi; omega)), T.lo⟩
theorem CB.other (c : CB R W N b' F' v' l' F v wr) {r : Nat} {cs : Array Value} (k : Bk wr r tyTi cs) (hr : r ∈ N) (o : Only [r] wr w') : CB R W N b' F' v' l' F v w' := ⟨c.t.byTi k (c.nF r hr) o, c.x1, c.x2, c.x3, c.nF⟩
end
end Go.Proofs.Ytkodblhompphjaa
