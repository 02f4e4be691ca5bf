/- Maps of ties: what a map's datum is as a list of ties; keys that are pairs, elements that are ties. The program's ties in memory: two maps; what is done to each. The document's pair: may these two be linked? The document's Unlink. -/
import Derived.Test.YtkodblhompphjaaVg
import Derived.DeepKeys4
import Derived.Maps.RangeWalk
import Derived.Maps.Ext
import Derived.Test.YtkodblhompphjaaVf
import Derived.Test.YtkodblhompphjaaVe
import Derived.Test.YtkodblhompphjaaVc
namespace Go.Proofs.Ytkodblhompphjaa
open Go.RowKit Go.Maps

/-! ### A datum and a list of ties -/
section
variable {kl : Te → Lit} {dt : Te → DataW Unit}
/-- The datum has just the entries of S. -/
def Ents (kl : Te → Lit) (dt : Te → DataW Unit) (D : DataW Unit) (S : List Te) : Prop := ∃ ps, D = .map ps ∧ ps.Perm (S.map fun x => (kl x, dt x))
/-- S's keys are keys, no two the same. -/
structure KeysOk (kl : Te → Lit) (S : List Te) : Prop where
  key : ∀ x, WideAt.IsKeyLit (kl x)
  inj : ∀ x ∈ S, ∀ y ∈ S, kl x = kl y → x = y
theorem Ents.nil : Ents kl dt (.map []) [] := ⟨[], rfl, by simp⟩
theorem Ents.perm {D : DataW Unit} {S T : List Te} (h : Ents kl dt D S) (p : S.Perm T) : Ents kl dt D T := by
  obtain ⟨ps, e, h⟩ := h
  exact ⟨ps, e, h.trans (p.map _)⟩
theorem Ents.size {D : DataW Unit} {S : List Te} (h : Ents kl dt D S) : Maps.size D = S.length := by
  obtain ⟨ps, rfl, h⟩ := h
  rw [size_eq, h.length_eq, List.length_map]
theorem Ents.has {D : DataW Unit} {S : List Te} (h : Ents kl dt D S) {k : Lit} (hk : WideAt.IsKeyLit k) : Maps.has D k = true ↔ ∃ x ∈ S, kl x = k := by
  obtain ⟨ps, rfl, h⟩ := h
  rw [has_eq, List.any_eq_true]
  constructor
  · rintro ⟨p, hp, hs⟩
    obtain ⟨x, hx, rfl⟩ := List.mem_map.1 (h.mem_iff.1 hp)
    exact ⟨x, hx, WideAt.sameKey_eq hs⟩
  · rintro ⟨x, hx, rfl⟩
    exact ⟨_, h.mem_iff.2 (List.mem_map.2 ⟨x, hx, rfl⟩), WideAt.sameKey_self hk⟩
theorem insert_perm (x : Lit × DataW Unit) : ∀ l, (DataW.insert x l).Perm (x :: l)
  | [] => List.Perm.refl _
  | y :: r => by
    unfold DataW.insert
    split
    · exact List.Perm.refl _
    · exact ((insert_perm x r).cons y).trans (List.Perm.swap x y r)
theorem Ents.put {D : DataW Unit} {S : List Te} (h : Ents kl dt D S) {y : Te} (hn : Maps.has D (kl y) = false) : Ents kl dt (D.put (kl y) (dt y)) (y :: S) := by
  obtain ⟨ps, rfl, h⟩ := h
  refine ⟨_, rfl, (insert_perm _ _).trans ?_⟩
  rw [has_eq, List.any_eq_false] at hn
  rw [List.filter_eq_self.2 (fun p hp => by simpa using hn p hp)]
  exact h.cons _
theorem Ents.del {D : DataW Unit} {S : List Te} (h : Ents kl dt D S) (k : Lit) : Ents kl dt (D.del k) (S.filter fun x => !(kl x).sameKey k) := by
  obtain ⟨ps, rfl, h⟩ := h
  refine ⟨_, rfl, (h.filter _).trans (List.Perm.of_eq ?_)⟩
  rw [List.filter_map]
  rfl
theorem Ents.at_ {D : DataW Unit} {S : List Te} (h : Ents kl dt D S) {k : Lit} {d : DataW Unit} (hat : ∀ zd, D.atKey k zd = d) : ∃ x ∈ S, kl x = k ∧ dt x = d := by
  have hh := has_true_of_atKey hat
  obtain ⟨ps, rfl, h⟩ := h
  have h0 := hat .nil
  unfold DataW.atKey at h0
  dsimp only at h0
  split at h0
  · rename_i p hp
    have hm := List.mem_of_find?_eq_some hp
    have hs := List.find?_some hp
    obtain ⟨x, hx, rfl⟩ := List.mem_map.1 (h.mem_iff.1 hm)
    exact ⟨x, hx, WideAt.sameKey_eq hs, h0⟩
  · rename_i hp
    rw [has_eq, List.any_eq_true] at hh
    obtain ⟨p, hp1, hp2⟩ := hh
    exact absurd hp2 (List.find?_eq_none.1 hp p hp1)
/-- Struck by a key of S: that one goes. -/
theorem keys_del {S : List Te} (hS : KeysOk kl S) {y : Te} (hy : y ∈ S) : (S.filter fun x => !(kl x).sameKey (kl y)) = S.filter fun x => !eqT x y := by
  refine List.filter_congr fun x hx => ?_
  congr 1
  cases he : eqT x y with
  | true =>
    obtain rfl := eqT_iff.1 he
    exact WideAt.sameKey_self (hS.key _)
  | false =>
    cases hs : (kl x).sameKey (kl y) with
    | false => rfl
    | true =>
      obtain rfl := hS.inj x hx y hy (WideAt.sameKey_eq hs)
      rw [eqT_iff.2 rfl] at he
      cases he

/-! ### A range over it: what has come -/
/-- c: those of S that have come, none twice. -/
def Came (kl : Te → Lit) (S : List Te) (left : Lit → Bool) (c : List Te) : Prop := c.Nodup ∧ ∀ x, x ∈ c ↔ (x ∈ S ∧ left (kl x) = false)
theorem Came.start {D : DataW Unit} {S : List Te} (h : Ents kl dt D S) (hS : KeysOk kl S) : Came kl S (Maps.has D) [] := ⟨List.nodup_nil, fun x => by
  constructor
  · intro hx; cases hx
  · rintro ⟨h1, h2⟩
    rw [(h.has (hS.key x)).2 ⟨x, h1, rfl⟩] at h2
    cases h2⟩
theorem Came.step {S : List Te} {left : Lit → Bool} {c : List Te} (h : Came kl S left c) (hS : KeysOk kl S) {x : Te} (hx : x ∈ S) (hl : left (kl x) = true) : Came kl S (fun z => left z && !z.sameKey (kl x)) (c ++ [x]) := by
  have hn : x ∉ c := fun hc => by
    have := ((h.2 x).1 hc).2
    rw [hl] at this
    cases this
  refine ⟨List.nodup_append.2 ⟨h.1, by simp, fun a ha b hb => by
    simp only [List.mem_singleton] at hb
    subst hb
    exact fun e => hn (e ▸ ha)⟩, fun y => ?_⟩
  rw [List.mem_append, List.mem_singleton, h.2 y]
  constructor
  · rintro (⟨h1, h2⟩ | rfl)
    · exact ⟨h1, by show (left (kl y) && _) = false; rw [h2]; rfl⟩
    · exact ⟨hx, by show (_ && !(kl y).sameKey (kl y)) = false; rw [WideAt.sameKey_self (hS.key y)]; simp⟩
  · rintro ⟨h1, h2⟩
    rw [Bool.and_eq_false_iff] at h2
    rcases h2 with h2 | h2
    · exact .inl ⟨h1, h2⟩
    · exact .inr (hS.inj y h1 x hx (WideAt.sameKey_eq (by simpa using h2)))
theorem Came.perm {S : List Te} {left : Lit → Bool} {c : List Te} (h : Came kl S left c) (hnd : S.Nodup) (hl : ∀ k, left k = false) : c.Perm S :=
  (List.perm_ext_iff_of_nodup h.1 hnd).2 fun x => by rw [h.2 x, hl]; simp
theorem Came.len {S : List Te} {left : Lit → Bool} {c : List Te} (h : Came kl S left c) : c.length ≤ S.length :=
  h.1.length_le_of_subset fun x hx => ((h.2 x).1 hx).1
end

/-! ### Keys that are pairs -/
theorem laid_out' : laidOutB Try.prog = true := by kernel_rfl
theorem pair_row : (75 : TypeId) < Try.prog.types.size := of_decide_eq_true (by kernel_rfl)
theorem pair_wide : (match Try.prog.underlying 75 with | some (.array _ _) | some (.struct _) => true | _ => false) = true := by kernel_rfl
set_option maxRecDepth 100000 in
theorem keyPair : Keyed Try.prog 75 := Keyed.of_law (deep_law_laid laid_out' (m := 4) (by decide) pair_row (by kernel_rfl) pair_wide)
theorem keyInt : Keyed Try.prog 3 := int_keyed Try.underlying3
noncomputable def kL (x : Te) : Lit := match keyOf Try.prog 75 (.agg (prC x)) with | some l => l | none => .bool true
def kM (x : Te) : Lit := .int .i64 x.r
def dL (_ : Te) : DataW Unit := .agg []
def dM (x : Te) : DataW Unit := .agg [.lit (.int .i64 x.r), .lit (.int .i64 x.a.n), .lit (.int .i64 x.a.g), .lit (.int .i64 x.b.n), .lit (.int .i64 x.b.g)]
def tieR : Value → Option (DataW Unit × List MemPlace)
  | .agg cs => match cs.toList with
    | [.int .i64 r, .int .i64 a, .int .i64 b, .int .i64 c, .int .i64 d] => some (dM ⟨r, ⟨a, b⟩, ⟨c, d⟩⟩, [])
    | _ => none
  | _ => none
theorem tieR_mk (x : Te) : tieR (.agg x.cs) = some (dM x, []) := rfl
theorem tieR_inv {v : Value} {z : DataW Unit × List MemPlace} (h : tieR v = some z) : ∃ x : Te, v = .agg x.cs ∧ z = (dM x, []) := by
  unfold tieR at h
  split at h
  · rename_i cs
    split at h
    · rename_i r a b c d hc
      injection h with h
      refine ⟨⟨r, ⟨a, b⟩, ⟨c, d⟩⟩, ?_, h.symm⟩
      congr 1
      rw [← Array.toArray_toList (xs := cs), hc]
    · cases h
  · cases h
theorem dM_inj {x y : Te} (h : dM x = dM y) : x = y := by
  obtain ⟨r, ⟨a, b⟩, ⟨c, d⟩⟩ := x
  obtain ⟨r', ⟨a', b'⟩, ⟨c', d'⟩⟩ := y
  simp [dM] at h
  simp [h]
theorem wf_of {n : Int} (h1 : -9223372036854775808 ≤ n) (h2 : n ≤ 9223372036854775807) : (Lit.int .i64 n).wf = true := by
  have e1 : IntKind.i64.min = -9223372036854775808 := by decide
  have e2 : IntKind.i64.max = 9223372036854775807 := by decide
  show (decide (IntKind.i64.min ≤ n) && decide (n ≤ IntKind.i64.max)) = true
  rw [e1, e2]
  simp [h1, h2]
theorem okP_wf {p : Pd} (h : okP p = true) : (Lit.int .i64 p.n).wf = true ∧ (Lit.int .i64 p.g).wf = true := by
  unfold okP at h
  rw [decide_eq_true_eq] at h
  exact ⟨wf_of (by omega) (by omega), wf_of (by omega) (by omega)⟩
theorem kL_of {x : Te} (ha : okP x.a = true) (hb : okP x.b = true) : keyOf Try.prog 75 (.agg (prC x)) = some (kL x) := by
  have key : ∃ l, keyOf Try.prog 75 (.agg (prC x)) = some l := by
    obtain ⟨h1, h2⟩ := okP_wf ha
    obtain ⟨h3, h4⟩ := okP_wf hb
    obtain ⟨m, hm⟩ : ∃ m, Try.prog.types.size = m + 3 := ⟨Try.prog.types.size - 3, by have : 3 ≤ Try.prog.types.size := of_decide_eq_true (by kernel_rfl); omega⟩
    have c1 : Try.prog.cellsOf 75 = 4 := by kernel_rfl
    have c2 : Try.prog.cellsOf 32 = 2 := by kernel_rfl
    have c3 : Try.prog.cellsOf 3 = 1 := by kernel_rfl
    have kt : Try.prog.keyType 75 = true := by kernel_rfl
    have kf : (Value.agg (prC x)).formed Try.prog 75 = true := by simp [Value.formed, Try.underlying75, c1]
    unfold keyOf
    rw [Try.underlying75]
    simp only [kt, kf, Bool.and_self, if_true, hm]
    simp [Program.keyLits, Try.underlying75, Try.underlying32, Try.underlying3, c1, c2, c3, Value.cells, h1, h2, h3, h4]
    rw [if_pos (by intro i hi; rcases i with _ | _ | i <;> first | omega | simp)]
    exact ⟨_, rfl⟩
  obtain ⟨l, hl⟩ := key
  unfold kL
  rw [hl]
theorem kL_key (x : Te) : WideAt.IsKeyLit (kL x) := by
  unfold kL
  split
  · rename_i l h
    exact keyPair.key h
  · trivial
theorem kM_key (x : Te) : WideAt.IsKeyLit (kM x) := trivial
theorem kM_of {r : Int} (h : -9223372036854775808 ≤ r ∧ r ≤ 9223372036854775807) : keyOf Try.prog 3 (.int .i64 r) = some (.int .i64 r) := by
  simp [keyOf, Try.underlying3, mapKey, wf_of h.1 h.2]
theorem okTie_ab {x : Te} (h : okTie x = true) : okP x.a = true ∧ okP x.b = true ∧ 0 ≤ x.r ∧ x.r ≤ 4611686018427387903 := by
  unfold okTie at h
  simp only [Bool.and_eq_true, decide_eq_true_eq] at h
  exact ⟨h.1, h.2.1, h.2.2.1, h.2.2.2.1⟩
theorem kL_inj {x y : Te} (hx : okTie x = true) (hy : okTie y = true) (hx0 : x.r = 0) (hy0 : y.r = 0) (h : kL x = kL y) : x = y := by
  obtain ⟨a1, a2, -⟩ := okTie_ab hx
  obtain ⟨b1, b2, -⟩ := okTie_ab hy
  have e := keyPair.inj (kL_of a1 a2) (by rw [h]; exact kL_of b1 b2)
  obtain ⟨r, ⟨a, b⟩, ⟨c, d⟩⟩ := x
  obtain ⟨r', ⟨a', b'⟩, ⟨c', d'⟩⟩ := y
  simp at e hx0 hy0
  simp [e, hx0, hy0]
end Go.Proofs.Ytkodblhompphjaa

namespace Go.Proofs.Ytkodblhompphjaa
open Go.RowKit Go.Maps
set_option maxRecDepth 20000

abbrev mpL : TypeId := 58
abbrev mpM : TypeId := 59
theorem ownsMap_tight {k : TypeId} {R : Value → Option (DataW Unit × List MemPlace)} {w : World} {b n : Nat} {D : DataW Unit} (h : w.ownsMap Try.prog k R b n D) : w.ownsMap Try.prog k R b (Maps.size D) D := by
  obtain ⟨es, c, hb, F, _, rfl⟩ := h
  exact ⟨es, c, hb, F, by simp [Maps.size, length_sorted], rfl⟩
theorem ownsMap_only {k : TypeId} {R : Value → Option (DataW Unit × List MemPlace)} {w w' : World} {b n : Nat} {D : DataW Unit} {S : List Nat} (h : w.ownsMap Try.prog k R b n D) (o : Only S w w') (hS : b ∉ S) : w'.ownsMap Try.prog k R b n D := by
  have hl := h.lt
  obtain ⟨es, c, hb, F, hn, rfl⟩ := h
  exact ⟨es, c, (o.block b hl hS).trans hb, F, hn, rfl⟩
/-- Block g is a map whose keys are the pairs of S. -/
def LkM (w : World) (g : Nat) (S : List Te) : Prop := ∃ D n, w.ownsMap Try.prog 75 unitElem g n D ∧ Ents kL dL D S
/-- Block g is a map of the monitors S by their refs. -/
def MnM (w : World) (g : Nat) (S : List Te) : Prop := ∃ D n, w.ownsMap Try.prog 3 tieR g n D ∧ Ents kM dM D S
theorem LkM.only {T : List Nat} {w w' : World} {g : Nat} {S : List Te} (h : LkM w g S) (o : Only T w w') (hg : g ∉ T) : LkM w' g S := by
  obtain ⟨D, n, h1, h2⟩ := h
  exact ⟨D, n, ownsMap_only h1 o hg, h2⟩
theorem MnM.only {T : List Nat} {w w' : World} {g : Nat} {S : List Te} (h : MnM w g S) (o : Only T w w') (hg : g ∉ T) : MnM w' g S := by
  obtain ⟨D, n, h1, h2⟩ := h
  exact ⟨D, n, ownsMap_only h1 o hg, h2⟩
theorem LkM.lt {w : World} {g : Nat} {S : List Te} (h : LkM w g S) : g < w.heap.size := by
  obtain ⟨D, n, h1, _⟩ := h
  exact h1.lt
theorem MnM.lt {w : World} {g : Nat} {S : List Te} (h : MnM w g S) : g < w.heap.size := by
  obtain ⟨D, n, h1, _⟩ := h
  exact h1.lt
theorem LkM.perm {w : World} {g : Nat} {S T : List Te} (h : LkM w g S) (p : S.Perm T) : LkM w g T := by
  obtain ⟨D, n, h1, h2⟩ := h
  exact ⟨D, n, h1, h2.perm p⟩
theorem MnM.perm {w : World} {g : Nat} {S T : List Te} (h : MnM w g S) (p : S.Perm T) : MnM w g T := by
  obtain ⟨D, n, h1, h2⟩ := h
  exact ⟨D, n, h1, h2.perm p⟩
theorem LkM.made (w : World) : LkM (w.alloc (.map #[] 0)) w.heap.size [] := ⟨_, 0, World.ownsMap_made w _ _ _, Ents.nil⟩
theorem MnM.made (w : World) : MnM (w.alloc (.map #[] 0)) w.heap.size [] := ⟨_, 0, World.ownsMap_made w _ _ _, Ents.nil⟩
theorem map_apart {w : World} {b n g : Nat} {k : TypeId} {R : Value → Option (DataW Unit × List MemPlace)} {D : DataW Unit} {t : TypeId} {cs : Array Value} (h : w.ownsMap Try.prog k R b n D) (hk : Bk w g t cs) : b ≠ g := by
  rintro rfl
  obtain ⟨es, c, hb, _⟩ := h
  unfold Bk at hk
  rw [hb] at hk
  cases hk
theorem LkM.apart {w : World} {g b : Nat} {S : List Te} {t : TypeId} {cs : Array Value} (h : LkM w g S) (hk : Bk w b t cs) : g ≠ b := by
  obtain ⟨D, n, h1, _⟩ := h
  exact map_apart h1 hk
theorem MnM.apart {w : World} {g b : Nat} {S : List Te} {t : TypeId} {cs : Array Value} (h : MnM w g S) (hk : Bk w b t cs) : g ≠ b := by
  obtain ⟨D, n, h1, _⟩ := h
  exact map_apart h1 hk
theorem LkM.len {w : World} {g : Nat} {S : List Te} (h : LkM w g S) (ty : TypeId) : (Builtin.len_ #[mpL] ty #[.map (some g)]).run Try.prog w = .ok (.int .i64 (S.length : Nat)) w := by
  obtain ⟨D, n, h1, h2⟩ := h
  rw [← h2.size]
  exact h1.len Try.underlying58 ty
theorem MnM.len {w : World} {g : Nat} {S : List Te} (h : MnM w g S) (ty : TypeId) : (Builtin.len_ #[mpM] ty #[.map (some g)]).run Try.prog w = .ok (.int .i64 (S.length : Nat)) w := by
  obtain ⟨D, n, h1, h2⟩ := h
  rw [← h2.size]
  exact h1.len Try.underlying59 ty
theorem only_turned {w w' : World} {b : Nat} (h : w.mapTurned w' b) : Only [b] w w' := Only.of_grown h.grown
/-- A tie that may be a link's. -/
def LkT (x : Te) : Prop := okTie x = true ∧ x.r = 0
theorem LkM.look {w : World} {g : Nat} {S : List Te} (h : LkM w g S) (hS : ∀ x ∈ S, LkT x) {x : Te} (hx : LkT x) :
    (Instr.lookup mpL (.map (some g)) (.agg (prC x)) true).run Try.prog w = .ok (.tuple #[.agg #[], .bool (decide (x ∈ S))]) w := by
  obtain ⟨D, n, h1, h2⟩ := h
  obtain ⟨a1, a2, -⟩ := okTie_ab hx.1
  have hz : (zeroValue 76).run Try.prog w = .ok (.agg #[]) w := by kernel_rfl
  obtain ⟨v, ps, hrun, hv⟩ := h1.look_ok keyPair Try.underlying58 hz unitElem_mk (kL_of a1 a2)
  obtain ⟨rfl, _⟩ := unitElem_inv hv
  rw [hrun]
  have e : Maps.has D (kL x) = decide (x ∈ S) := by
    rw [Bool.eq_iff_iff, h2.has (kL_key x), decide_eq_true_eq]
    constructor
    · rintro ⟨y, hy, e⟩
      obtain rfl := kL_inj (hS y hy).1 hx.1 (hS y hy).2 hx.2 e
      exact hy
    · exact fun hm => ⟨x, hm, rfl⟩
  rw [e]
theorem LkM.put {w : World} {g : Nat} {S : List Te} (h : LkM w g S) (hS : ∀ x ∈ S, LkT x) {x : Te} (hx : LkT x) (hn : x ∉ S) (hl : S.length < maxLen) :
    ∃ w', (Instr.mapUpdate mpL (.map (some g)) (.agg (prC x)) (.agg #[])).run Try.prog w = .ok () w' ∧ LkM w' g (x :: S) ∧ Only [g] w w' := by
  obtain ⟨D, n, h1, h2⟩ := h
  obtain ⟨a1, a2, -⟩ := okTie_ab hx.1
  obtain ⟨w', hrun, h3, h4⟩ := (ownsMap_tight h1).store keyPair Try.underlying58 (by rw [h2.size]; exact hl) (kL_of a1 a2) (unitElem_mk (H := Unit))
  refine ⟨w', hrun, ⟨_, _, h3, h2.put ?_⟩, only_turned h4⟩
  cases e : Maps.has D (kL x) with
  | false => rfl
  | true =>
    obtain ⟨y, hy, e⟩ := (h2.has (kL_key x)).1 e
    obtain rfl := kL_inj (hS y hy).1 hx.1 (hS y hy).2 hx.2 e
    exact absurd hy hn
theorem lk_keys {S : List Te} (hS : ∀ x ∈ S, LkT x) : KeysOk kL S := ⟨kL_key, fun x hx y hy e => kL_inj (hS x hx).1 (hS y hy).1 (hS x hx).2 (hS y hy).2 e⟩
theorem LkM.del {w : World} {g : Nat} {S : List Te} (h : LkM w g S) (hS : ∀ x ∈ S, LkT x) {x : Te} (hx : x ∈ S) (ty : TypeId) :
    ∃ w', (Builtin.delete_ #[mpL, 75] ty #[.map (some g), .agg (prC x)]).run Try.prog w = .ok (.tuple #[]) w' ∧ LkM w' g (S.filter fun y => !eqT y x) ∧ Only [g] w w' := by
  obtain ⟨D, n, h1, h2⟩ := h
  obtain ⟨a1, a2, -⟩ := okTie_ab (hS x hx).1
  obtain ⟨w', hrun, h3, h4⟩ := h1.drop keyPair Try.underlying58 (kL_of a1 a2) ty
  exact ⟨w', hrun, ⟨_, _, h3, by rw [← keys_del (lk_keys hS) hx]; exact h2.del _⟩, only_turned h4⟩
/-- A tie that may be a monitor. -/
def MnT (x : Te) : Prop := okTie x = true ∧ x.r ≠ 0
/-- No two have the same ref. -/
def MnS (S : List Te) : Prop := (∀ x ∈ S, MnT x) ∧ ∀ x ∈ S, ∀ y ∈ S, x.r = y.r → x = y
theorem kM_inj {x y : Te} (h : kM x = kM y) : x.r = y.r := by
  unfold kM at h
  injection h
theorem mn_keys {S : List Te} (hS : MnS S) : KeysOk kM S := ⟨kM_key, fun x hx y hy e => hS.2 x hx y hy (kM_inj e)⟩
def refV (o : Option Te) : Value := match o with | some x => .tuple #[.agg x.cs, .bool true] | none => .tuple #[.agg zT.cs, .bool false]
theorem MnM.look {w : World} {g : Nat} {S : List Te} (h : MnM w g S) (hS : MnS S) (r : Int) :
    (Instr.lookup mpM (.map (some g)) (.int .i64 r) true).run Try.prog w = .ok (refV (S.find? fun x => x.r == r)) w := by
  obtain ⟨D, n, h1, h2⟩ := h
  have hz : (zeroValue 45).run Try.prog w = .ok (.agg zT.cs) w := by kernel_rfl
  by_cases hr : -9223372036854775808 ≤ r ∧ r ≤ 9223372036854775807
  · obtain ⟨v, ps, hrun, hv⟩ := h1.look_ok keyInt Try.underlying59 hz (tieR_mk zT) (kM_of hr)
    rw [hrun]
    have hh : Maps.has D (.int .i64 r) = true ↔ ∃ x ∈ S, kM x = .int .i64 r := h2.has trivial
    cases hf : S.find? (fun x => x.r == r) with
    | none =>
      have e : Maps.has D (.int .i64 r) = false := by
        cases e : Maps.has D (.int .i64 r) with
        | false => rfl
        | true =>
          obtain ⟨y, hy, e⟩ := hh.1 e
          unfold kM at e
          injection e with _ e
          exact absurd (by simpa using e : (y.r == r) = true) (List.find?_eq_none.1 hf y hy)
      rw [atKey_of_not_has e] at hv
      obtain ⟨x, rfl, hx⟩ := tieR_inv hv
      obtain rfl := dM_inj (congrArg Prod.fst hx)
      rw [e]
      rfl
    | some x =>
      have hm := List.mem_of_find?_eq_some hf
      have hxr : x.r = r := by simpa using List.find?_some hf
      have e : Maps.has D (.int .i64 r) = true := hh.2 ⟨x, hm, by rw [← hxr]; rfl⟩
      have : D.atKey (.int .i64 r) (dM zT) = dM x := by
        obtain ⟨es, he⟩ := h1.isMap
        subst he
        have hat : ∃ d, ∀ zd, (DataW.map es).atKey (.int .i64 r) zd = d := by
          rw [has_eq, List.any_eq_true] at e
          obtain ⟨p, hp, hpk⟩ := e
          have hs : (es.find? fun q => q.1.sameKey (.int .i64 r)).isSome = true := List.find?_isSome.2 ⟨p, hp, hpk⟩
          obtain ⟨q, hq⟩ := Option.isSome_iff_exists.1 hs
          exact ⟨q.2, fun zd => by unfold DataW.atKey; simp only [hq]⟩
        obtain ⟨d, hd⟩ := hat
        rw [hd]
        obtain ⟨y, hy, e1, e2⟩ := h2.at_ hd
        unfold kM at e1
        injection e1 with _ e1
        obtain rfl := hS.2 y hy x hm (e1.trans hxr.symm)
        exact e2.symm
      rw [this] at hv
      obtain ⟨y, rfl, hy⟩ := tieR_inv hv
      obtain rfl := dM_inj (congrArg Prod.fst hy)
      rw [e]
      rfl
  · have hf : S.find? (fun x => x.r == r) = none := List.find?_eq_none.2 fun x hx hxr => by
      have h3 := okTie_ab (hS.1 x hx).1
      have : x.r = r := by simpa using hxr
      omega
    rw [hf]
    obtain ⟨es, c, hb, F, _, rfl⟩ := h1
    have hk : ∀ x ∈ es.toList, ∃ n, x.key = .int .i64 n ∧ (Lit.int .i64 n).wf = true := fun x hx => by
      obtain ⟨y, hy⟩ := F.reads x hx
      obtain ⟨n, e, _, hw⟩ := Maps.keyOf_int_inv Try.underlying3 (WideElems.rd_key hy)
      exact ⟨n, e, hw⟩
    have hI : ∀ n, MapKept.IsKey (.int .i64) (.int .i64 n) := fun n => by simp [MapKept.IsKey]
    have hc : ∀ e, (Instr.checkKey e 10000 3 (.int .i64 r)).run Try.prog w = .ok () w := fun e => MapKept.run_checkKey Try.underlying3 (hI r) e 9999
    rcases MapKept.findNow_spec (hI r) es.toList 0 (fun x hx => by obtain ⟨n, e, _⟩ := hk x hx; rw [e]; exact hI n) with ⟨h3, _⟩ | ⟨j, e, h3, h4, h5⟩
    · simp [Instr.lookup, run_underlying Try.underlying59, MapKept.run_getObj_map hb, hc, MapKept.run_findKey Try.underlying3 h3, hz, Result.andThen, refV]
    · exfalso
      obtain ⟨n, e6, hw⟩ := hk e (List.mem_of_getElem? h4)
      rw [h5] at e6
      injection e6 with _ e6
      subst e6
      have e1 : IntKind.i64.min = -9223372036854775808 := by decide
      have e2 : IntKind.i64.max = 9223372036854775807 := by decide
      have hw' : (decide (IntKind.i64.min ≤ r) && decide (r ≤ IntKind.i64.max)) = true := hw
      rw [e1, e2] at hw'
      simp at hw'
      exact hr hw'
theorem MnM.put {w : World} {g : Nat} {S : List Te} (h : MnM w g S) {x : Te} (hx : MnT x) (hn : ∀ y ∈ S, y.r ≠ x.r) (hl : S.length < maxLen) :
    ∃ w', (Instr.mapUpdate mpM (.map (some g)) (.int .i64 x.r) (.agg x.cs)).run Try.prog w = .ok () w' ∧ MnM w' g (x :: S) ∧ Only [g] w w' := by
  obtain ⟨D, n, h1, h2⟩ := h
  have h0 := okTie_ab hx.1
  obtain ⟨w', hrun, h3, h4⟩ := (ownsMap_tight h1).store keyInt Try.underlying59 (by rw [h2.size]; exact hl) (kM_of (r := x.r) (by omega)) (tieR_mk x)
  refine ⟨w', hrun, ⟨_, _, h3, h2.put (y := x) ?_⟩, only_turned h4⟩
  cases e : Maps.has D (kM x) with
  | false => rfl
  | true =>
    obtain ⟨y, hy, e⟩ := (h2.has (kM_key x)).1 e
    exact absurd (kM_inj e) (hn y hy)
theorem MnM.del {w : World} {g : Nat} {S : List Te} (h : MnM w g S) (hS : MnS S) {x : Te} (hx : x ∈ S) (ty : TypeId) :
    ∃ w', (Builtin.delete_ #[mpM, 3] ty #[.map (some g), .int .i64 x.r]).run Try.prog w = .ok (.tuple #[]) w' ∧ MnM w' g (S.filter fun y => !eqT y x) ∧ Only [g] w w' := by
  obtain ⟨D, n, h1, h2⟩ := h
  have h0 := okTie_ab (hS.1 x hx).1
  obtain ⟨w', hrun, h3, h4⟩ := h1.drop keyInt Try.underlying59 (kM_of (r := x.r) (by omega)) ty
  exact ⟨w', hrun, ⟨_, _, h3, by rw [← keys_del (mn_keys hS) hx]; exact h2.del _⟩, only_turned h4⟩
/-- A map of ties in a block of its own, by its clone. -/
theorem clone_run {k : TypeId} {R : Value → Option (DataW Unit × List MemPlace)} {w : World} {b n : Nat} {D : DataW Unit} (h : w.ownsMap Try.prog k R b n D) (t : TypeId) :
    ∃ w', (Extern.MapsClone.clone #[.iface t (.map (some b))]).run Try.prog w = .ok (.iface t (.map (some w.heap.size))) w' ∧ w'.ownsMap Try.prog k R w.heap.size n D ∧ Only [] w w' := by
  obtain ⟨es, c, hb, F, hn, rfl⟩ := h
  have e : Extern.MapsClone.clone #[.iface t (.map (some b))] = (getObj b >>= fun o => match o with
      | .map entries clock => (newObj (.map entries clock) >>= fun n => pure (.iface t (.map (some n))))
      | _ => stuck "maps.clone: a map expected") := rfl
  rw [e]
  refine ⟨_, by simp [MapKept.run_getObj_map hb, Result.andThen], ⟨es, c, (MapKept.heap_alloc w _).1, F, hn, rfl⟩, (Only.refl [] w).alloc _⟩
theorem LkM.clone {w : World} {g : Nat} {S : List Te} (h : LkM w g S) (t : TypeId) : ∃ w', (Extern.MapsClone.clone #[.iface t (.map (some g))]).run Try.prog w = .ok (.iface t (.map (some w.heap.size))) w' ∧ LkM w' w.heap.size S ∧ Only [] w w' := by
  obtain ⟨D, n, h1, h2⟩ := h
  obtain ⟨w', hr, h3, o⟩ := clone_run h1 t
  exact ⟨w', hr, ⟨D, n, h3, h2⟩, o⟩
theorem MnM.clone {w : World} {g : Nat} {S : List Te} (h : MnM w g S) (t : TypeId) : ∃ w', (Extern.MapsClone.clone #[.iface t (.map (some g))]).run Try.prog w = .ok (.iface t (.map (some w.heap.size))) w' ∧ MnM w' w.heap.size S ∧ Only [] w w' := by
  obtain ⟨D, n, h1, h2⟩ := h
  obtain ⟨w', hr, h3, o⟩ := clone_run h1 t
  exact ⟨w', hr, ⟨D, n, h3, h2⟩, o⟩
end Go.Proofs.Ytkodblhompphjaa

namespace Go.Proofs.Ytkodblhompphjaa
open Go.RowKit

set_option maxHeartbeats 1000000 in
theorem rpair_any (a b : Pd) (w : World) : Calls Try.prog 51 #[.agg a.cs, .agg b.cs] w fun e w' => e = .returned (.bool (pairT a b)) ∧ Only [] w w' := by
  have KA := Lib.hid (fun w => rokp_any a w)
  have KB := Lib.hid (fun w => rokp_any b w)
  have O := Lib.hid (((Only.refl [] w).alloc (.cells a.cs 32)).alloc (.cells b.cs 32))
  have BA := Lib.hid ((Bk.made w 32 a.cs).alloc (.cells b.cs 32))
  have BB := Lib.hid (Bk.newAt (w := w.alloc (.cells a.cs 32)) (t := 32) (cs := b.cs) (b := w.heap.size + 1) (by simp))
  have hp : pairT a b = (okP a && okP b && !eqP a b) := rfl
  generalize pairT a b = t at *
  generalize okP a = u at *
  generalize okP b = v at *
  obtain ⟨a0, a1⟩ := BA.out.pid
  obtain ⟨b0, b1⟩ := BB.out.pid
  cases u with
  | false =>
    simp only [Bool.false_and] at hp
    subst hp
    go_enter Try.func51, Try.ntmps51
    go_wp2_with fail
    (with_reducible refine (KA.out _).mono ?_)
    rintro e w1 ⟨rfl, o1⟩
    go_wp2_with fail
    go_ret
    exact ⟨rfl, O.out.trans o1 (by simp)⟩
  | true =>
    simp only [Bool.true_and] at hp
    go_enter Try.func51, Try.ntmps51
    go_wp2_with fail
    (with_reducible refine (KA.out _).mono ?_)
    rintro e w1 ⟨rfl, o1⟩
    have O1 := Lib.hid (O.out.trans o1 (by simp))
    have BA1 := Lib.hid (BA.out.only o1 (by simp))
    have BB1 := Lib.hid (BB.out.only o1 (by simp))
    clear o1 a0 a1 b0 b1
    obtain ⟨b0, b1⟩ := BB1.out.pid
    cases v with
    | false =>
      simp only [Bool.false_and] at hp
      subst hp
      go_wp2_with fail
      (with_reducible refine (KB.out _).mono ?_)
      rintro e w2 ⟨rfl, o2⟩
      go_wp2_with fail
      go_ret
      exact ⟨rfl, O1.out.trans o2 (by simp)⟩
    | true =>
      simp only [Bool.true_and] at hp
      go_wp2_with fail
      (with_reducible refine (KB.out _).mono ?_)
      rintro e w2 ⟨rfl, o2⟩
      have O2 := Lib.hid (O1.out.trans o2 (by simp))
      obtain ⟨x0, x1⟩ := (BA1.out.only o2 (by simp)).pid
      obtain ⟨y0, y1⟩ := (BB1.out.only o2 (by simp)).pid
      clear o2 b0 b1
      cases hE : eqP a b with
      | true =>
        rw [hE] at hp
        subst hp
        simp only [eqP] at hE
        go_wp2_with fail
        go_ret
        exact ⟨rfl, O2.out⟩
      | false =>
        rw [hE] at hp
        subst hp
        simp only [eqP] at hE
        go_wp2_with fail
        go_ret
        exact ⟨rfl, O2.out⟩
end Go.Proofs.Ytkodblhompphjaa

namespace Go.Proofs.Ytkodblhompphjaa
open Go.RowKit
set_option maxRecDepth 20000

/-- What a change answers: the ties that came, or a row of its own. -/
def LiesT (w : World) (n : Nat) (v u : Value) (xs ys : List Te) : Prop := (v = u ∧ ys = xs) ∨ OwnS KT w n v ys
set_option maxHeartbeats 4000000 in
theorem runlink_any (A : Option Addr) (xs : List Te) (cap : Nat) (a b : Pd) (w : World) (h : RdS KT w A xs) (hl : xs.length * 40 + 4096 ≤ 140737488355328) :
    Calls Try.prog 28 #[.agg (tiC true (.slice A xs.length cap)), .agg a.cs, .agg b.cs] w fun e w' => ∃ v, e = .returned (.tuple #[.agg (tiC true v), .int .i64 (unlinkF xs a b).2]) ∧ LiesT w' w.heap.size v (.slice A xs.length cap) xs (unlinkF xs a b).1 ∧ Only [] w w' := by
  have hW : ∃ w0, w0 = (((w.alloc (.cells (tiC true (.slice A xs.length cap)) 27)).alloc (.cells a.cs 32)).alloc (.cells b.cs 32)).alloc (.cells (tiC false (.slice none 0 0)) 27) := ⟨_, rfl⟩
  obtain ⟨w0, e0⟩ := hW
  have O := Lib.hid (show Only [] w w0 from e0 ▸ ((((Only.refl [] w).alloc _).alloc _).alloc _).alloc _)
  have BT := Lib.hid (show Bk w0 w.heap.size 27 (tiC true (.slice A xs.length cap)) from e0 ▸ (((Bk.made w _ _).alloc _).alloc _).alloc _)
  have BA := Lib.hid (show Bk w0 (w.heap.size + 1) 32 a.cs from e0 ▸ ((Bk.newAt (by simp)).alloc _).alloc _)
  have BB := Lib.hid (show Bk w0 (w.heap.size + 1 + 1) 32 b.cs from e0 ▸ (Bk.newAt (by simp)).alloc _)
  have BR := Lib.hid (show Bk w0 (w.heap.size + 1 + 1 + 1) 27 (tiC false (.slice none 0 0)) from e0 ▸ Bk.newAt (by simp))
  have H := Lib.hid (h.only O.out (by simp))
  have KP := Lib.hid (rpair_any a b w0)
  clear h
  go_enter Try.func28, Try.ntmps28
  go_upto_region 1 with fail
  rw [← e0]
  clear e0
  have t0 := BT.out.cell0 (i := 0) rfl
  obtain ⟨a0, a1⟩ := BA.out.pid
  obtain ⟨b0, b1⟩ := BB.out.pid
  go_wp2_with fail
  (with_reducible refine KP.out.mono ?_)
  rintro e w1 ⟨rfl, o1⟩
  have O1 := Lib.hid (O.out.trans o1 (by simp))
  have T1 := Lib.hid (BT.out.only o1 (by simp))
  have A1 := Lib.hid (BA.out.only o1 (by simp))
  have B1 := Lib.hid (BB.out.only o1 (by simp))
  have R1 := Lib.hid (BR.out.only o1 (by simp))
  have H1 := Lib.hid (H.out.only o1 (by simp))
  have KLk := Lib.hid (fun w => rlink_any a b w)
  have L1 : w.heap.size ≤ w.heap.size + 1 + 1 + 1 := by omega
  have hl1 : xs.length ≤ 17592186044416 := by omega
  clear o1 KP t0 a0 a1 b0 b1 BT BA BB BR H O
  have HU : Hid (unlinkF xs a b = unlinkF xs a b) := Lib.hid rfl
  cases hp : pairT a b with
  | false =>
    have hu : unlinkF xs a b = (xs, 1) := by unfold unlinkF; rw [hp]; rfl
    have t0 := T1.out.cell0 (i := 0) rfl
    have t1 := T1.out.cell0 (i := 1) rfl
    have z0 := R1.out.cell0 (i := 0) rfl
    have z1 := R1.out.cell0 (i := 1) rfl
    have zf := R1.out.free
    go_wp2_with fail
    refine bodyPost_ret (v := .tuple #[.agg (tiC true (.slice A xs.length cap)), .int .i64 1]) (by simp [results, Try.results28, go_sem, z0, z1]) rfl ⟨_, by rw [hu], by rw [hu]; exact .inl ⟨rfl, rfl⟩, (O1.out.set (.inr L1) _).set (.inr L1) _⟩
  | true =>
    obtain ⟨t, hd⟩ : ∃ t, decide (linkT a b ∈ xs) = t := ⟨_, rfl⟩
    have HD := Lib.hid hd
    clear hd
    have q1 : (w1.cell? ⟨w.heap.size, 0, none⟩ = some (.bool true) ∧ w1.cell? ⟨w.heap.size, 1, none⟩ = some (.slice A xs.length cap)) ∧ (w1.cell? ⟨w.heap.size + 1, 0, none⟩ = some (.int .i64 a.n) ∧ w1.cell? ⟨w.heap.size + 1, 1, none⟩ = some (.int .i64 a.g)) ∧ (w1.cell? ⟨w.heap.size + 1 + 1, 0, none⟩ = some (.int .i64 b.n) ∧ w1.cell? ⟨w.heap.size + 1 + 1, 1, none⟩ = some (.int .i64 b.g)) := ⟨⟨T1.out.cell0 (i := 0) rfl, T1.out.cell0 (i := 1) rfl⟩, A1.out.pid, B1.out.pid⟩
    go_upto_region 3 with fail
    go_region_held3 (fun w' => (w'.cell? ⟨w.heap.size, 0, none⟩ = some (.bool true) ∧ w'.cell? ⟨w.heap.size, 1, none⟩ = some (.slice A xs.length cap)) ∧ (w'.cell? ⟨w.heap.size + 1, 0, none⟩ = some (.int .i64 a.n) ∧ w'.cell? ⟨w.heap.size + 1, 1, none⟩ = some (.int .i64 a.g)) ∧ (w'.cell? ⟨w.heap.size + 1 + 1, 0, none⟩ = some (.int .i64 b.n) ∧ w'.cell? ⟨w.heap.size + 1 + 1, 1, none⟩ = some (.int .i64 b.g))) (first | assumption | go_keep)
      (first
        | (go_at_call 53; (with_reducible refine (KLk.out _).mono ?_); rintro e w2 ⟨rfl, o2⟩; have D2 : Hid (Only [] w1 w2) := Lib.hid (((Only.refl [] w1).drew).trans o2 (by simp)); have T2 := Lib.hid (T1.out.only D2.out (by simp)); have A2 := Lib.hid (A1.out.only D2.out (by simp)); have B2 := Lib.hid (B1.out.only D2.out (by simp)); have q2 := And.intro (And.intro (T2.out.cell0 (i := 0) (v := .bool true) rfl) (T2.out.cell0 (i := 1) (v := .slice A xs.length cap) rfl)) (And.intro (Bk.pid (x := a) A2.out) (Bk.pid (x := b) B2.out)); have KH := rhas_any true A xs cap (linkT a b) w2 (H1.out.only D2.out (by simp)) hl1; rw [HD.out] at KH; have KH := Lib.hid KH; clear o2)
        | (go_at_call 52; (with_reducible refine KH.out.mono ?_); rintro e w3 ⟨rfl, o3⟩; have D3 := Lib.hid (D2.out.trans o3 (by simp)); have T3 := Lib.hid (T1.out.only D3.out (by simp)); have A3 := Lib.hid (A1.out.only D3.out (by simp)); have B3 := Lib.hid (B1.out.only D3.out (by simp)); have q3 := And.intro (And.intro (T3.out.cell0 (i := 0) (v := .bool true) rfl) (T3.out.cell0 (i := 1) (v := .slice A xs.length cap) rfl)) (And.intro (Bk.pid (x := a) A3.out) (Bk.pid (x := b) B3.out)); clear o3))
    have R3 := Lib.hid (R1.out.only D3.out (by simp))
    have H3 := Lib.hid (H1.out.only D3.out (by simp))
    have O3 := Lib.hid (O1.out.trans D3.out (by simp))
    clear q1 q2 KH
    cases t with
    | true =>
      have hm := of_decide_eq_true HD.out
      have hu : unlinkF xs a b = (lessT xs (linkT a b), 0) := by unfold unlinkF; rw [hp, if_pos rfl, if_pos hm]
      have HU := Lib.hid hu
      clear hu hm
      go_upto_region 5 with fail
      go_region_held3 (fun w' => (w'.cell? ⟨w.heap.size, 0, none⟩ = some (.bool true) ∧ w'.cell? ⟨w.heap.size, 1, none⟩ = some (.slice A xs.length cap)) ∧ (w'.cell? ⟨w.heap.size + 1, 0, none⟩ = some (.int .i64 a.n) ∧ w'.cell? ⟨w.heap.size + 1, 1, none⟩ = some (.int .i64 a.g)) ∧ (w'.cell? ⟨w.heap.size + 1 + 1, 0, none⟩ = some (.int .i64 b.n) ∧ w'.cell? ⟨w.heap.size + 1 + 1, 1, none⟩ = some (.int .i64 b.g))) (first | assumption | go_keep)
        (first
          | (go_at_call 53; (with_reducible refine (KLk.out _).mono ?_); rintro e w5 ⟨rfl, o5⟩; have D5 : Hid (Only [] w3 w5) := Lib.hid (((Only.refl [] w3).drew).trans o5 (by simp)); have T5 := Lib.hid (T3.out.only D5.out (by simp)); have A5 := Lib.hid (A3.out.only D5.out (by simp)); have B5 := Lib.hid (B3.out.only D5.out (by simp)); have q5 := And.intro (And.intro (T5.out.cell0 (i := 0) (v := .bool true) rfl) (T5.out.cell0 (i := 1) (v := .slice A xs.length cap) rfl)) (And.intro (Bk.pid (x := a) A5.out) (Bk.pid (x := b) B5.out)); have KS := Lib.hid (rless_any true A xs cap (linkT a b) w5 (H3.out.only D5.out (by simp)) hl); clear o5)
          | (go_at_call 55; (with_reducible refine KS.out.mono ?_); rintro e w6 ⟨v6, rfl, hv6, o6⟩; obtain ⟨G6, c6, e6, -, -, -, -⟩ := hv6.form; subst e6; have D6 := Lib.hid (D5.out.trans o6 (by simp)); have T6 := Lib.hid (T3.out.only D6.out (by simp)); have A6 := Lib.hid (A3.out.only D6.out (by simp)); have B6 := Lib.hid (B3.out.only D6.out (by simp)); have q6 := And.intro (And.intro (T6.out.cell0 (i := 0) (v := .bool true) rfl) (T6.out.cell0 (i := 1) (v := .slice A xs.length cap) rfl)) (And.intro (Bk.pid (x := a) A6.out) (Bk.pid (x := b) B6.out)); have V6 := Lib.hid hv6; have ZS := Lib.hid (show w3.heap.size ≤ w5.heap.size from D5.out.size); have r6 := R3.out.only D6.out (by simp); have z0 := r6.cell0 (i := 0) rfl; have z1 := r6.cell0 (i := 1) rfl; have zf := r6.free; have y1 := (r6.set 0 (.bool true)).cell0 (i := 1) (v := .slice none 0 0) rfl; have yf := (r6.set 0 (.bool true)).free; have yg := ((r6.set 0 (.bool true)).set 1 (.slice G6 (lessT xs (linkT a b)).length c6)).cell0 (i := 0) (v := .bool true) rfl; have T7 := Lib.hid ((T6.out.away (p := ⟨w.heap.size + 1 + 1 + 1, 0, none⟩) (by show _ ≠ w.heap.size + 1 + 1 + 1; omega) (.bool true)).away (p := ⟨w.heap.size + 1 + 1 + 1, 1, none⟩) (by show _ ≠ w.heap.size + 1 + 1 + 1; omega) (.slice G6 (lessT xs (linkT a b)).length c6)); have A7 := Lib.hid ((A6.out.away (p := ⟨w.heap.size + 1 + 1 + 1, 0, none⟩) (by show _ ≠ w.heap.size + 1 + 1 + 1; omega) (.bool true)).away (p := ⟨w.heap.size + 1 + 1 + 1, 1, none⟩) (by show _ ≠ w.heap.size + 1 + 1 + 1; omega) (.slice G6 (lessT xs (linkT a b)).length c6)); have B7 := Lib.hid ((B6.out.away (p := ⟨w.heap.size + 1 + 1 + 1, 0, none⟩) (by show _ ≠ w.heap.size + 1 + 1 + 1; omega) (.bool true)).away (p := ⟨w.heap.size + 1 + 1 + 1, 1, none⟩) (by show _ ≠ w.heap.size + 1 + 1 + 1; omega) (.slice G6 (lessT xs (linkT a b)).length c6)); have q7 := And.intro (And.intro (T7.out.cell0 (i := 0) (v := .bool true) rfl) (T7.out.cell0 (i := 1) (v := .slice A xs.length cap) rfl)) (And.intro (Bk.pid (x := a) A7.out) (Bk.pid (x := b) B7.out)); clear o6 hv6 r6))
      have O6 := Lib.hid (O3.out.trans D6.out (by simp))
      go_wp2_with fail
      refine bodyPost_ret (v := .tuple #[.agg (tiC true (.slice G6 (lessT xs (linkT a b)).length c6)), .int .i64 0]) (by simp [results, Try.results28, go_sem, z0, z1]) rfl ⟨_, by rw [HU.out], ?_, (O6.out.set (.inr L1) _).set (.inr L1) _⟩
      rw [HU.out]
      have oo := (((Only.refl [w.heap.size + 1 + 1 + 1] w6).set (p := ⟨w.heap.size + 1 + 1 + 1, 0, none⟩) (.inl (by simp)) (.bool true)).set (p := ⟨w.heap.size + 1 + 1 + 1, 1, none⟩) (.inl (by simp)) (.slice G6 (lessT xs (linkT a b)).length c6))
      have hr3 := R3.out.lt
      have hz := ZS.out
      exact .inr ((V6.out.low (by omega)).only oo (fun g' hg' => by have := (V6.out.block hg').1; simp; omega))
    | false =>
      have hm := of_decide_eq_false HD.out
      have hu : unlinkF xs a b = (xs, 3) := by unfold unlinkF; rw [hp, if_pos rfl, if_neg hm]
      obtain ⟨⟨t0, t1⟩, -, -⟩ := q3
      have z0 := R3.out.cell0 (i := 0) rfl
      have z1 := R3.out.cell0 (i := 1) rfl
      have zf := R3.out.free
      go_wp2_with fail
      refine bodyPost_ret (v := .tuple #[.agg (tiC true (.slice A xs.length cap)), .int .i64 3]) (by simp [results, Try.results28, go_sem, z0, z1]) rfl ⟨_, by rw [hu], by rw [hu]; exact .inl ⟨rfl, rfl⟩, (O3.out.set (.inr L1) _).set (.inr L1) _⟩
end Go.Proofs.Ytkodblhompphjaa
