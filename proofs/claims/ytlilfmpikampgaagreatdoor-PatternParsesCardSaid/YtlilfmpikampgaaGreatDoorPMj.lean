/- The program's reader in memory: the rows that it has begun. The program's reader in memory: what it holds, and how it goes on. text: reader.comma, reader.begin. -/
import Derived.Test.YtlilfmpikampgaaGreatDoorPMi
import Derived.Deep.AppendLies
import Derived.Deep.RegionLaw
namespace Go.Proofs.YtlilfmpikampgaaGreatDoor
open Go.RowKit

/-- Whole terms that lie in a row, one behind the other. -/
def Its (w : World) (F : Nat → Prop) : List T → List Value → Prop
  | [], xs => xs = []
  | t :: l, xs => ∃ sl r, xs = (t.cs sl).toList ++ r ∧ TV w F t sl ∧ Its w F l r
theorem cs_len (t : T) (sl : Value) : (t.cs sl).toList.length = 7 := rfl
theorem Its.snoc {w : World} {F : Nat → Prop} {t : T} {sl : Value} (ht : TV w F t sl) : ∀ {l : List T} {xs : List Value}, Its w F l xs → Its w F (l ++ [t]) (xs ++ (t.cs sl).toList)
  | [], xs, h => by
    simp only [Its] at h
    subst h
    exact ⟨sl, [], by simp, ht, rfl⟩
  | u :: l, xs, h => by
    obtain ⟨s, r, e, h1, h2⟩ := h
    exact ⟨s, r ++ (t.cs sl).toList, by rw [e, List.append_assoc], h1, Its.snoc ht h2⟩
theorem Its.len {w : World} {F : Nat → Prop} : ∀ {l : List T} {xs : List Value}, Its w F l xs → xs.length = l.length * 7
  | [], xs, h => by simp only [Its] at h; subst h; rfl
  | u :: l, xs, h => by
    obtain ⟨s, r, e, h1, h2⟩ := h
    rw [e, List.length_append, cs_len, Its.len h2, List.length_cons]; omega
theorem Its.move {w w' : World} {F F' : Nat → Prop} (hm : ∀ t sl, TV w F t sl → TV w' F' t sl) : ∀ {l : List T} {xs : List Value}, Its w F l xs → Its w' F' l xs
  | [], _, h => h
  | _ :: _, _, h => by
    obtain ⟨s, r, e, h1, h2⟩ := h
    exact ⟨s, r, e, hm _ _ h1, Its.move hm h2⟩
theorem Its.tvs {w : World} {F : Nat → Prop} {bl : Nat} : ∀ {l : List T} {xs : List Value} {off : Nat}, Its w F l xs → (∀ j u, xs[j]? = some u → w.cell? ⟨bl, off + j, none⟩ = some u) → TVs w F l bl off
  | [], _, _, _, _ => by simp only [TVs]
  | t :: l, xs, off, h, hc => by
    obtain ⟨s, r, e, h1, h2⟩ := h
    simp only [TVs]
    refine ⟨⟨s, h1, fun j u hj => hc j u ?_⟩, Its.tvs h2 fun j u hj => ?_⟩
    · have hl : j < (t.cs s).toList.length := by
        rw [Array.length_toList]
        exact (Array.getElem?_eq_some_iff.1 hj).1
      rw [e, List.getElem?_append_left hl, Array.getElem?_toList]; exact hj
    · rw [show off + 7 + j = off + (7 + j) by omega]
      refine hc (7 + j) u ?_
      rw [e, List.getElem?_append_right (by rw [cs_len]; omega), cs_len, show 7 + j - 7 = j by omega]; exact hj

/-! ### Rows -/
theorem Row.only {S : List Nat} {w w' : World} {base : Nat} {e : TypeId} {size : Nat} {v : Value} {n : Nat} {xs : List Value} (h : w.ownsRow base e size v n xs) (o : Only S w w') (hS : ∀ g, v.ownBlock = some g → g ∉ S) : w'.ownsRow base e size v n xs := by
  refine ⟨h.1, ?_⟩
  rcases h.2 with h2 | ⟨g, cap, cur, hv, hb, hg, h3⟩
  · exact .inl h2
  · have hg' : Bk w g e cur := hg
    exact .inr ⟨g, cap, cur, hv, hb, hg'.only o (hS g (by rw [hv]; rfl)), h3⟩
theorem Row.block {w : World} {base : Nat} {e : TypeId} {size : Nat} {v : Value} {n : Nat} {xs : List Value} (h : w.ownsRow base e size v n xs) {g : Nat} (hg : v.ownBlock = some g) : base ≤ g ∧ g < w.heap.size := by
  rcases h.2 with ⟨hv, _⟩ | ⟨g', cap, cur, hv, hb, hg', _⟩
  · rw [hv] at hg; cases hg
  · rw [hv] at hg
    injection hg with hg
    subst hg
    exact ⟨hb, Bk.lt (t := e) (cs := cur) hg'⟩
theorem Row.cell {w : World} {base : Nat} {e : TypeId} {size : Nat} {g cap n : Nat} {xs : List Value} (h : w.ownsRow base e size (.slice (some ⟨g, 0, none⟩) n cap) n xs) (j : Nat) (u : Value) (hj : xs[j]? = some u) : w.cell? ⟨g, j, none⟩ = some u := by
  rcases h.2 with ⟨hv, _⟩ | ⟨g', cap', cur, hv, hb, hg', _, _, _, hx⟩
  · cases hv
  · injection hv with h1 h2 h3
    injection h1 with h1
    injection h1 with h1
    subst h1
    rw [Bk.cell (t := e) (cs := cur) hg']
    rw [← hx, List.getElem?_take] at hj
    split at hj
    · rw [← Array.getElem?_toList]; exact hj
    · cases hj
theorem Row.free {w : World} {base : Nat} {e : TypeId} {size : Nat} {g cap n : Nat} {xs : List Value} (h : w.ownsRow base e size (.slice (some ⟨g, 0, none⟩) n cap) n xs) (j : Nat) : w.frozen? ⟨g, j, none⟩ = false := by
  rcases h.2 with ⟨hv, _⟩ | ⟨g', cap', cur, hv, hb, hg', _, _, _, hx⟩
  · cases hv
  · injection hv with h1 h2 h3
    injection h1 with h1
    injection h1 with h1
    subst h1
    exact Bk.free (t := e) (cs := cur) hg' j
theorem Row.set {w : World} {base : Nat} {e : TypeId} {size : Nat} {g cap n : Nat} {xs : List Value} (h : w.ownsRow base e size (.slice (some ⟨g, 0, none⟩) n cap) n xs) (i : Nat) (u : Value) : (w.setCell ⟨g, i, none⟩ u).ownsRow base e size (.slice (some ⟨g, 0, none⟩) n cap) n (xs.set i u) := by
  refine ⟨by rw [List.length_set]; exact h.1, ?_⟩
  rcases h.2 with ⟨hv, _⟩ | ⟨g', cap', cur, hv, hb, hg', h1, h2, h3, hx⟩
  · cases hv
  · injection hv with k1 k2 k3
    injection k1 with k1
    injection k1 with k1
    subst k1 k3
    refine .inr ⟨g, cap, cur.setIfInBounds i u, rfl, hb, Bk.set (t := e) (cs := cur) hg' i u, h1, h2, by rw [Array.size_setIfInBounds]; exact h3, ?_⟩
    rw [Array.toList_setIfInBounds, List.take_set, hx]
def lay (xs : List Value) : Nat → List Value → List Value
  | _, [] => xs
  | o, v :: r => lay (xs.set o v) (o + 1) r
theorem Row.sets {base : Nat} {e : TypeId} {size : Nat} {g cap n : Nat} : ∀ (ys : List Value) (o : Nat) {w : World} {xs : List Value}, w.ownsRow base e size (.slice (some ⟨g, 0, none⟩) n cap) n xs → (w.setCells g o ys).ownsRow base e size (.slice (some ⟨g, 0, none⟩) n cap) n (lay xs o ys)
  | [], _, _, _, h => h
  | y :: ys, o, _, _, h => Row.sets ys (o + 1) (Row.set h o y)
theorem lay_eq : ∀ (ys zs xs : List Value), ys.length = zs.length → lay (xs ++ zs) xs.length ys = xs ++ ys
  | [], [], xs, _ => rfl
  | y :: ys, z :: zs, xs, h => by
    have := lay_eq ys zs (xs ++ [y]) (by simpa using h)
    simp only [lay]
    rw [show (xs ++ z :: zs).set xs.length y = (xs ++ [y]) ++ zs by simp, show xs.length + 1 = (xs ++ [y]).length by simp, this]
    simp
theorem Row.last {w : World} {base : Nat} {e : TypeId} {size : Nat} {g cap n m : Nat} {xs zs ys : List Value} (h : w.ownsRow base e size (.slice (some ⟨g, 0, none⟩) n cap) n (xs ++ zs)) (hl : ys.length = zs.length) (hm : m = xs.length) :
    (w.setCells g m ys).ownsRow base e size (.slice (some ⟨g, 0, none⟩) n cap) n (xs ++ ys) := by
  subst hm
  have := Row.sets ys xs.length h
  rwa [lay_eq _ _ _ hl] at this
theorem Only.sets {S : List Nat} {a : World} {b : Nat} (hp : b ∈ S ∨ a.heap.size ≤ b) : ∀ (vs : List Value) (o : Nat) {w : World}, Only S a w → Only S a (w.setCells b o vs)
  | [], _, _, h => h
  | v :: r, o, _, h => Only.sets hp r (o + 1) (h.set (p := ⟨b, o, none⟩) hp v)
theorem Row.cut {w : World} {base : Nat} {e : TypeId} {size : Nat} {g cap n m : Nat} {xs ys : List Value} (h : w.ownsRow base e size (.slice (some ⟨g, 0, none⟩) n cap) n (xs ++ ys)) (hl : xs.length = m * size) (hm : m ≤ n) :
    w.ownsRow base e size (.slice (some ⟨g, 0, none⟩) m cap) m xs := by
  refine ⟨hl, ?_⟩
  rcases h.2 with ⟨hv, _⟩ | ⟨g', cap', cur, hv, hb, hg', h1, h2, h3, hx⟩
  · cases hv
  · injection hv with k1 k2 k3
    injection k1 with k1
    injection k1 with k1
    subst k1 k3
    refine .inr ⟨g, cap, cur, rfl, hb, hg', by omega, h2, h3, ?_⟩
    have := congrArg (List.take xs.length) hx
    rw [List.take_take, List.take_left, hl, Nat.min_eq_left (Nat.mul_le_mul_right _ hm)] at this
    exact this
end Go.Proofs.YtlilfmpikampgaaGreatDoor

namespace Go.Proofs.YtlilfmpikampgaaGreatDoor
open Go.RowKit

/-- The begun ones, the innermost ahead, as they lie: the outermost ahead. -/
def ocs : List (Opn × Value) → List Value
  | [] => []
  | p :: r => ocs r ++ (tcs p.1.k 0 0 0 ⟨#[]⟩ 0 0 p.2).toList
theorem ocs_len : ∀ ps : List (Opn × Value), (ocs ps).length = ps.length * 7
  | [] => rfl
  | p :: r => by
    show (ocs r ++ _).length = _
    have e : (tcs p.1.k 0 0 0 ⟨#[]⟩ 0 0 p.2).toList.length = 7 := rfl
    rw [List.length_append, ocs_len r, e, List.length_cons]; omega
def NoMeet (a b : Value) : Prop := ∀ g, a.ownBlock = some g → b.ownBlock ≠ some g
structure Rdr (w : World) (base : Nat) (F : Nat → Prop) (bv : Value) (ps : List (Opn × Value)) : Prop where
  le : base ≤ w.heap.size
  fr : ∀ b, F b → base ≤ b ∧ b < w.heap.size
  row : w.ownsRow base 27 7 bv ps.length (ocs ps)
  each : ∀ p ∈ ps, ∃ xs, w.ownsRow base 27 7 p.2 p.1.items.length xs ∧ Its w F p.1.items xs
  apart : (bv :: ps.map (·.2)).Pairwise NoMeet
  free : ∀ v ∈ bv :: ps.map (·.2), ∀ g, v.ownBlock = some g → ¬ F g
theorem Rdr.only {S : List Nat} {w w' : World} {base : Nat} {F : Nat → Prop} {bv : Value} {ps : List (Opn × Value)} (h : Rdr w base F bv ps) (o : Only S w w') (hS : ∀ b ∈ S, b < base) : Rdr w' base F bv ps := by
  have hn : ∀ {n : Nat} {v : Value} {xs : List Value}, w.ownsRow base 27 7 v n xs → ∀ g, v.ownBlock = some g → g ∉ S := fun hr g hg hm => by
    have := (Row.block hr hg).1
    have := hS g hm
    omega
  refine ⟨Nat.le_trans h.le o.size, fun b hb => ⟨(h.fr b hb).1, Nat.lt_of_lt_of_le (h.fr b hb).2 o.size⟩, Row.only h.row o (hn h.row), fun p hp => ?_, h.apart, h.free⟩
  obtain ⟨xs, h1, h2⟩ := h.each p hp
  exact ⟨xs, Row.only h1 o (hn h1), Its.move (fun t sl => TV.only o (fun b hb hf => by have := hS b hb; have := (h.fr b hf).1; omega) (fun _ h => h) t sl) h2⟩
/-- The row of the begun ones is another, or has grown. -/
theorem Rdr.grow {w w1 : World} {base : Nat} {F : Nat → Prop} {bv bv' : Value} {ps : List (Opn × Value)} {g : Nat} {k : Int} {S : List Nat} (h : Rdr w base F bv ps) (o : Only S w w1) (hSS : ∀ b ∈ S, b < base ∨ bv.ownBlock = some b)
    (hg : bv.ownBlock = some g ∨ w.heap.size ≤ g) (hb : bv'.ownBlock = some g) (hr : w1.ownsRow base 27 7 bv' (ps.length + 1) (ocs ps ++ (tcs k 0 0 0 ⟨#[]⟩ 0 0 (.slice none 0 0)).toList)) :
    Rdr w1 base F bv' ((⟨k, []⟩, .slice none 0 0) :: ps) := by
  have hap := List.pairwise_cons.1 h.apart
  have hS : ∀ b ∈ S, ¬ F b := fun b hb hf => by
    rcases hSS b hb with hb | hb
    · have := (h.fr b hf).1; omega
    · exact h.free bv (by simp) b hb hf
  have hnew : ∀ v ∈ ps.map (·.2), v.ownBlock ≠ some g := fun v hv e => by
    rcases hg with hg | hg
    · exact hap.1 v hv g hg e
    · obtain ⟨p, hp, rfl⟩ := List.mem_map.1 hv
      obtain ⟨xs, h1, _⟩ := h.each p hp
      have := (Row.block h1 e).2
      omega
  have hF : ¬ F g := fun hf => by
    rcases hg with hg | hg
    · exact h.free bv (by simp) g hg hf
    · have := (h.fr g hf).2
      omega
  refine ⟨Nat.le_trans h.le o.size, fun b hb => ⟨(h.fr b hb).1, Nat.lt_of_lt_of_le (h.fr b hb).2 o.size⟩, hr, fun p hp => ?_, ?_, ?_⟩
  · rcases List.mem_cons.1 hp with rfl | hp
    · exact ⟨[], ⟨rfl, .inl ⟨rfl, rfl⟩⟩, rfl⟩
    · obtain ⟨xs, h1, h2⟩ := h.each p hp
      refine ⟨xs, Row.only h1 o fun b hb hm => ?_, Its.move (fun t sl => TV.only o hS (fun _ h => h) t sl) h2⟩
      rcases hSS b hm with hm | hm
      · have := (Row.block h1 hb).1; omega
      · exact hap.1 p.2 (List.mem_map_of_mem hp) b hm hb
  · simp only [List.map_cons, List.pairwise_cons]
    refine ⟨fun v hv b hb' => ?_, ⟨fun v _ b hb' => (by cases hb'), hap.2⟩⟩
    rw [hb] at hb'
    injection hb' with hb'
    subst hb'
    rcases List.mem_cons.1 hv with rfl | hv
    · intro e; cases e
    · exact hnew v hv
  · intro v hv b hb'
    rcases List.mem_cons.1 hv with rfl | hv
    · rw [hb] at hb'
      injection hb' with hb'
      subst hb'
      exact hF
    · simp only [List.map_cons] at hv
      rcases List.mem_cons.1 hv with rfl | hv
      · cases hb'
      · exact h.free v (by simp [hv]) b hb'
/-- A whole term is laid into the innermost one. -/
theorem Rdr.lay {w w1 : World} {base : Nat} {F : Nat → Prop} {bv sl sl' slt : Value} {o : Opn} {t : T} {ps : List (Opn × Value)} {g : Nat} {xs : List Value} {S : List Nat} (h : Rdr w base F bv ((o, sl) :: ps)) (ht : TV w F t slt)
    (hit : Its w F o.items xs) (on : Only S w w1) (hSS : ∀ b ∈ S, b < base ∨ sl.ownBlock = some b ∨ bv.ownBlock = some b) (hg : sl.ownBlock = some g ∨ w.heap.size ≤ g) (hb : sl'.ownBlock = some g)
    (hr : w1.ownsRow base 27 7 sl' (o.items.length + 1) (xs ++ (t.cs slt).toList)) (hrow : w1.ownsRow base 27 7 bv (ps.length + 1) (ocs ps ++ (tcs o.k 0 0 0 ⟨#[]⟩ 0 0 sl').toList)) :
    Rdr w1 base F bv ((⟨o.k, o.items ++ [t]⟩, sl') :: ps) := by
  have hap := List.pairwise_cons.1 h.apart
  simp only [List.map_cons] at hap
  have hap2 := List.pairwise_cons.1 hap.2
  have hS : ∀ b ∈ S, ¬ F b := fun b hb hf => by
    rcases hSS b hb with hb | hb | hb
    · have := (h.fr b hf).1; omega
    · exact h.free sl (by simp) b hb hf
    · exact h.free bv (by simp) b hb hf
  have hmove : ∀ t sl, TV w F t sl → TV w1 F t sl := fun t sl => TV.only on hS (fun _ h => h) t sl
  have hF : ¬ F g := fun hf => by
    rcases hg with hg | hg
    · exact h.free sl (by simp) g hg hf
    · have := (h.fr g hf).2
      omega
  have hbv : bv.ownBlock ≠ some g := fun e => by
    rcases hg with hg | hg
    · exact hap.1 sl (by simp) g e hg
    · have := (Row.block h.row e).2
      omega
  have hnew : ∀ v ∈ ps.map (·.2), v.ownBlock ≠ some g := fun v hv e => by
    rcases hg with hg | hg
    · exact hap2.1 v hv g hg e
    · obtain ⟨p, hp, rfl⟩ := List.mem_map.1 hv
      obtain ⟨xs, h1, _⟩ := h.each p (by simp [hp])
      have := (Row.block h1 e).2
      omega
  refine ⟨Nat.le_trans h.le on.size, fun b hb => ⟨(h.fr b hb).1, Nat.lt_of_lt_of_le (h.fr b hb).2 on.size⟩, hrow, fun p hp => ?_, ?_, ?_⟩
  · rcases List.mem_cons.1 hp with rfl | hp
    · refine ⟨_, ?_, (Its.move hmove hit).snoc (hmove _ _ ht)⟩
      simp only [List.length_append, List.length_singleton]
      exact hr
    · obtain ⟨ys, h1, h2⟩ := h.each p (by simp [hp])
      refine ⟨ys, Row.only h1 on fun b hb hm => ?_, Its.move hmove h2⟩
      rcases hSS b hm with hm | hm | hm
      · have := (Row.block h1 hb).1; omega
      · exact hap2.1 p.2 (List.mem_map_of_mem hp) b hm hb
      · exact hap.1 p.2 (by simp; exact .inr ⟨_, hp⟩) b hm hb
  · simp only [List.map_cons, List.pairwise_cons]
    refine ⟨fun v hv b hb' e => ?_, ⟨fun v hv b hb' e => ?_, hap2.2⟩⟩
    · rcases List.mem_cons.1 hv with rfl | hv
      · rw [hb] at e
        injection e with e
        subst e
        exact hbv hb'
      · exact hap.1 v (by simp at hv ⊢; exact .inr hv) b hb' e
    · rw [hb] at hb'
      injection hb' with hb'
      subst hb'
      exact hnew v hv e
  · intro v hv b hb'
    simp only [List.map_cons] at hv
    rcases List.mem_cons.1 hv with rfl | hv
    · exact h.free v (by simp) b hb'
    · rcases List.mem_cons.1 hv with rfl | hv
      · rw [hb] at hb'
        injection hb' with hb'
        subst hb'
        exact hF
      · exact h.free v (by simp at hv ⊢; exact .inr (.inr hv)) b hb'
/-- The innermost one is whole. -/
theorem Rdr.shut {w : World} {base : Nat} {F : Nat → Prop} {sl : Value} {o : Opn} {ps : List (Opn × Value)} {g cap n : Nat} (h : Rdr w base F (.slice (some ⟨g, 0, none⟩) n cap) ((o, sl) :: ps)) :
    ∃ F' : Nat → Prop, (∀ b, F b → F' b) ∧ Rdr w base F' (.slice (some ⟨g, 0, none⟩) ps.length cap) ps ∧ TV w F' (.tup o.k o.items) sl := by
  have hap := List.pairwise_cons.1 h.apart
  simp only [List.map_cons] at hap
  have hap2 := List.pairwise_cons.1 hap.2
  obtain ⟨xs, h1, h2⟩ := h.each (o, sl) (by simp)
  simp only at h1 h2
  have hm : ∀ F' : Nat → Prop, (∀ b, F b → F' b) → ∀ t sl, TV w F t sl → TV w F' t sl := fun F' hF t sl => TV.only (S := []) (Only.refl _ _) (by simp) hF t sl
  have hrow := h.row
  have hn : n = ps.length + 1 := by
    rcases hrow.2 with ⟨hv, _⟩ | ⟨g', cap', cur, hv, _⟩
    · cases hv
    · injection hv
  subst hn
  refine ⟨fun b => F b ∨ sl.ownBlock = some b, fun b hb => .inl hb, ⟨h.le, fun b hb => ?_, ?_, fun p hp => ?_, ?_, ?_⟩, ?_⟩
  · rcases hb with hb | hb
    · exact h.fr b hb
    · exact Row.block h1 hb
  · exact Row.cut hrow (ocs_len ps) (by omega)
  · obtain ⟨ys, h3, h4⟩ := h.each p (by simp [hp])
    exact ⟨ys, h3, Its.move (hm _ fun b hb => .inl hb) h4⟩
  · exact List.pairwise_cons.2 ⟨fun v hv => hap.1 v (by simp at hv ⊢; exact .inr hv), hap2.2⟩
  · intro v hv b hb hF
    rcases hF with hF | hF
    · rcases List.mem_cons.1 hv with rfl | hv
      · exact h.free (.slice (some ⟨g, 0, none⟩) (ps.length + 1) cap) (by simp) b hb hF
      · exact h.free v (by simp at hv ⊢; exact .inr (.inr hv)) b hb hF
    · rcases List.mem_cons.1 hv with rfl | hv
      · exact hap.1 sl (by simp) b hb hF
      · exact hap2.1 v hv b hF hb
  · simp only [TV]
    rcases h1.2 with ⟨hv, h0⟩ | ⟨b, c, cur, hv, hb, hg', h3, h4, h5, h6⟩
    · exact ⟨none, 0, by rw [hv, h0], by omega, by omega, .inl (List.length_eq_zero_iff.1 h0)⟩
    · refine ⟨some ⟨b, 0, none⟩, c, hv, h3, h4, .inr ⟨b, 0, rfl, Bk.lt (t := 27) (cs := cur) hg', .inr (by rw [hv]; rfl), ?_⟩⟩
      subst hv
      refine Its.tvs (Its.move (hm _ fun b hb => .inl hb) h2) fun j u hj => ?_
      rw [Nat.zero_add]
      exact Row.cell h1 j u hj
end Go.Proofs.YtlilfmpikampgaaGreatDoor

namespace Go.Proofs.YtlilfmpikampgaaGreatDoor
open Go.RowKit

/-- Of the blocks below base none has turned but rb; and none that is none of cells. -/
def Low (base rb : Nat) (w w' : World) : Prop := ∃ S, Only S w w' ∧ (∀ b ∈ S, b = rb ∨ base ≤ b) ∧ ∀ b ∈ S, b < w.heap.size → ∃ t cs, Bk w b t cs
theorem Low.of {base rb : Nat} {w w' : World} {t : TypeId} {cs : Array Value} (hb : Bk w rb t cs) (h : Only [rb] w w') : Low base rb w w' := ⟨[rb], h, by simp, fun b hm _ => by rw [List.mem_singleton.1 hm]; exact ⟨_, _, hb⟩⟩
theorem Low.of0 {base rb : Nat} {w w' : World} (h : Only [] w w') : Low base rb w w' := ⟨[], h, by simp, by simp⟩
theorem Low.trans {base rb : Nat} {a b c : World} (h : Low base rb a b) (k : Low base rb b c) : Low base rb a c := by
  obtain ⟨S, h1, h2, h3⟩ := h
  obtain ⟨S', k1, k2, k3⟩ := k
  refine ⟨S ++ S', (h1.more (T := S ++ S') (fun k hk => .inl (by simp [hk]))).trans k1 (fun i hi => .inl (by simp [hi])), fun b hb => ?_, fun x hx hlt => ?_⟩
  · rcases List.mem_append.1 hb with hb | hb
    · exact h2 b hb
    · exact k2 b hb
  · by_cases hs : x ∈ S
    · exact h3 x hs hlt
    · rcases List.mem_append.1 hx with hx | hx
      · exact absurd hx hs
      · obtain ⟨t, cs, hb⟩ := k3 x hx (Nat.lt_of_lt_of_le hlt h1.size)
        exact ⟨t, cs, (h1.block x hlt hs).symm.trans hb⟩
theorem Row.cells {w : World} {base : Nat} {e : TypeId} {size : Nat} {v : Value} {n : Nat} {xs : List Value} (h : w.ownsRow base e size v n xs) {g : Nat} (hg : v.ownBlock = some g) : ∃ t cs, Bk w g t cs := by
  rcases h.2 with ⟨hv, _⟩ | ⟨g', cap, cur, hv, hb, hg', _⟩
  · rw [hv] at hg; cases hg
  · rw [hv] at hg
    injection hg with hg
    subst hg
    exact ⟨_, _, hg'⟩
theorem Low.only {base rb : Nat} {w w' : World} (h : Low base rb w w') (hb : w.heap.size ≤ base) : Only [rb] w w' := by
  obtain ⟨S, h1, h2, _⟩ := h
  exact h1.more fun k hk => by
    rcases h2 k hk with h | h
    · exact .inl (by simp [h])
    · exact .inr (by omega)
theorem Bk.nine {w : World} {b : Nat} {t : TypeId} {v0 v1 v2 v3 v4 v5 v6 v7 v8 : Value} (h : Bk w b t #[v0, v1, v2, v3, v4, v5, v6, v7, v8]) :
    w.cell? ⟨b, 0, none⟩ = some v0 ∧ w.cell? ⟨b, 1, none⟩ = some v1 ∧ w.cell? ⟨b, 2, none⟩ = some v2 ∧ w.cell? ⟨b, 3, none⟩ = some v3 ∧ w.cell? ⟨b, 4, none⟩ = some v4 ∧ w.cell? ⟨b, 5, none⟩ = some v5 ∧ w.cell? ⟨b, 6, none⟩ = some v6 ∧ w.cell? ⟨b, 7, none⟩ = some v7 ∧ w.cell? ⟨b, 8, none⟩ = some v8 :=
  ⟨h.cell0 rfl, h.cell0 rfl, h.cell0 rfl, h.cell0 rfl, h.cell0 rfl, h.cell0 rfl, h.cell0 rfl, h.cell0 rfl, h.cell0 rfl⟩
/-- The reader's nine cells. -/
abbrev rcs (st : Int) (bv u0 u1 u2 u3 u4 u5 u6 : Value) : Array Value := #[.int .i64 st, bv, u0, u1, u2, u3, u4, u5, u6]
set_option maxHeartbeats 1000000 in
theorem comma_any (w : World) (rb : Nat) (st : Int) (bv u0 u1 u2 u3 u4 u5 u6 : Value) (hb : Bk w rb 123 (rcs st bv u0 u1 u2 u3 u4 u5 u6)) :
    Calls Tryz.prog 100 #[.pointer (some ⟨rb, 0, none⟩)] w fun e w' => (e = .returned (.bool (decide (st = 2)))) ∧ Only [rb] w w' ∧ (st = 2 → Bk w' rb 123 (rcs 0 bv u0 u1 u2 u3 u4 u5 u6)) := by
  obtain ⟨c0, c1, c2, c3, c4, c5, c6, c7, c8⟩ := hb.nine
  have cf := hb.free
  have HB := Lib.hid hb
  clear hb
  by_cases h2 : st = 2
  · subst h2
    go_enter Tryz.func100, Tryz.ntmps100
    go_wp2_with fail
    go_ret
    exact ⟨rfl, (Only.refl _ _).set (.inl (by simp)) _, fun _ => HB.out.set 0 _⟩
  · have e2 : (st == 2) = false := by simpa using h2
    have hd : decide (st = 2) = false := by simpa using h2
    rw [hd]
    go_enter Tryz.func100, Tryz.ntmps100
    go_wp2_with fail
    go_ret
    exact ⟨rfl, Only.refl _ _, fun h => absurd h h2⟩

theorem Row.drew {w : World} {base : Nat} {e : TypeId} {size : Nat} {v : Value} {n : Nat} {xs : List Value} (h : w.ownsRow base e size v n xs) : w.drew.ownsRow base e size v n xs := h
theorem Row.alloc {w : World} {base : Nat} {e : TypeId} {size : Nat} {v : Value} {n : Nat} {xs : List Value} (h : w.ownsRow base e size v n xs) (o : Obj) : (w.alloc o).ownsRow base e size v n xs := Row.only h ((Only.refl [] w).alloc o) (by simp)
abbrev Z7' : Array Value := tcs 0 0 0 0 ⟨#[]⟩ 0 0 (.slice none 0 0)
theorem begin_no (w : World) (rb : Nat) (k st : Int) (bv u0 u1 u2 u3 u4 u5 u6 : Value) (hb : Bk w rb 123 (rcs st bv u0 u1 u2 u3 u4 u5 u6)) (hst : 1 < st) :
    Calls Tryz.prog 98 #[.pointer (some ⟨rb, 0, none⟩), .int .i64 k] w fun e w' => e = .returned (.bool false) ∧ Only [rb] w w' := by
  obtain ⟨c0, c1, c2, c3, c4, c5, c6, c7, c8⟩ := hb.nine
  clear hb
  have e2 : decide (1 < st) = true := by simpa using hst
  go_enter Tryz.func98, Tryz.ntmps98
  go_wp2_with fail
  go_ret
  exact ⟨rfl, Only.refl _ _⟩
theorem begin_end {w w1 w2 : World} {base rb g cap' : Nat} {k : Int} {F : Nat → Prop} {bv u0 u1 u2 u3 u4 u5 u6 : Value} {ps : List (Opn × Value)} {o : Obj} {cs : Array Value} (hbw : Bk w rb 123 cs) (hr : Rdr w base F bv ps)
    (k3 : Only bv.ownBlock.toList (w.alloc o).drew w1) (hat : bv.ownBlock = some g ∨ g = (w.alloc o).drew.heap.size) (hb : Only [rb, g] w1 w2 ∧ Bk w2 rb 123 (rcs 1 (.slice (some ⟨g, 0, none⟩) (ps.length + 1) cap') u0 u1 u2 u3 u4 u5 u6) ∧
      w2.ownsRow base 27 7 (.slice (some ⟨g, 0, none⟩) (ps.length + 1) cap') (ps.length + 1) (ocs ps ++ (tcs k 0 0 0 ⟨#[]⟩ 0 0 (.slice none 0 0)).toList)) (hrb : rb < base) :
    Low base rb w w2 ∧ ∃ bv', Bk w2 rb 123 (rcs 1 bv' u0 u1 u2 u3 u4 u5 u6) ∧ Rdr w2 base F bv' ((⟨k, []⟩, .slice none 0 0) :: ps) := by
  obtain ⟨o2, b2, r2⟩ := hb
  have h0 : Only [] w (w.alloc o).drew := ((Only.refl [] w).alloc o).drew
  have h1 : Only (rb :: g :: bv.ownBlock.toList) w w2 := ((h0.more (by simp)).trans k3 (fun i hi => .inl (by simp at hi ⊢; exact .inr (.inr hi)))).trans o2 (fun i hi => .inl (by simp at hi ⊢; omega))
  have hg : bv.ownBlock = some g ∨ w.heap.size ≤ g := by
    rcases hat with h | h
    · exact .inl h
    · refine .inr ?_
      rw [h]
      exact h0.size
  refine ⟨⟨_, h1, fun b hb => ?_, fun b hb hlt => ?_⟩, _, b2, Rdr.grow (S := rb :: bv.ownBlock.toList) (g := g) hr (h1.more fun i hi => ?_) (fun b hb => ?_) hg rfl r2⟩
  · rcases List.mem_cons.1 hb with rfl | hb
    · exact .inl rfl
    rcases List.mem_cons.1 hb with rfl | hb
    · exact .inr (Row.block r2 (g := b) rfl).1
    · exact .inr (Row.block hr.row (g := b) (by simpa using hb)).1
  · rcases List.mem_cons.1 hb with rfl | hb
    · exact ⟨_, _, hbw⟩
    rcases List.mem_cons.1 hb with rfl | hb
    · rcases hg with hg | hg
      · exact Row.cells hr.row hg
      · omega
    · exact Row.cells hr.row (g := b) (by simpa using hb)
  · rcases List.mem_cons.1 hi with rfl | hi
    · exact .inl (by simp)
    rcases List.mem_cons.1 hi with rfl | hi
    · rcases hg with hg | hg
      · exact .inl (by simp [hg])
      · exact .inr hg
    · exact .inl (by simp at hi ⊢; exact .inr hi)
  · rcases List.mem_cons.1 hb with rfl | hb
    · exact .inl hrb
    · exact .inr (by simpa using hb)
/-- Seven cells written, as a walk writes them. -/
theorem set7_eq (w : World) (g o : Nat) (v0 v1 v2 v3 v4 v5 v6 : Value) :
    ((((((w.setCell ⟨g, o, none⟩ v0).setCell ⟨g, o + 1, none⟩ v1).setCell ⟨g, o + 2, none⟩ v2).setCell ⟨g, o + 3, none⟩ v3).setCell ⟨g, o + 4, none⟩ v4).setCell ⟨g, o + 5, none⟩ v5).setCell ⟨g, o + 6, none⟩ v6 = w.setCells g o (#[v0, v1, v2, v3, v4, v5, v6] : Array Value).toList := by
  simp only [World.setCells, Nat.add_assoc, Nat.reduceAdd]
theorem begin_a {w1 w2 : World} {base rb g cap' n : Nat} {st k : Int} {bv bv' u0 u1 u2 u3 u4 u5 u6 : Value} {xs : List Value} (k0 : Bk w1 rb 123 (rcs st bv u0 u1 u2 u3 u4 u5 u6)) (hne : rb ≠ g)
    (hown : w1.ownsRow base 27 7 (.slice (some ⟨g, 0, none⟩) (n + 1) cap') (n + 1) (xs ++ Z7'.toList)) (hl : xs.length = n * 7) (hbv : bv' = .slice (some ⟨g, 0, none⟩) (n + 1) cap')
    (hw : w2 = ((((((((w1.setCell ⟨rb, 1, none⟩ bv').setCell ⟨g, n * 7, none⟩ (.int .i64 k)).setCell ⟨g, n * 7 + 1, none⟩ (.int .i64 0)).setCell ⟨g, n * 7 + 2, none⟩ (.complex .f64 0 0)).setCell ⟨g, n * 7 + 3, none⟩ (.string ⟨#[]⟩)).setCell ⟨g, n * 7 + 4, none⟩ (.int .i64 0)).setCell ⟨g, n * 7 + 5, none⟩ (.int .i64 0)).setCell ⟨g, n * 7 + 6, none⟩ (.slice none 0 0)).setCell ⟨rb, 0, none⟩ (.int .i64 1)) :
    Only [rb, g] w1 w2 ∧ Bk w2 rb 123 (rcs 1 bv' u0 u1 u2 u3 u4 u5 u6) ∧ w2.ownsRow base 27 7 bv' (n + 1) (xs ++ (tcs k 0 0 0 ⟨#[]⟩ 0 0 (.slice none 0 0)).toList) := by
  subst hbv
  rw [set7_eq] at hw
  subst hw
  refine ⟨?_, ?_, ?_⟩
  · exact (Only.sets (.inl (by simp)) _ _ ((Only.refl _ _).set (.inl (by simp)) _)).set (.inl (by simp)) _
  · exact Bk.set (Bk.only (k0.set 1 _) (Only.sets (S := [g]) (.inl (by simp)) _ _ (Only.refl _ _)) (by simpa using hne)) 0 _
  · refine Row.only (Row.last (Row.only hown ((Only.refl [rb] _).set (.inl (by simp)) _) ?_) rfl (by omega)) ((Only.refl [rb] _).set (.inl (by simp)) _) ?_
    all_goals
      intro b hb
      injection hb with hb
      simp at hb ⊢
      omega
theorem begin_b {w1 w2 : World} {base rb g cap' n : Nat} {st k : Int} {bv bv' u0 u1 u2 u3 u4 u5 u6 : Value} {xs : List Value} (k0 : Bk w1 rb 123 (rcs st bv u0 u1 u2 u3 u4 u5 u6)) (hne : rb ≠ g)
    (hown : w1.ownsRow base 27 7 (.slice (some ⟨g, 0, none⟩) (n + 1) cap') (n + 1) (xs ++ Z7'.toList)) (hl : xs.length = n * 7) (hbv : bv' = .slice (some ⟨g, 0, none⟩) (n + 1) cap')
    (hw : w2 = ((((((((w1.setCell ⟨g, n * 7, none⟩ (.int .i64 k)).setCell ⟨g, n * 7 + 1, none⟩ (.int .i64 0)).setCell ⟨g, n * 7 + 2, none⟩ (.complex .f64 0 0)).setCell ⟨g, n * 7 + 3, none⟩ (.string ⟨#[]⟩)).setCell ⟨g, n * 7 + 4, none⟩ (.int .i64 0)).setCell ⟨g, n * 7 + 5, none⟩ (.int .i64 0)).setCell ⟨g, n * 7 + 6, none⟩ (.slice none 0 0)).setCell ⟨rb, 1, none⟩ bv').setCell ⟨rb, 0, none⟩ (.int .i64 1)) :
    Only [rb, g] w1 w2 ∧ Bk w2 rb 123 (rcs 1 bv' u0 u1 u2 u3 u4 u5 u6) ∧ w2.ownsRow base 27 7 bv' (n + 1) (xs ++ (tcs k 0 0 0 ⟨#[]⟩ 0 0 (.slice none 0 0)).toList) := by
  subst hbv
  rw [set7_eq] at hw
  subst hw
  refine ⟨?_, ?_, ?_⟩
  · exact ((Only.sets (.inl (by simp)) _ _ (Only.refl _ _)).set (.inl (by simp)) _).set (.inl (by simp)) _
  · exact Bk.set (Bk.set (Bk.only k0 (Only.sets (S := [g]) (.inl (by simp)) _ _ (Only.refl _ _)) (by simpa using hne)) 1 _) 0 _
  · refine Row.only (Row.only (Row.last hown rfl (by omega)) ((Only.refl [rb] _).set (.inl (by simp)) _) ?_) ((Only.refl [rb] _).set (.inl (by simp)) _) ?_
    all_goals
      intro b hb
      injection hb with hb
      simp at hb ⊢
      omega
theorem info_term : (Tryz.prog.info? 27).map (fun i => (i.zero, i.size, i.bytes)) = some (some (.agg Z7'), 7, 88) := by kernel_rfl
theorem grown_facts {w w1 : World} {base rb n g cap' : Nat} {bv : Value} {xs : List Value} {cs : Array Value} (hb : Bk w rb 123 cs) (hrow : w.ownsRow base 27 7 bv n xs) (hrb : rb < base)
    (hown : w1.ownsRow base 27 7 (.slice (some ⟨g, 0, none⟩) (n + 1) cap') (n + 1) (xs ++ Z7'.toList)) (hgrow : w.grownBy w1 bv.ownBlock) :
    Bk w1 rb 123 cs ∧ rb ≠ g ∧ (∀ j, w1.frozen? ⟨g, j, none⟩ = false) ∧ Only bv.ownBlock.toList w w1 ∧ (∀ j, j < 7 → ∃ u, w1.cell? ⟨g, n * 7 + j, none⟩ = some u) := by
  have o1 := Only.of_grown hgrow
  refine ⟨hb.only o1 fun hm => ?_, ?_, Row.free hown, o1, fun j hj => ?_⟩
  · have := (Row.block hrow (g := rb) (by simpa using hm)).1
    omega
  · have := (Row.block hown (g := g) rfl).1
    omega
  · have hl : n * 7 + j < (xs ++ Z7'.toList).length := by
      rw [hown.1]; omega
    exact ⟨_, Row.cell hown (n * 7 + j) _ (List.getElem?_eq_getElem hl)⟩
set_option maxHeartbeats 4000000 in
theorem begin_yes (w : World) (base rb : Nat) (F : Nat → Prop) (k st : Int) (bv u0 u1 u2 u3 u4 u5 u6 : Value) (ps : List (Opn × Value)) (hb : Bk w rb 123 (rcs st bv u0 u1 u2 u3 u4 u5 u6)) (hst : st ≤ 1) (hr : Rdr w base F bv ps) (hl : ps.length ≤ 262144) (hrb : rb < base) :
    Calls Tryz.prog 98 #[.pointer (some ⟨rb, 0, none⟩), .int .i64 k] w fun e w' => e = .returned (.bool true) ∧ Low base rb w w' ∧ ∃ bv', Bk w' rb 123 (rcs 1 bv' u0 u1 u2 u3 u4 u5 u6) ∧ Rdr w' base F bv' ((⟨k, []⟩, .slice none 0 0) :: ps) := by
  obtain ⟨c0, c1, c2, c3, c4, c5, c6, c7, c8⟩ := hb.nine
  have cf := hb.free
  have HB := Lib.hid hb
  have HR := Lib.hid hr
  obtain ⟨n, A, cap, hbv⟩ : ∃ n A cap, bv = .slice A n cap := by
    rcases hr.row.2 with ⟨h, _⟩ | ⟨g, cap, cur, h, _⟩
    · exact ⟨_, _, _, h⟩
    · exact ⟨_, _, _, h⟩
  have hn : n = ps.length := by
    rcases hr.row.2 with ⟨h, h0⟩ | ⟨g, cap, cur, h, _⟩
    · rw [hbv] at h; injection h; omega
    · rw [hbv] at h; injection h
  subst hn
  subst hbv
  have rs := store_com
  have e2 : decide (1 < st) = false := by simp; omega
  have R1 : ∀ o, (w.alloc o).ownsRow base 27 7 (.slice A ps.length cap) ps.length (ocs ps) := fun o => Row.alloc hr.row o
  obtain ⟨i, hi, hz, hz1, hz2⟩ := info_parts info_term
  have hbz : ∀ o, base ≤ (w.alloc o).heap.size := fun o => by have := hr.le; simp; omega
  have c1a : ∀ o, (w.alloc o).cell? ⟨rb, 1, none⟩ = some (.slice A ps.length cap) := fun o => (HB.out.alloc o).cell0 rfl
  have h63 : ps.length + 1 ≤ maxLen := by unfold maxLen; omega
  have q1 : ((ps.length : Int) < (ps.length : Int) + 1) := by omega
  clear hb hr
  go_enter Tryz.func98, Tryz.ntmps98
  go_wp2_with fail
  go_region_law ((refine step_append_lies _ (by rfl) _ _ _ (by rfl) base 27 i _ 7 88 Tryz.underlying25 hi hz hz1 hz2 rfl (by omega) _ ps.length (ocs ps) (by rfl) (R1 _) _ 1 1 Z7'.toList (by rfl) rfl (World.news_of_block (Bk.made _ _ _)) (by decide) (by omega) h63 (by omega) (hbz _) _ rfl ?_; intro g cap' w1 hown hgrow hat hlt; obtain ⟨k0, k1, k2, k3, k4⟩ := grown_facts (HB.out.alloc _).drew (Row.drew (R1 _)) hrb hown hgrow; obtain ⟨z0, x0⟩ := k4 0 (by omega); obtain ⟨z1, x1⟩ := k4 1 (by omega); obtain ⟨z2, x2⟩ := k4 2 (by omega); obtain ⟨z3, x3⟩ := k4 3 (by omega); obtain ⟨z4, x4⟩ := k4 4 (by omega); obtain ⟨z5, x5⟩ := k4 5 (by omega); obtain ⟨z6, x6⟩ := k4 6 (by omega); simp only [Nat.add_zero] at x0; obtain ⟨d0, d1, d2, d3, d4, d5, d6, d7, d8⟩ := k0.nine; have df := k0.free; have K0 := Lib.hid k0; have K3 := Lib.hid k3; have HO := Lib.hid hown; clear k0 k4))
  all_goals
    go_wp2_with fail
    go_ret
    refine ⟨rfl, begin_end (cap' := cap') HB.out HR.out K3.out hat ?_ hrb⟩
    first
      | exact begin_a K0.out k1 HO.out (ocs_len ps) rfl (by with_reducible rfl)
      | exact begin_b K0.out k1 HO.out (ocs_len ps) rfl (by with_reducible rfl)
end Go.Proofs.YtlilfmpikampgaaGreatDoor
