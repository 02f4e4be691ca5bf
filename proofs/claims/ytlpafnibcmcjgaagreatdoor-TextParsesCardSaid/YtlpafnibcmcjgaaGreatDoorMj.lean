/- The program's reader in memory: the rows that it has begun. The program's reader in memory: what it holds, and how it goes on. -/
import Derived.Test.YtlpafnibcmcjgaaGreatDoorMi
import Derived.Deep.AppendLies
namespace Go.Proofs.YtlpafnibcmcjgaaGreatDoor
open Go.RowKit

/-- Whole terms that lie in a row, one behind the other. -/
def Its (w : World) (F : Nat → Prop) : List T → List Value → Prop
  | [], xs => xs = []
  | t :: l, xs => ∃ sl r, xs = (t.cs sl).toList ++ r ∧ TV w F t sl ∧ Its w F l r
theorem cs_len (t : T) (sl : Value) : (t.cs sl).toList.length = 7 := rfl
theorem Its.snoc {w : World} {F : Nat → Prop} {t : T} {sl : Value} (ht : TV w F t sl) : ∀ {l : List T} {xs : List Value}, Its w F l xs → Its w F (l ++ [t]) (xs ++ (t.cs sl).toList)
  | [], xs, h => by
    simp only [Its] at h
    subst h
    exact ⟨sl, [], by simp, ht, rfl⟩
  | u :: l, xs, h => by
    obtain ⟨s, r, e, h1, h2⟩ := h
    exact ⟨s, r ++ (t.cs sl).toList, by rw [e, List.append_assoc], h1, Its.snoc ht h2⟩
theorem Its.len {w : World} {F : Nat → Prop} : ∀ {l : List T} {xs : List Value}, Its w F l xs → xs.length = l.length * 7
  | [], xs, h => by simp only [Its] at h; subst h; rfl
  | u :: l, xs, h => by
    obtain ⟨s, r, e, h1, h2⟩ := h
    rw [e, List.length_append, cs_len, Its.len h2, List.length_cons]; omega
theorem Its.move {w w' : World} {F F' : Nat → Prop} (hm : ∀ t sl, TV w F t sl → TV w' F' t sl) : ∀ {l : List T} {xs : List Value}, Its w F l xs → Its w' F' l xs
  | [], _, h => h
  | _ :: _, _, h => by
    obtain ⟨s, r, e, h1, h2⟩ := h
    exact ⟨s, r, e, hm _ _ h1, Its.move hm h2⟩
theorem Its.tvs {w : World} {F : Nat → Prop} {bl : Nat} : ∀ {l : List T} {xs : List Value} {off : Nat}, Its w F l xs → (∀ j u, xs[j]? = some u → w.cell? ⟨bl, off + j, none⟩ = some u) → TVs w F l bl off
  | [], _, _, _, _ => by simp only [TVs]
  | t :: l, xs, off, h, hc => by
    obtain ⟨s, r, e, h1, h2⟩ := h
    simp only [TVs]
    refine ⟨⟨s, h1, fun j u hj => hc j u ?_⟩, Its.tvs h2 fun j u hj => ?_⟩
    · have hl : j < (t.cs s).toList.length := by
        rw [Array.length_toList]
        exact (Array.getElem?_eq_some_iff.1 hj).1
      rw [e, List.getElem?_append_left hl, Array.getElem?_toList]; exact hj
    · rw [show off + 7 + j = off + (7 + j) by omega]
      refine hc (7 + j) u ?_
      rw [e, List.getElem?_append_right (by rw [cs_len]; omega), cs_len, show 7 + j - 7 = j by omega]; exact hj

/-! ### Rows -/
theorem Row.only {S : List Nat} {w w' : World} {base : Nat} {e : TypeId} {size : Nat} {v : Value} {n : Nat} {xs : List Value} (h : w.ownsRow base e size v n xs) (o : Only S w w') (hS : ∀ g, v.ownBlock = some g → g ∉ S) : w'.ownsRow base e size v n xs := by
  refine ⟨h.1, ?_⟩
  rcases h.2 with h2 | ⟨g, cap, cur, hv, hb, hg, h3⟩
  · exact .inl h2
  · have hg' : Bk w g e cur := hg
    exact .inr ⟨g, cap, cur, hv, hb, hg'.only o (hS g (by rw [hv]; rfl)), h3⟩
theorem Row.block {w : World} {base : Nat} {e : TypeId} {size : Nat} {v : Value} {n : Nat} {xs : List Value} (h : w.ownsRow base e size v n xs) {g : Nat} (hg : v.ownBlock = some g) : base ≤ g ∧ g < w.heap.size := by
  rcases h.2 with ⟨hv, _⟩ | ⟨g', cap, cur, hv, hb, hg', _⟩
  · rw [hv] at hg; cases hg
  · rw [hv] at hg
    injection hg with hg
    subst hg
    exact ⟨hb, Bk.lt (t := e) (cs := cur) hg'⟩
theorem Row.cell {w : World} {base : Nat} {e : TypeId} {size : Nat} {g cap n : Nat} {xs : List Value} (h : w.ownsRow base e size (.slice (some ⟨g, 0, none⟩) n cap) n xs) (j : Nat) (u : Value) (hj : xs[j]? = some u) : w.cell? ⟨g, j, none⟩ = some u := by
  rcases h.2 with ⟨hv, _⟩ | ⟨g', cap', cur, hv, hb, hg', _, _, _, hx⟩
  · cases hv
  · injection hv with h1 h2 h3
    injection h1 with h1
    injection h1 with h1
    subst h1
    rw [Bk.cell (t := e) (cs := cur) hg']
    rw [← hx, List.getElem?_take] at hj
    split at hj
    · rw [← Array.getElem?_toList]; exact hj
    · cases hj
theorem Row.free {w : World} {base : Nat} {e : TypeId} {size : Nat} {g cap n : Nat} {xs : List Value} (h : w.ownsRow base e size (.slice (some ⟨g, 0, none⟩) n cap) n xs) (j : Nat) : w.frozen? ⟨g, j, none⟩ = false := by
  rcases h.2 with ⟨hv, _⟩ | ⟨g', cap', cur, hv, hb, hg', _, _, _, hx⟩
  · cases hv
  · injection hv with h1 h2 h3
    injection h1 with h1
    injection h1 with h1
    subst h1
    exact Bk.free (t := e) (cs := cur) hg' j
theorem Row.set {w : World} {base : Nat} {e : TypeId} {size : Nat} {g cap n : Nat} {xs : List Value} (h : w.ownsRow base e size (.slice (some ⟨g, 0, none⟩) n cap) n xs) (i : Nat) (u : Value) : (w.setCell ⟨g, i, none⟩ u).ownsRow base e size (.slice (some ⟨g, 0, none⟩) n cap) n (xs.set i u) := by
  refine ⟨by rw [List.length_set]; exact h.1, ?_⟩
  rcases h.2 with ⟨hv, _⟩ | ⟨g', cap', cur, hv, hb, hg', h1, h2, h3, hx⟩
  · cases hv
  · injection hv with k1 k2 k3
    injection k1 with k1
    injection k1 with k1
    subst k1 k3
    refine .inr ⟨g, cap, cur.setIfInBounds i u, rfl, hb, Bk.set (t := e) (cs := cur) hg' i u, h1, h2, by rw [Array.size_setIfInBounds]; exact h3, ?_⟩
    rw [Array.toList_setIfInBounds, List.take_set, hx]
def lay (xs : List Value) : Nat → List Value → List Value
  | _, [] => xs
  | o, v :: r => lay (xs.set o v) (o + 1) r
theorem Row.sets {base : Nat} {e : TypeId} {size : Nat} {g cap n : Nat} : ∀ (ys : List Value) (o : Nat) {w : World} {xs : List Value}, w.ownsRow base e size (.slice (some ⟨g, 0, none⟩) n cap) n xs → (w.setCells g o ys).ownsRow base e size (.slice (some ⟨g, 0, none⟩) n cap) n (lay xs o ys)
  | [], _, _, _, h => h
  | y :: ys, o, _, _, h => Row.sets ys (o + 1) (Row.set h o y)
theorem lay_eq : ∀ (ys zs xs : List Value), ys.length = zs.length → lay (xs ++ zs) xs.length ys = xs ++ ys
  | [], [], xs, _ => rfl
  | y :: ys, z :: zs, xs, h => by
    have := lay_eq ys zs (xs ++ [y]) (by simpa using h)
    simp only [lay]
    rw [show (xs ++ z :: zs).set xs.length y = (xs ++ [y]) ++ zs by simp, show xs.length + 1 = (xs ++ [y]).length by simp, this]
    simp
theorem Row.last {w : World} {base : Nat} {e : TypeId} {size : Nat} {g cap n m : Nat} {xs zs ys : List Value} (h : w.ownsRow base e size (.slice (some ⟨g, 0, none⟩) n cap) n (xs ++ zs)) (hl : ys.length = zs.length) (hm : m = xs.length) :
    (w.setCells g m ys).ownsRow base e size (.slice (some ⟨g, 0, none⟩) n cap) n (xs ++ ys) := by
  subst hm
  have := Row.sets ys xs.length h
  rwa [lay_eq _ _ _ hl] at this
theorem Only.sets {S : List Nat} {a : World} {b : Nat} (hp : b ∈ S ∨ a.heap.size ≤ b) : ∀ (vs : List Value) (o : Nat) {w : World}, Only S a w → Only S a (w.setCells b o vs)
  | [], _, _, h => h
  | v :: r, o, _, h => Only.sets hp r (o + 1) (h.set (p := ⟨b, o, none⟩) hp v)
theorem Row.cut {w : World} {base : Nat} {e : TypeId} {size : Nat} {g cap n m : Nat} {xs ys : List Value} (h : w.ownsRow base e size (.slice (some ⟨g, 0, none⟩) n cap) n (xs ++ ys)) (hl : xs.length = m * size) (hm : m ≤ n) :
    w.ownsRow base e size (.slice (some ⟨g, 0, none⟩) m cap) m xs := by
  refine ⟨hl, ?_⟩
  rcases h.2 with ⟨hv, _⟩ | ⟨g', cap', cur, hv, hb, hg', h1, h2, h3, hx⟩
  · cases hv
  · injection hv with k1 k2 k3
    injection k1 with k1
    injection k1 with k1
    subst k1 k3
    refine .inr ⟨g, cap, cur, rfl, hb, hg', by omega, h2, h3, ?_⟩
    have := congrArg (List.take xs.length) hx
    rw [List.take_take, List.take_left, hl, Nat.min_eq_left (Nat.mul_le_mul_right _ hm)] at this
    exact this
end Go.Proofs.YtlpafnibcmcjgaaGreatDoor

namespace Go.Proofs.YtlpafnibcmcjgaaGreatDoor
open Go.RowKit

/-- The begun ones, the innermost ahead, as they lie: the outermost ahead. -/
def ocs : List (Opn × Value) → List Value
  | [] => []
  | p :: r => ocs r ++ (tcs p.1.k 0 0 0 ⟨#[]⟩ 0 0 p.2).toList
theorem ocs_len : ∀ ps : List (Opn × Value), (ocs ps).length = ps.length * 7
  | [] => rfl
  | p :: r => by
    show (ocs r ++ _).length = _
    have e : (tcs p.1.k 0 0 0 ⟨#[]⟩ 0 0 p.2).toList.length = 7 := rfl
    rw [List.length_append, ocs_len r, e, List.length_cons]; omega
def NoMeet (a b : Value) : Prop := ∀ g, a.ownBlock = some g → b.ownBlock ≠ some g
structure Rdr (w : World) (base : Nat) (F : Nat → Prop) (bv : Value) (ps : List (Opn × Value)) : Prop where
  le : base ≤ w.heap.size
  fr : ∀ b, F b → base ≤ b ∧ b < w.heap.size
  row : w.ownsRow base 27 7 bv ps.length (ocs ps)
  each : ∀ p ∈ ps, ∃ xs, w.ownsRow base 27 7 p.2 p.1.items.length xs ∧ Its w F p.1.items xs
  apart : (bv :: ps.map (·.2)).Pairwise NoMeet
  free : ∀ v ∈ bv :: ps.map (·.2), ∀ g, v.ownBlock = some g → ¬ F g
theorem Rdr.only {S : List Nat} {w w' : World} {base : Nat} {F : Nat → Prop} {bv : Value} {ps : List (Opn × Value)} (h : Rdr w base F bv ps) (o : Only S w w') (hS : ∀ b ∈ S, b < base) : Rdr w' base F bv ps := by
  have hn : ∀ {n : Nat} {v : Value} {xs : List Value}, w.ownsRow base 27 7 v n xs → ∀ g, v.ownBlock = some g → g ∉ S := fun hr g hg hm => by
    have := (Row.block hr hg).1
    have := hS g hm
    omega
  refine ⟨Nat.le_trans h.le o.size, fun b hb => ⟨(h.fr b hb).1, Nat.lt_of_lt_of_le (h.fr b hb).2 o.size⟩, Row.only h.row o (hn h.row), fun p hp => ?_, h.apart, h.free⟩
  obtain ⟨xs, h1, h2⟩ := h.each p hp
  exact ⟨xs, Row.only h1 o (hn h1), Its.move (fun t sl => TV.only o (fun b hb hf => by have := hS b hb; have := (h.fr b hf).1; omega) (fun _ h => h) t sl) h2⟩
/-- The row of the begun ones is another, or has grown. -/
theorem Rdr.grow {w w1 : World} {base : Nat} {F : Nat → Prop} {bv bv' : Value} {ps : List (Opn × Value)} {g : Nat} {k : Int} {S : List Nat} (h : Rdr w base F bv ps) (o : Only S w w1) (hSS : ∀ b ∈ S, b < base ∨ bv.ownBlock = some b)
    (hg : bv.ownBlock = some g ∨ w.heap.size ≤ g) (hb : bv'.ownBlock = some g) (hr : w1.ownsRow base 27 7 bv' (ps.length + 1) (ocs ps ++ (tcs k 0 0 0 ⟨#[]⟩ 0 0 (.slice none 0 0)).toList)) :
    Rdr w1 base F bv' ((⟨k, []⟩, .slice none 0 0) :: ps) := by
  have hap := List.pairwise_cons.1 h.apart
  have hS : ∀ b ∈ S, ¬ F b := fun b hb hf => by
    rcases hSS b hb with hb | hb
    · have := (h.fr b hf).1; omega
    · exact h.free bv (by simp) b hb hf
  have hnew : ∀ v ∈ ps.map (·.2), v.ownBlock ≠ some g := fun v hv e => by
    rcases hg with hg | hg
    · exact hap.1 v hv g hg e
    · obtain ⟨p, hp, rfl⟩ := List.mem_map.1 hv
      obtain ⟨xs, h1, _⟩ := h.each p hp
      have := (Row.block h1 e).2
      omega
  have hF : ¬ F g := fun hf => by
    rcases hg with hg | hg
    · exact h.free bv (by simp) g hg hf
    · have := (h.fr g hf).2
      omega
  refine ⟨Nat.le_trans h.le o.size, fun b hb => ⟨(h.fr b hb).1, Nat.lt_of_lt_of_le (h.fr b hb).2 o.size⟩, hr, fun p hp => ?_, ?_, ?_⟩
  · rcases List.mem_cons.1 hp with rfl | hp
    · exact ⟨[], ⟨rfl, .inl ⟨rfl, rfl⟩⟩, rfl⟩
    · obtain ⟨xs, h1, h2⟩ := h.each p hp
      refine ⟨xs, Row.only h1 o fun b hb hm => ?_, Its.move (fun t sl => TV.only o hS (fun _ h => h) t sl) h2⟩
      rcases hSS b hm with hm | hm
      · have := (Row.block h1 hb).1; omega
      · exact hap.1 p.2 (List.mem_map_of_mem hp) b hm hb
  · simp only [List.map_cons, List.pairwise_cons]
    refine ⟨fun v hv b hb' => ?_, ⟨fun v _ b hb' => (by cases hb'), hap.2⟩⟩
    rw [hb] at hb'
    injection hb' with hb'
    subst hb'
    rcases List.mem_cons.1 hv with rfl | hv
    · intro e; cases e
    · exact hnew v hv
  · intro v hv b hb'
    rcases List.mem_cons.1 hv with rfl | hv
    · rw [hb] at hb'
      injection hb' with hb'
      subst hb'
      exact hF
    · simp only [List.map_cons] at hv
      rcases List.mem_cons.1 hv with rfl | hv
      · cases hb'
      · exact h.free v (by simp [hv]) b hb'
/-- A whole term is laid into the innermost one. -/
theorem Rdr.lay {w w1 : World} {base : Nat} {F : Nat → Prop} {bv sl sl' slt : Value} {o : Opn} {t : T} {ps : List (Opn × Value)} {g : Nat} {xs : List Value} {S : List Nat} (h : Rdr w base F bv ((o, sl) :: ps)) (ht : TV w F t slt)
    (hit : Its w F o.items xs) (on : Only S w w1) (hSS : ∀ b ∈ S, b < base ∨ sl.ownBlock = some b ∨ bv.ownBlock = some b) (hg : sl.ownBlock = some g ∨ w.heap.size ≤ g) (hb : sl'.ownBlock = some g)
    (hr : w1.ownsRow base 27 7 sl' (o.items.length + 1) (xs ++ (t.cs slt).toList)) (hrow : w1.ownsRow base 27 7 bv (ps.length + 1) (ocs ps ++ (tcs o.k 0 0 0 ⟨#[]⟩ 0 0 sl').toList)) :
    Rdr w1 base F bv ((⟨o.k, o.items ++ [t]⟩, sl') :: ps) := by
  have hap := List.pairwise_cons.1 h.apart
  simp only [List.map_cons] at hap
  have hap2 := List.pairwise_cons.1 hap.2
  have hS : ∀ b ∈ S, ¬ F b := fun b hb hf => by
    rcases hSS b hb with hb | hb | hb
    · have := (h.fr b hf).1; omega
    · exact h.free sl (by simp) b hb hf
    · exact h.free bv (by simp) b hb hf
  have hmove : ∀ t sl, TV w F t sl → TV w1 F t sl := fun t sl => TV.only on hS (fun _ h => h) t sl
  have hF : ¬ F g := fun hf => by
    rcases hg with hg | hg
    · exact h.free sl (by simp) g hg hf
    · have := (h.fr g hf).2
      omega
  have hbv : bv.ownBlock ≠ some g := fun e => by
    rcases hg with hg | hg
    · exact hap.1 sl (by simp) g e hg
    · have := (Row.block h.row e).2
      omega
  have hnew : ∀ v ∈ ps.map (·.2), v.ownBlock ≠ some g := fun v hv e => by
    rcases hg with hg | hg
    · exact hap2.1 v hv g hg e
    · obtain ⟨p, hp, rfl⟩ := List.mem_map.1 hv
      obtain ⟨xs, h1, _⟩ := h.each p (by simp [hp])
      have := (Row.block h1 e).2
      omega
  refine ⟨Nat.le_trans h.le on.size, fun b hb => ⟨(h.fr b hb).1, Nat.lt_of_lt_of_le (h.fr b hb).2 on.size⟩, hrow, fun p hp => ?_, ?_, ?_⟩
  · rcases List.mem_cons.1 hp with rfl | hp
    · refine ⟨_, ?_, (Its.move hmove hit).snoc (hmove _ _ ht)⟩
      simp only [List.length_append, List.length_singleton]
      exact hr
    · obtain ⟨ys, h1, h2⟩ := h.each p (by simp [hp])
      refine ⟨ys, Row.only h1 on fun b hb hm => ?_, Its.move hmove h2⟩
      rcases hSS b hm with hm | hm | hm
      · have := (Row.block h1 hb).1; omega
      · exact hap2.1 p.2 (List.mem_map_of_mem hp) b hm hb
      · exact hap.1 p.2 (by simp; exact .inr ⟨_, hp⟩) b hm hb
  · simp only [List.map_cons, List.pairwise_cons]
    refine ⟨fun v hv b hb' e => ?_, ⟨fun v hv b hb' e => ?_, hap2.2⟩⟩
    · rcases List.mem_cons.1 hv with rfl | hv
      · rw [hb] at e
        injection e with e
        subst e
        exact hbv hb'
      · exact hap.1 v (by simp at hv ⊢; exact .inr hv) b hb' e
    · rw [hb] at hb'
      injection hb' with hb'
      subst hb'
      exact hnew v hv e
  · intro v hv b hb'
    simp only [List.map_cons] at hv
    rcases List.mem_cons.1 hv with rfl | hv
    · exact h.free v (by simp) b hb'
    · rcases List.mem_cons.1 hv with rfl | hv
      · rw [hb] at hb'
        injection hb' with hb'
        subst hb'
        exact hF
      · exact h.free v (by simp at hv ⊢; exact .inr (.inr hv)) b hb'
/-- The innermost one is whole. -/
theorem Rdr.shut {w : World} {base : Nat} {F : Nat → Prop} {sl : Value} {o : Opn} {ps : List (Opn × Value)} {g cap n : Nat} (h : Rdr w base F (.slice (some ⟨g, 0, none⟩) n cap) ((o, sl) :: ps)) :
    ∃ F' : Nat → Prop, (∀ b, F b → F' b) ∧ Rdr w base F' (.slice (some ⟨g, 0, none⟩) ps.length cap) ps ∧ TV w F' (.tup o.k o.items) sl := by
  have hap := List.pairwise_cons.1 h.apart
  simp only [List.map_cons] at hap
  have hap2 := List.pairwise_cons.1 hap.2
  obtain ⟨xs, h1, h2⟩ := h.each (o, sl) (by simp)
  simp only at h1 h2
  have hm : ∀ F' : Nat → Prop, (∀ b, F b → F' b) → ∀ t sl, TV w F t sl → TV w F' t sl := fun F' hF t sl => TV.only (S := []) (Only.refl _ _) (by simp) hF t sl
  have hrow := h.row
  have hn : n = ps.length + 1 := by
    rcases hrow.2 with ⟨hv, _⟩ | ⟨g', cap', cur, hv, _⟩
    · cases hv
    · injection hv
  subst hn
  refine ⟨fun b => F b ∨ sl.ownBlock = some b, fun b hb => .inl hb, ⟨h.le, fun b hb => ?_, ?_, fun p hp => ?_, ?_, ?_⟩, ?_⟩
  · rcases hb with hb | hb
    · exact h.fr b hb
    · exact Row.block h1 hb
  · exact Row.cut hrow (ocs_len ps) (by omega)
  · obtain ⟨ys, h3, h4⟩ := h.each p (by simp [hp])
    exact ⟨ys, h3, Its.move (hm _ fun b hb => .inl hb) h4⟩
  · exact List.pairwise_cons.2 ⟨fun v hv => hap.1 v (by simp at hv ⊢; exact .inr hv), hap2.2⟩
  · intro v hv b hb hF
    rcases hF with hF | hF
    · rcases List.mem_cons.1 hv with rfl | hv
      · exact h.free (.slice (some ⟨g, 0, none⟩) (ps.length + 1) cap) (by simp) b hb hF
      · exact h.free v (by simp at hv ⊢; exact .inr (.inr hv)) b hb hF
    · rcases List.mem_cons.1 hv with rfl | hv
      · exact hap.1 sl (by simp) b hb hF
      · exact hap2.1 v hv b hF hb
  · simp only [TV]
    rcases h1.2 with ⟨hv, h0⟩ | ⟨b, c, cur, hv, hb, hg', h3, h4, h5, h6⟩
    · exact ⟨none, 0, by rw [hv, h0], by omega, by omega, .inl (List.length_eq_zero_iff.1 h0)⟩
    · refine ⟨some ⟨b, 0, none⟩, c, hv, h3, h4, .inr ⟨b, 0, rfl, Bk.lt (t := 27) (cs := cur) hg', .inr (by rw [hv]; rfl), ?_⟩⟩
      subst hv
      refine Its.tvs (Its.move (hm _ fun b hb => .inl hb) h2) fun j u hj => ?_
      rw [Nat.zero_add]
      exact Row.cell h1 j u hj
end Go.Proofs.YtlpafnibcmcjgaaGreatDoor
