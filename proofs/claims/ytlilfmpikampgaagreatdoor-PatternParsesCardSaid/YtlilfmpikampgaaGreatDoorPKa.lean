/- The program's reader of patterns in memory: the rows that it has begun. pattern.reader: need, comma. pattern.reader: isIn; begin and end where they give up. pattern.reader: begin, end and bar where they give up. pattern.reader: begin. pattern.reader: put, where nothing is begun. pattern.reader: bar, where it goes on. pattern.reader: skip. -/
import Derived.Test.YtlilfmpikampgaaGreatDoorPK7
import Derived.Test.YtlilfmpikampgaaGreatDoorPMj
import Derived.Deep.RegionWith
namespace Go.Proofs.YtlilfmpikampgaaGreatDoor
open Go.RowKit

/-- Whole patterns that lie in a row, one behind the other. -/
def PIts (w : World) (F : Nat → Prop) : List QT → List Value → Prop
  | [], xs => xs = []
  | t :: l, xs => ∃ sl sr r, xs = (t.cs sl sr).toList ++ r ∧ QV w F t sl sr ∧ PIts w F l r
theorem pcs_len (t : QT) (sl sr : Value) : (t.cs sl sr).toList.length = 11 := rfl
theorem PIts.snoc {w : World} {F : Nat → Prop} {t : QT} {sl sr : Value} (ht : QV w F t sl sr) : ∀ {l : List QT} {xs : List Value}, PIts w F l xs → PIts w F (l ++ [t]) (xs ++ (t.cs sl sr).toList)
  | [], xs, h => by
    simp only [PIts] at h
    subst h
    exact ⟨sl, sr, [], by simp, ht, rfl⟩
  | u :: l, xs, h => by
    obtain ⟨s, s2, r, e, h1, h2⟩ := h
    exact ⟨s, s2, r ++ (t.cs sl sr).toList, by rw [e, List.append_assoc], h1, PIts.snoc ht h2⟩
theorem PIts.len {w : World} {F : Nat → Prop} : ∀ {l : List QT} {xs : List Value}, PIts w F l xs → xs.length = l.length * 11
  | [], xs, h => by simp only [PIts] at h; subst h; rfl
  | u :: l, xs, h => by
    obtain ⟨s, s2, r, e, h1, h2⟩ := h
    rw [e, List.length_append, pcs_len, PIts.len h2, List.length_cons]; omega
theorem PIts.move {w w' : World} {F F' : Nat → Prop} (hm : ∀ t sl sr, QV w F t sl sr → QV w' F' t sl sr) : ∀ {l : List QT} {xs : List Value}, PIts w F l xs → PIts w' F' l xs
  | [], _, h => h
  | _ :: _, _, h => by
    obtain ⟨s, s2, r, e, h1, h2⟩ := h
    exact ⟨s, s2, r, e, hm _ _ _ h1, PIts.move hm h2⟩
theorem PIts.qvs {w : World} {F : Nat → Prop} {bl : Nat} : ∀ {l : List QT} {xs : List Value} {off : Nat}, PIts w F l xs → (∀ j u, xs[j]? = some u → w.cell? ⟨bl, off + j, none⟩ = some u) → QVs w F l bl off
  | [], _, _, _, _ => by simp only [QVs]
  | t :: l, xs, off, h, hc => by
    obtain ⟨s, s2, r, e, h1, h2⟩ := h
    simp only [QVs]
    refine ⟨⟨s, s2, h1, fun j u hj => hc j u ?_⟩, PIts.qvs h2 fun j u hj => ?_⟩
    · have hl : j < (t.cs s s2).toList.length := by
        rw [Array.length_toList]
        exact (Array.getElem?_eq_some_iff.1 hj).1
      rw [e, List.getElem?_append_left hl, Array.getElem?_toList]; exact hj
    · rw [show off + 11 + j = off + (11 + j) by omega]
      refine hc (11 + j) u ?_
      rw [e, List.getElem?_append_right (by rw [pcs_len]; omega), pcs_len, show 11 + j - 11 = j by omega]; exact hj

/-- A begun one's twelve cells. -/
abbrev ocell (k : Int) (sl sr : Value) (bar : Bool) : Array Value := #[.int .i64 k, .int .i64 0, .int .i64 0, .int .i64 0, .complex .f64 0 0, .string ⟨#[]⟩, .int .i64 0, .int .i64 0, .slice none 0 0, sl, sr, .bool bar]
/-- The begun ones, the innermost ahead, as they lie: the outermost ahead. -/
def bcs : List (QOpn × Value × Value) → List Value
  | [] => []
  | p :: r => bcs r ++ (ocell p.1.k p.2.1 p.2.2 p.1.bar).toList
theorem bcs_len : ∀ ps : List (QOpn × Value × Value), (bcs ps).length = ps.length * 12
  | [] => rfl
  | p :: r => by
    show (bcs r ++ _).length = _
    have e : (ocell p.1.k p.2.1 p.2.2 p.1.bar).toList.length = 12 := rfl
    rw [List.length_append, bcs_len r, e, List.length_cons]; omega
structure PRdr (w : World) (base : Nat) (F : Nat → Prop) (bv : Value) (ps : List (QOpn × Value × Value)) : Prop where
  le : base ≤ w.heap.size
  fr : ∀ b, F b → base ≤ b ∧ b < w.heap.size
  row : w.ownsRow base 94 12 bv ps.length (bcs ps)
  each : ∀ p ∈ ps, ∃ xs, w.ownsRow base 30 11 p.2.1 p.1.items.length xs ∧ PIts w F p.1.items xs ∧ QL w F p.1.rest p.2.2
  apart : (bv :: ps.map (·.2.1)).Pairwise NoMeet
  free : ∀ v ∈ bv :: ps.map (·.2.1), ∀ g, v.ownBlock = some g → ¬ F g
theorem PRdr.only {S : List Nat} {w w' : World} {base : Nat} {F : Nat → Prop} {bv : Value} {ps : List (QOpn × Value × Value)} (h : PRdr w base F bv ps) (o : Only S w w') (hS : ∀ b ∈ S, b < base) : PRdr w' base F bv ps := by
  have hn : ∀ {e : TypeId} {sz n : Nat} {v : Value} {xs : List Value}, w.ownsRow base e sz v n xs → ∀ g, v.ownBlock = some g → g ∉ S := fun hr g hg hm => by
    have := (Row.block hr hg).1
    have := hS g hm
    omega
  have hF : ∀ b ∈ S, ¬ F b := fun b hb hf => by have := hS b hb; have := (h.fr b hf).1; omega
  refine ⟨Nat.le_trans h.le o.size, fun b hb => ⟨(h.fr b hb).1, Nat.lt_of_lt_of_le (h.fr b hb).2 o.size⟩, Row.only h.row o (hn h.row), fun p hp => ?_, h.apart, h.free⟩
  obtain ⟨xs, h1, h2, h3⟩ := h.each p hp
  exact ⟨xs, Row.only h1 o (hn h1), PIts.move (fun t sl sr => QV.only o hF (fun _ h => h) t sl sr) h2, QL.only o hF (fun _ h => h) h3⟩
/-- The row of the begun ones is another, or has grown. -/
theorem PRdr.grow {w w1 : World} {base : Nat} {F : Nat → Prop} {bv bv' : Value} {ps : List (QOpn × Value × Value)} {g : Nat} {k : Int} {S : List Nat} (h : PRdr w base F bv ps) (o : Only S w w1) (hSS : ∀ b ∈ S, b < base ∨ bv.ownBlock = some b)
    (hg : bv.ownBlock = some g ∨ w.heap.size ≤ g) (hb : bv'.ownBlock = some g) (hr : w1.ownsRow base 94 12 bv' (ps.length + 1) (bcs ps ++ (ocell k (.slice none 0 0) (.slice none 0 0) false).toList)) :
    PRdr w1 base F bv' ((⟨k, [], false, []⟩, .slice none 0 0, .slice none 0 0) :: ps) := by
  have hap := List.pairwise_cons.1 h.apart
  have hS : ∀ b ∈ S, ¬ F b := fun b hb hf => by
    rcases hSS b hb with hb | hb
    · have := (h.fr b hf).1; omega
    · exact h.free bv (by simp) b hb hf
  have hnew : ∀ v ∈ ps.map (·.2.1), v.ownBlock ≠ some g := fun v hv e => by
    rcases hg with hg | hg
    · exact hap.1 v hv g hg e
    · obtain ⟨p, hp, rfl⟩ := List.mem_map.1 hv
      obtain ⟨xs, h1, _⟩ := h.each p hp
      have := (Row.block h1 e).2
      omega
  have hF : ¬ F g := fun hf => by
    rcases hg with hg | hg
    · exact h.free bv (by simp) g hg hf
    · have := (h.fr g hf).2
      omega
  refine ⟨Nat.le_trans h.le o.size, fun b hb => ⟨(h.fr b hb).1, Nat.lt_of_lt_of_le (h.fr b hb).2 o.size⟩, hr, fun p hp => ?_, ?_, ?_⟩
  · rcases List.mem_cons.1 hp with rfl | hp
    · exact ⟨[], ⟨rfl, .inl ⟨rfl, rfl⟩⟩, rfl, QL.nil _ _⟩
    · obtain ⟨xs, h1, h2, h3⟩ := h.each p hp
      refine ⟨xs, Row.only h1 o fun b hb hm => ?_, PIts.move (fun t sl sr => QV.only o hS (fun _ h => h) t sl sr) h2, QL.only o hS (fun _ h => h) h3⟩
      rcases hSS b hm with hm | hm
      · have := (Row.block h1 hb).1; omega
      · exact hap.1 p.2.1 (List.mem_map_of_mem (f := (·.2.1)) hp) b hm hb
  · simp only [List.map_cons, List.pairwise_cons]
    refine ⟨fun v hv b hb' => ?_, ⟨fun v _ b hb' => (by cases hb'), hap.2⟩⟩
    rw [hb] at hb'
    injection hb' with hb'
    subst hb'
    rcases List.mem_cons.1 hv with rfl | hv
    · intro e; cases e
    · exact hnew v hv
  · intro v hv b hb'
    rcases List.mem_cons.1 hv with rfl | hv
    · rw [hb] at hb'
      injection hb' with hb'
      subst hb'
      exact hF
    · simp only [List.map_cons] at hv
      rcases List.mem_cons.1 hv with rfl | hv
      · cases hb'
      · exact h.free v (by simp [hv]) b hb'
/-- A whole pattern is laid into the innermost one, ahead of its bar. -/
theorem PRdr.lay {w w1 : World} {base : Nat} {F : Nat → Prop} {bv sl sr sl' pl pr : Value} {o : QOpn} {t : QT} {ps : List (QOpn × Value × Value)} {g : Nat} {xs : List Value} {S : List Nat} (h : PRdr w base F bv ((o, sl, sr) :: ps)) (ht : QV w F t pl pr)
    (hit : PIts w F o.items xs) (on : Only S w w1) (hSS : ∀ b ∈ S, b < base ∨ sl.ownBlock = some b ∨ bv.ownBlock = some b) (hg : sl.ownBlock = some g ∨ w.heap.size ≤ g) (hb : sl'.ownBlock = some g)
    (hr : w1.ownsRow base 30 11 sl' (o.items.length + 1) (xs ++ (t.cs pl pr).toList)) (hrow : w1.ownsRow base 94 12 bv (ps.length + 1) (bcs ps ++ (ocell o.k sl' sr false).toList)) :
    PRdr w1 base F bv ((⟨o.k, o.items ++ [t], false, o.rest⟩, sl', sr) :: ps) := by
  have hap := List.pairwise_cons.1 h.apart
  simp only [List.map_cons] at hap
  have hap2 := List.pairwise_cons.1 hap.2
  have hS : ∀ b ∈ S, ¬ F b := fun b hb hf => by
    rcases hSS b hb with hb | hb | hb
    · have := (h.fr b hf).1; omega
    · exact h.free sl (by simp) b hb hf
    · exact h.free bv (by simp) b hb hf
  have hmove : ∀ t sl sr, QV w F t sl sr → QV w1 F t sl sr := fun t sl sr => QV.only on hS (fun _ h => h) t sl sr
  have hF : ¬ F g := fun hf => by
    rcases hg with hg | hg
    · exact h.free sl (by simp) g hg hf
    · have := (h.fr g hf).2
      omega
  have hbv : bv.ownBlock ≠ some g := fun e => by
    rcases hg with hg | hg
    · exact hap.1 sl (by simp) g e hg
    · have := (Row.block h.row e).2
      omega
  have hnew : ∀ v ∈ ps.map (·.2.1), v.ownBlock ≠ some g := fun v hv e => by
    rcases hg with hg | hg
    · exact hap2.1 v hv g hg e
    · obtain ⟨p, hp, rfl⟩ := List.mem_map.1 hv
      obtain ⟨xs, h1, _⟩ := h.each p (by simp [hp])
      have := (Row.block h1 e).2
      omega
  refine ⟨Nat.le_trans h.le on.size, fun b hb => ⟨(h.fr b hb).1, Nat.lt_of_lt_of_le (h.fr b hb).2 on.size⟩, hrow, fun p hp => ?_, ?_, ?_⟩
  · rcases List.mem_cons.1 hp with rfl | hp
    · obtain ⟨_, _, _, h3⟩ := h.each (o, sl, sr) (by simp)
      refine ⟨_, ?_, (PIts.move hmove hit).snoc (hmove _ _ _ ht), QL.only on hS (fun _ h => h) h3⟩
      simp only [List.length_append, List.length_singleton]
      exact hr
    · obtain ⟨ys, h1, h2, h3⟩ := h.each p (by simp [hp])
      refine ⟨ys, Row.only h1 on fun b hb hm => ?_, PIts.move hmove h2, QL.only on hS (fun _ h => h) h3⟩
      rcases hSS b hm with hm | hm | hm
      · have := (Row.block h1 hb).1; omega
      · exact hap2.1 p.2.1 (List.mem_map_of_mem (f := (·.2.1)) hp) b hm hb
      · exact hap.1 p.2.1 (List.mem_cons_of_mem _ (List.mem_map_of_mem (f := (·.2.1)) hp)) b hm hb
  · simp only [List.map_cons, List.pairwise_cons]
    refine ⟨fun v hv b hb' e => ?_, ⟨fun v hv b hb' e => ?_, hap2.2⟩⟩
    · rcases List.mem_cons.1 hv with rfl | hv
      · rw [hb] at e
        injection e with e
        subst e
        exact hbv hb'
      · exact hap.1 v (List.mem_cons_of_mem _ hv) b hb' e
    · rw [hb] at hb'
      injection hb' with hb'
      subst hb'
      exact hnew v hv e
  · intro v hv b hb'
    simp only [List.map_cons] at hv
    rcases List.mem_cons.1 hv with rfl | hv
    · exact h.free v (by simp) b hb'
    · rcases List.mem_cons.1 hv with rfl | hv
      · rw [hb] at hb'
        injection hb' with hb'
        subst hb'
        exact hF
      · exact h.free v (List.mem_cons_of_mem _ (List.mem_cons_of_mem _ hv)) b hb'
/-- The innermost one's bar is set, or its rest laid (into a block of its own): its items are as they were. -/
theorem PRdr.turn {w w1 : World} {base : Nat} {F F' : Nat → Prop} {bv sl sr sr' : Value} {o : QOpn} {r : List QT} {bar : Bool} {ps : List (QOpn × Value × Value)} {S : List Nat} (h : PRdr w base F bv ((o, sl, sr) :: ps))
    (on : Only S w w1) (hSS : ∀ b ∈ S, b < base ∨ bv.ownBlock = some b) (hFF : ∀ b, F b → F' b) (hF' : ∀ b, F' b → F b ∨ (w.heap.size ≤ b ∧ b < w1.heap.size)) (hrest : QL w1 F' r sr')
    (hrow : w1.ownsRow base 94 12 bv (ps.length + 1) (bcs ps ++ (ocell o.k sl sr' bar).toList)) :
    PRdr w1 base F' bv ((⟨o.k, o.items, bar, r⟩, sl, sr') :: ps) := by
  have hap := List.pairwise_cons.1 h.apart
  simp only [List.map_cons] at hap
  have hS : ∀ b ∈ S, ¬ F b := fun b hb hf => by
    rcases hSS b hb with hb | hb
    · have := (h.fr b hf).1; omega
    · exact h.free bv (by simp) b hb hf
  have hmove : ∀ t sl sr, QV w F t sl sr → QV w1 F' t sl sr := fun t sl sr => QV.only on hS hFF t sl sr
  have hle := h.le
  have keep : ∀ {v : Value} {n : Nat} {xs : List Value}, v ∈ sl :: ps.map (·.2.1) → w.ownsRow base 30 11 v n xs → w1.ownsRow base 30 11 v n xs := fun hv h1 => Row.only h1 on fun b hb hm => by
    rcases hSS b hm with hm | hm
    · have := (Row.block h1 hb).1; omega
    · exact hap.1 _ hv b hm hb
  refine ⟨Nat.le_trans h.le on.size, fun b hb => ?_, hrow, fun p hp => ?_, h.apart, fun v hv b hb hf => ?_⟩
  · rcases hF' b hb with hb | hb
    · exact ⟨(h.fr b hb).1, Nat.lt_of_lt_of_le (h.fr b hb).2 on.size⟩
    · exact ⟨by omega, hb.2⟩
  · rcases List.mem_cons.1 hp with rfl | hp
    · obtain ⟨xs, h1, h2, _⟩ := h.each (o, sl, sr) (by simp)
      exact ⟨xs, keep (by simp) h1, PIts.move hmove h2, hrest⟩
    · obtain ⟨xs, h1, h2, h3⟩ := h.each p (by simp [hp])
      exact ⟨xs, keep (List.mem_cons_of_mem _ (List.mem_map_of_mem (f := (·.2.1)) hp)) h1, PIts.move hmove h2, QL.only on hS hFF h3⟩
  · rcases hF' b hf with hf | hf
    · exact h.free v hv b hb hf
    · have hv' : v ∈ bv :: sl :: ps.map (·.2.1) := hv
      rcases List.mem_cons.1 hv' with rfl | hv'
      · have := (Row.block h.row hb).2; omega
      · rcases List.mem_cons.1 hv' with rfl | hv'
        · obtain ⟨xs, h1, _⟩ := h.each (o, v, sr) (by simp)
          have := (Row.block h1 hb).2; omega
        · obtain ⟨p, hp, rfl⟩ := List.mem_map.1 hv'
          obtain ⟨xs, h1, _⟩ := h.each p (by simp [hp])
          have := (Row.block h1 hb).2; omega
/-- The innermost one is whole. -/
theorem PRdr.shut {w : World} {base : Nat} {F : Nat → Prop} {sl sr : Value} {o : QOpn} {ps : List (QOpn × Value × Value)} {g cap n : Nat} (h : PRdr w base F (.slice (some ⟨g, 0, none⟩) n cap) ((o, sl, sr) :: ps)) :
    ∃ F' : Nat → Prop, (∀ b, F b → F' b) ∧ PRdr w base F' (.slice (some ⟨g, 0, none⟩) ps.length cap) ps ∧ QV w F' (.seq o.k o.items o.rest) sl sr := by
  have hap := List.pairwise_cons.1 h.apart
  simp only [List.map_cons] at hap
  have hap2 := List.pairwise_cons.1 hap.2
  obtain ⟨xs, h1, h2, h0⟩ := h.each (o, sl, sr) (by simp)
  simp only at h1 h2 h0
  have hm : ∀ F' : Nat → Prop, (∀ b, F b → F' b) → ∀ t sl sr, QV w F t sl sr → QV w F' t sl sr := fun F' hF t sl sr => QV.only (S := []) (Only.refl _ _) (by simp) hF t sl sr
  have hl : ∀ F' : Nat → Prop, (∀ b, F b → F' b) → ∀ {l : List QT} {sl : Value}, QL w F l sl → QL w F' l sl := fun F' hF _ _ h => QL.only (S := []) (Only.refl _ _) (by simp) hF h
  have hrow := h.row
  have hn : n = ps.length + 1 := by
    rcases hrow.2 with ⟨hv, _⟩ | ⟨g', cap', cur, hv, _⟩
    · cases hv
    · injection hv
  subst hn
  refine ⟨fun b => F b ∨ sl.ownBlock = some b, fun b hb => .inl hb, ⟨h.le, fun b hb => ?_, ?_, fun p hp => ?_, ?_, ?_⟩, QV.seq.2 ⟨?_, hl _ (fun b hb => .inl hb) h0⟩⟩
  · rcases hb with hb | hb
    · exact h.fr b hb
    · exact Row.block h1 hb
  · exact Row.cut hrow (bcs_len ps) (by omega)
  · obtain ⟨ys, h3, h4, h5⟩ := h.each p (by simp [hp])
    exact ⟨ys, h3, PIts.move (hm _ fun b hb => .inl hb) h4, hl _ (fun b hb => .inl hb) h5⟩
  · exact List.pairwise_cons.2 ⟨fun v hv => hap.1 v (List.mem_cons_of_mem _ hv), hap2.2⟩
  · intro v hv b hb hF
    rcases hF with hF | hF
    · rcases List.mem_cons.1 hv with rfl | hv
      · exact h.free (.slice (some ⟨g, 0, none⟩) (ps.length + 1) cap) (by simp) b hb hF
      · exact h.free v (List.mem_cons_of_mem _ (List.mem_cons_of_mem _ hv)) b hb hF
    · rcases List.mem_cons.1 hv with rfl | hv
      · exact hap.1 sl (by simp) b hb hF
      · exact hap2.1 v hv b hF hb
  · rcases h1.2 with ⟨hv, h0⟩ | ⟨b, c, cur, hv, hb, hg', h3, h4, h5, h6⟩
    · exact ⟨none, 0, by rw [hv, h0], by omega, by omega, .inl (List.length_eq_zero_iff.1 h0)⟩
    · refine ⟨some ⟨b, 0, none⟩, c, hv, h3, h4, .inr ⟨b, 0, rfl, Bk.lt (t := 30) (cs := cur) hg', .inr (by rw [hv]; rfl), ?_⟩⟩
      subst hv
      refine PIts.qvs (PIts.move (hm _ fun b hb => .inl hb) h2) fun j u hj => ?_
      rw [Nat.zero_add]
      exact Row.cell h1 j u hj
end Go.Proofs.YtlilfmpikampgaaGreatDoor

namespace Go.Proofs.YtlilfmpikampgaaGreatDoor
open Go.RowKit

/-- The reader's fifteen cells. -/
abbrev qcs (s : ByteArray) (at' st : Int) (bv : Value) (u : Fin 11 → Value) : Array Value := #[.string s, .int .i64 at', .int .i64 st, bv, u 0, u 1, u 2, u 3, u 4, u 5, u 6, u 7, u 8, u 9, u 10]
/-- A reader that gives up at a place. -/
def GaveUp (at' : Int) (e : Ending) : Prop := e = .panicked [{ v := .iface 54 (.int .i64 at'), recovered := false }]
set_option maxHeartbeats 400000 in
theorem need_yes (rb : Nat) (w : World) : Calls Tryz.prog 21 #[.pointer (some ⟨rb, 0, none⟩), .bool true] w fun e w' => e = .returned (.tuple #[]) ∧ w = w' := by
  go_enter Tryz.func21, Tryz.ntmps21
  go_wp2_with fail
  go_end0
  exact ⟨rfl, rfl⟩
set_option maxHeartbeats 400000 in
theorem need_no (rb : Nat) (a : Int) (w : World) (h : w.cell? ⟨rb, 1, none⟩ = some (.int .i64 a)) : Calls Tryz.prog 21 #[.pointer (some ⟨rb, 0, none⟩), .bool false] w fun e w' => GaveUp a e ∧ w = w' := by
  go_enter Tryz.func21, Tryz.ntmps21
  go_wp2_with fail
  exact ⟨rfl, rfl, rfl⟩
theorem Bk.fifteen {w : World} {b : Nat} {t : TypeId} {v0 v1 v2 v3 v4 v5 v6 v7 v8 v9 v10 v11 v12 v13 v14 : Value} (h : Bk w b t #[v0, v1, v2, v3, v4, v5, v6, v7, v8, v9, v10, v11, v12, v13, v14]) :
    w.cell? ⟨b, 0, none⟩ = some v0 ∧ w.cell? ⟨b, 1, none⟩ = some v1 ∧ w.cell? ⟨b, 2, none⟩ = some v2 ∧ w.cell? ⟨b, 3, none⟩ = some v3 :=
  ⟨h.cell0 rfl, h.cell0 rfl, h.cell0 rfl, h.cell0 rfl⟩
/-- Goes on, or gives up and leaves all as it was. -/
theorem qneed (rb : Nat) (a : Int) (w : World) (b : Bool) (h : w.cell? ⟨rb, 1, none⟩ = some (.int .i64 a)) : Calls Tryz.prog 21 #[.pointer (some ⟨rb, 0, none⟩), .bool b] w fun e w' => (if b = true then e = .returned (.tuple #[]) else GaveUp a e) ∧ w = w' := by
  cases b with
  | true => exact (need_yes rb w).mono fun e w' ⟨h1, h2⟩ => ⟨by rw [if_pos rfl]; exact h1, h2⟩
  | false => exact (need_no rb a w h).mono fun e w' ⟨h1, h2⟩ => ⟨by rw [if_neg (by simp)]; exact h1, h2⟩
set_option maxHeartbeats 400000 in
theorem qcomma_any (w : World) (rb : Nat) (s : ByteArray) (a st : Int) (bv : Value) (u : Fin 11 → Value) (hb : Bk w rb 40 (qcs s a st bv u)) :
    Calls Tryz.prog 33 #[.pointer (some ⟨rb, 0, none⟩)] w fun e w' => (st = 2 → e = .returned (.tuple #[]) ∧ Only [rb] w w' ∧ Bk w' rb 40 (qcs s a 0 bv u)) ∧ (st ≠ 2 → GaveUp a e ∧ w = w') := by
  obtain ⟨c0, c1, c2, c3⟩ := hb.fifteen
  have cf := hb.free
  have HB := Lib.hid hb
  clear hb
  by_cases h2 : st = 2
  · subst h2
    go_enter Tryz.func33, Tryz.ntmps33
    go_wp2_with fail
    (with_reducible refine (need_yes rb w).mono ?_)
    rintro e w1 ⟨rfl, rfl⟩
    go_wp2_with fail
    go_end0
    exact ⟨fun _ => ⟨rfl, (Only.refl _ _).set (.inl (by simp)) _, HB.out.set 2 _⟩, fun h => absurd rfl h⟩
  · have e2 : (st == 2) = false := by simpa using h2
    have H2 := Lib.hid h2
    clear h2
    go_enter Tryz.func33, Tryz.ntmps33
    go_wp2_with fail
    (with_reducible refine (need_no rb a w c1).mono ?_)
    rintro e w1 ⟨hg, rfl⟩
    unfold GaveUp at hg
    subst hg
    go_wp2_with fail
    exact ⟨rfl, fun h => absurd h H2.out, fun _ => ⟨rfl, rfl⟩⟩
end Go.Proofs.YtlilfmpikampgaaGreatDoor

namespace Go.Proofs.YtlilfmpikampgaaGreatDoor
open Go.RowKit

set_option maxHeartbeats 400000 in
theorem isIn_no (w : World) (rb : Nat) (k : Int) (s : ByteArray) (a st : Int) (A : Option Addr) (cap : Nat) (u : Fin 11 → Value) (hb : Bk w rb 40 (qcs s a st (.slice A 0 cap) u)) :
    Calls Tryz.prog 45 #[.pointer (some ⟨rb, 0, none⟩), .int .i64 k] w fun e w' => e = .returned (.bool false) ∧ w = w' := by
  obtain ⟨c0, c1, c2, c3⟩ := hb.fifteen
  go_enter Tryz.func45, Tryz.ntmps45
  go_wp2_with fail
  go_ret
  exact ⟨rfl, rfl⟩
set_option maxHeartbeats 400000 in
theorem isIn_top (w : World) (rb bg m cap : Nat) (k k' : Int) (s : ByteArray) (a st : Int) (u : Fin 11 → Value) (hm : m < 262144) (hb : Bk w rb 40 (qcs s a st (.slice (some ⟨bg, 0, none⟩) (m + 1) cap) u))
    (hc : w.cell? ⟨bg, m * 12, none⟩ = some (.int .i64 k')) :
    Calls Tryz.prog 45 #[.pointer (some ⟨rb, 0, none⟩), .int .i64 k] w fun e w' => e = .returned (.bool (decide (k' = k))) ∧ w = w' := by
  obtain ⟨c0, c1, c2, c3⟩ := hb.fifteen
  have hc0 : w.cell? ⟨bg, 0 + m * 12, none⟩ = some (.int .i64 k') := by rw [Nat.zero_add]; exact hc
  go_enter Tryz.func45, Tryz.ntmps45
  go_wp2_with fail
  go_ret
  exact ⟨ret_bool (by rw [Bool.eq_iff_iff]; simp), rfl⟩
end Go.Proofs.YtlilfmpikampgaaGreatDoor

namespace Go.Proofs.YtlilfmpikampgaaGreatDoor
open Go.RowKit

/-- Is the innermost one of a kind? -/
def InK (ps : List (QOpn × Value × Value)) (k : Int) : Bool := match ps with | [] => false | p :: _ => decide (p.1.k = k)
theorem bcs_top (p : QOpn × Value × Value) (r : List (QOpn × Value × Value)) : (bcs (p :: r))[r.length * 12]? = some (.int .i64 p.1.k) := by
  show (bcs r ++ (ocell p.1.k p.2.1 p.2.2 p.1.bar).toList)[r.length * 12]? = _
  rw [← bcs_len r, List.getElem?_append_right (Nat.le_refl _), Nat.sub_self]
  rfl
theorem isIn_any (w : World) (base rb : Nat) (F : Nat → Prop) (k : Int) (s : ByteArray) (a st : Int) (bv : Value) (ps : List (QOpn × Value × Value)) (u : Fin 11 → Value) (hb : Bk w rb 40 (qcs s a st bv u)) (hr : PRdr w base F bv ps) (hl : ps.length ≤ 262144) :
    Calls Tryz.prog 45 #[.pointer (some ⟨rb, 0, none⟩), .int .i64 k] w fun e w' => e = .returned (.bool (InK ps k)) ∧ w = w' := by
  cases ps with
  | nil =>
    obtain ⟨A, cap, rfl⟩ : ∃ A cap, bv = .slice A 0 cap := by
      rcases hr.row.2 with ⟨h, _⟩ | ⟨g, cap, cur, h, _⟩
      · exact ⟨none, 0, h⟩
      · exact ⟨_, _, h⟩
    exact isIn_no w rb k s a st A cap u hb
  | cons p r =>
    obtain ⟨bg, cap, rfl⟩ : ∃ bg cap, bv = .slice (some ⟨bg, 0, none⟩) (r.length + 1) cap := by
      rcases hr.row.2 with ⟨_, h⟩ | ⟨g, cap, cur, h, _⟩
      · simp at h
      · exact ⟨_, _, h⟩
    exact isIn_top w rb bg r.length cap k p.1.k s a st u (by simp at hl; omega) hb (Row.cell hr.row _ _ (bcs_top p r))
set_option maxHeartbeats 400000 in
theorem qbegin_no (w : World) (rb : Nat) (k : Int) (s : ByteArray) (a st : Int) (bv : Value) (u : Fin 11 → Value) (hb : Bk w rb 40 (qcs s a st bv u)) (h : ¬ st ≤ 1) :
    Calls Tryz.prog 31 #[.pointer (some ⟨rb, 0, none⟩), .int .i64 k] w fun e w' => GaveUp a e ∧ w = w' := by
  obtain ⟨c0, c1, c2, c3⟩ := hb.fifteen
  go_enter Tryz.func31, Tryz.ntmps31
  go_wp2_with fail
  (with_reducible refine (need_no rb a w c1).mono ?_)
  rintro e w1 ⟨hg, rfl⟩
  unfold GaveUp at hg
  subst hg
  go_wp2_with fail
  exact ⟨rfl, rfl, rfl⟩
set_option maxHeartbeats 400000 in
theorem qend_no (w : World) (base rb : Nat) (F : Nat → Prop) (k : Int) (s : ByteArray) (a st : Int) (bv : Value) (ps : List (QOpn × Value × Value)) (u : Fin 11 → Value) (hb : Bk w rb 40 (qcs s a st bv u)) (hr : PRdr w base F bv ps) (hl : ps.length ≤ 262144) (h : ¬ (st ≠ 0 ∧ InK ps k = true)) :
    Calls Tryz.prog 32 #[.pointer (some ⟨rb, 0, none⟩), .int .i64 k] w fun e w' => GaveUp a e ∧ w = w' := by
  obtain ⟨c0, c1, c2, c3⟩ := hb.fifteen
  have II := Lib.hid (isIn_any w base rb F k s a st bv ps u hb hr hl)
  clear hb hr
  by_cases h0 : st = 0
  · subst h0
    clear h
    go_enter Tryz.func32, Tryz.ntmps32
    go_wp2_with fail
    (with_reducible refine (need_no rb a w c1).mono ?_)
    rintro e w1 ⟨hg, rfl⟩
    unfold GaveUp at hg
    subst hg
    go_wp2_with fail
    exact ⟨rfl, rfl, rfl⟩
  · have hi : InK ps k = false := by
      cases hi : InK ps k with
      | false => rfl
      | true => exact absurd ⟨h0, hi⟩ h
    rw [hi] at II
    have e0 : (st != 0) = true := by simpa using h0
    clear h h0 hi
    go_enter Tryz.func32, Tryz.ntmps32
    go_wp2_with fail
    (with_reducible refine (II.out).mono ?_)
    rintro e w1 ⟨rfl, rfl⟩
    go_wp2_with fail
    (with_reducible refine (need_no rb a w c1).mono ?_)
    rintro e w1 ⟨hg, rfl⟩
    unfold GaveUp at hg
    subst hg
    go_wp2_with fail
    exact ⟨rfl, rfl, rfl⟩
set_option maxHeartbeats 400000 in
theorem qbar_no (w : World) (base rb : Nat) (F : Nat → Prop) (s : ByteArray) (a st : Int) (bv : Value) (ps : List (QOpn × Value × Value)) (u : Fin 11 → Value) (hb : Bk w rb 40 (qcs s a st bv u)) (hr : PRdr w base F bv ps) (hl : ps.length ≤ 262144) (h : ¬ ((st = 1 ∨ st = 2) ∧ InK ps 6 = true)) :
    Calls Tryz.prog 34 #[.pointer (some ⟨rb, 0, none⟩)] w fun e w' => GaveUp a e ∧ w = w' := by
  obtain ⟨c0, c1, c2, c3⟩ := hb.fifteen
  have II := Lib.hid (isIn_any w base rb F 6 s a st bv ps u hb hr hl)
  clear hb hr
  by_cases h0 : st = 1 ∨ st = 2
  · have hi : InK ps 6 = false := by
      cases hi : InK ps 6 with
      | false => rfl
      | true => exact absurd ⟨h0, hi⟩ h
    rw [hi] at II
    clear h hi
    rcases h0 with rfl | rfl
    all_goals
      go_enter Tryz.func34, Tryz.ntmps34
      go_wp2_with fail
      (with_reducible refine (II.out).mono ?_)
      rintro e w1 ⟨rfl, rfl⟩
      go_wp2_with fail
      (with_reducible refine (need_no rb a w c1).mono ?_)
      rintro e w1 ⟨hg, rfl⟩
      unfold GaveUp at hg
      subst hg
      go_wp2_with fail
      exact ⟨rfl, rfl, rfl⟩
  · have e1 : (st == 1) = false := by simp; omega
    have e2 : (st == 2) = false := by simp; omega
    clear h h0
    go_enter Tryz.func34, Tryz.ntmps34
    go_wp2_with fail
    (with_reducible refine (need_no rb a w c1).mono ?_)
    rintro e w1 ⟨hg, rfl⟩
    unfold GaveUp at hg
    subst hg
    go_wp2_with fail
    exact ⟨rfl, rfl, rfl⟩
end Go.Proofs.YtlilfmpikampgaaGreatDoor

namespace Go.Proofs.YtlilfmpikampgaaGreatDoor
open Go.RowKit

theorem info_begun : (Tryz.prog.info? 94).map (fun i => (i.zero, i.size, i.bytes)) = some (some (.agg (ocell 0 (.slice none 0 0) (.slice none 0 0) false)), 12, 160) := by kernel_rfl
theorem info_pat : (Tryz.prog.info? 30).map (fun i => (i.zero, i.size, i.bytes)) = some (some (.agg #[.int .i64 0, .int .i64 0, .int .i64 0, .int .i64 0, .complex .f64 0 0, .string ⟨#[]⟩, .int .i64 0, .int .i64 0, .slice none 0 0, .slice none 0 0, .slice none 0 0]), 11, 152) := by kernel_rfl
theorem qinfo {t : TypeId} {z : Value} {n b : Nat} (h : (Tryz.prog.info? t).map (fun i => (i.zero, i.size, i.bytes)) = some (some z, n, b)) : ∃ i, Tryz.prog.info? t = some i ∧ i.zero = some z ∧ i.size = n ∧ i.bytes = b := by
  cases hi : Tryz.prog.info? t with
  | none => rw [hi] at h; cases h
  | some i =>
    rw [hi] at h
    simp only [Option.map_some, Option.some.injEq, Prod.mk.injEq] at h
    exact ⟨i, rfl, h.1, h.2.1, h.2.2⟩
theorem qgrown {w w1 : World} {base rb n g cap' : Nat} {e e2 : TypeId} {sz : Nat} {bv : Value} {xs ys : List Value} {cs : Array Value} (hb : Bk w rb e2 cs) (hrow : w.ownsRow base e sz bv n xs) (hrb : rb < base)
    (hown : w1.ownsRow base e sz (.slice (some ⟨g, 0, none⟩) (n + 1) cap') (n + 1) ys) (hgrow : w.grownBy w1 bv.ownBlock) :
    Bk w1 rb e2 cs ∧ rb ≠ g ∧ Only bv.ownBlock.toList w w1 := by
  have o1 := Only.of_grown hgrow
  refine ⟨hb.only o1 fun hm => ?_, ?_, o1⟩
  · have := (Row.block hrow (g := rb) (by simpa using hm)).1
    omega
  · have := (Row.block hown (g := g) rfl).1
    omega
theorem qbegin_end {w w1 w2 : World} {base rb g cap' : Nat} {k : Int} {F : Nat → Prop} {bv : Value} {ps : List (QOpn × Value × Value)} {o : Obj} {cs : Array Value} (hbw : Bk w rb 40 cs) (hr : PRdr w base F bv ps)
    (k3 : Only bv.ownBlock.toList (w.alloc o) w1) (hat : bv.ownBlock = some g ∨ g = (w.alloc o).heap.size) (o2 : Only [rb] w1 w2) (hne : rb ≠ g)
    (r1 : w1.ownsRow base 94 12 (.slice (some ⟨g, 0, none⟩) (ps.length + 1) cap') (ps.length + 1) (bcs ps ++ (ocell k (.slice none 0 0) (.slice none 0 0) false).toList)) (hrb : rb < base) :
    Low base rb w w2 ∧ PRdr w2 base F (.slice (some ⟨g, 0, none⟩) (ps.length + 1) cap') ((⟨k, [], false, []⟩, .slice none 0 0, .slice none 0 0) :: ps) := by
  have h0 : Only [] w (w.alloc o) := (Only.refl [] w).alloc o
  have h1 : Only (rb :: bv.ownBlock.toList) w w2 := ((h0.more (by simp)).trans k3 (fun i hi => .inl (by simp at hi ⊢; exact .inr hi))).trans o2 (fun i hi => .inl (by simp at hi ⊢; omega))
  have hg : bv.ownBlock = some g ∨ w.heap.size ≤ g := by
    rcases hat with h | h
    · exact .inl h
    · refine .inr ?_
      rw [h]
      exact h0.size
  have r2 : w2.ownsRow base 94 12 (.slice (some ⟨g, 0, none⟩) (ps.length + 1) cap') (ps.length + 1) (bcs ps ++ (ocell k (.slice none 0 0) (.slice none 0 0) false).toList) := Row.only r1 o2 fun b hb hm => by
    injection hb with hb
    rw [List.mem_singleton.1 hm] at hb
    exact hne hb.symm
  refine ⟨⟨_, h1, fun b hb => ?_, fun b hb hlt => ?_⟩, PRdr.grow (S := rb :: bv.ownBlock.toList) (g := g) hr h1 (fun b hb => ?_) hg rfl r2⟩
  · rcases List.mem_cons.1 hb with rfl | hb
    · exact .inl rfl
    · exact .inr (Row.block hr.row (g := b) (by simpa using hb)).1
  · rcases List.mem_cons.1 hb with rfl | hb
    · exact ⟨_, _, hbw⟩
    · exact Row.cells hr.row (g := b) (by simpa using hb)
  · rcases List.mem_cons.1 hb with rfl | hb
    · exact .inl hrb
    · exact .inr (by simpa using hb)
set_option maxHeartbeats 1000000 in
theorem qbegin_yes (w : World) (base rb : Nat) (F : Nat → Prop) (k : Int) (s : ByteArray) (a st : Int) (bv : Value) (ps : List (QOpn × Value × Value)) (u : Fin 11 → Value) (hb : Bk w rb 40 (qcs s a st bv u)) (hst : st ≤ 1) (hr : PRdr w base F bv ps) (hl : ps.length ≤ 262144) (hrb : rb < base) :
    Calls Tryz.prog 31 #[.pointer (some ⟨rb, 0, none⟩), .int .i64 k] w fun e w' => e = .returned (.tuple #[]) ∧ Low base rb w w' ∧ ∃ bv', Bk w' rb 40 (qcs s a 1 bv' u) ∧ PRdr w' base F bv' ((⟨k, [], false, []⟩, .slice none 0 0, .slice none 0 0) :: ps) := by
  obtain ⟨c0, c1, c2, c3⟩ := hb.fifteen
  have cf := hb.free
  have HB := Lib.hid hb
  have HR := Lib.hid hr
  obtain ⟨n, A, cap, hbv⟩ : ∃ n A cap, bv = .slice A n cap := by
    rcases hr.row.2 with ⟨h, _⟩ | ⟨g, cap, cur, h, _⟩
    · exact ⟨_, _, _, h⟩
    · exact ⟨_, _, _, h⟩
  have hn : n = ps.length := by
    rcases hr.row.2 with ⟨h, h0⟩ | ⟨g, cap, cur, h, _⟩
    · rw [hbv] at h; injection h; omega
    · rw [hbv] at h; injection h
  subst hn
  subst hbv
  have e2 : decide (st ≤ 1) = true := by simpa using hst
  obtain ⟨i, hi, hz, hz1, hz2⟩ := qinfo info_begun
  have hbz : ∀ o, base ≤ (w.alloc o).heap.size := fun o => by have := hr.le; simp; omega
  have c3a : ∀ o, (w.alloc o).cell? ⟨rb, 3, none⟩ = some (.slice A ps.length cap) := fun o => (HB.out.alloc o).cell0 rfl
  have h63 : ps.length + 1 ≤ maxLen := by unfold maxLen; omega
  have q1 : ((ps.length : Int) < (ps.length : Int) + 1) := by omega
  clear hb hr
  go_enter Tryz.func31, Tryz.ntmps31
  go_wp2_with fail
  (with_reducible refine (need_yes rb w).mono ?_)
  rintro e w1 ⟨rfl, rfl⟩
  go_wp2_with (at_builtin; refine wpList_append_lies _ (by rfl) _ _ _ (by rfl) base 94 i _ 12 160 Tryz.underlying38 hi hz hz1 hz2 rfl (by omega) _ ps.length (bcs ps) (by rfl) (Row.alloc HR.out.row _) _ 1 1 (ocell k (.slice none 0 0) (.slice none 0 0) false).toList (by rfl) rfl (World.news_of_block (Bk.made _ _ _)) (by simp [Value.oneCell']) (by omega) h63 (by omega) (hbz _) _ rfl ?_; intro g cap' w1 hown hgrow hat hlt; obtain ⟨k0, k1, k3⟩ := qgrown (HB.out.alloc _) (Row.alloc HR.out.row _) hrb hown hgrow; obtain ⟨d0, d1, d2, d3⟩ := k0.fifteen; have df := k0.free; have K0 := Lib.hid k0; have K3 := Lib.hid k3; have HO := Lib.hid hown; clear k0)
  go_end0
  have o2 : Only [rb] w1 ((w1.setCell ⟨rb, 3, none⟩ (.slice (some ⟨g, 0, none⟩) (ps.length + 1) cap')).setCell ⟨rb, 2, none⟩ (.int .i64 1)) := ((Only.refl [rb] w1).set (.inl (by simp)) _).set (.inl (by simp)) _
  obtain ⟨L, R⟩ := qbegin_end HB.out HR.out K3.out hat o2 k1 HO.out hrb
  exact ⟨rfl, L, _, (K0.out.set 3 _).set 2 _, R⟩
end Go.Proofs.YtlilfmpikampgaaGreatDoor

namespace Go.Proofs.YtlilfmpikampgaaGreatDoor
open Go.RowKit

/-- A pattern's eleven cells, by their places. -/
def uOf (k n : Int) (t : T) (sl sr : Value) : Fin 11 → Value
  | 0 => .int .i64 k | 1 => .int .i64 n | 2 => .int .i64 t.k | 3 => .int .i64 t.n | 4 => .complex .f64 t.x t.y | 5 => .string t.S | 6 => .int .i64 t.a | 7 => .int .i64 t.b | 8 => .slice none 0 0 | 9 => sl | 10 => sr
theorem Bk.fifteen' {w : World} {b : Nat} {t : TypeId} {v0 v1 v2 v3 v4 v5 v6 v7 v8 v9 v10 v11 v12 v13 v14 : Value} (h : Bk w b t #[v0, v1, v2, v3, v4, v5, v6, v7, v8, v9, v10, v11, v12, v13, v14]) :
    w.cell? ⟨b, 4, none⟩ = some v4 ∧ w.cell? ⟨b, 5, none⟩ = some v5 ∧ w.cell? ⟨b, 6, none⟩ = some v6 ∧ w.cell? ⟨b, 7, none⟩ = some v7 ∧ w.cell? ⟨b, 8, none⟩ = some v8 ∧ w.cell? ⟨b, 9, none⟩ = some v9 ∧ w.cell? ⟨b, 10, none⟩ = some v10 ∧ w.cell? ⟨b, 11, none⟩ = some v11 ∧ w.cell? ⟨b, 12, none⟩ = some v12 ∧ w.cell? ⟨b, 13, none⟩ = some v13 ∧ w.cell? ⟨b, 14, none⟩ = some v14 :=
  ⟨h.cell0 rfl, h.cell0 rfl, h.cell0 rfl, h.cell0 rfl, h.cell0 rfl, h.cell0 rfl, h.cell0 rfl, h.cell0 rfl, h.cell0 rfl, h.cell0 rfl, h.cell0 rfl⟩
theorem qput_end0 {w w2 : World} {rb : Nat} {s : ByteArray} {a st : Int} {bv v0 v1 v2 v3 v4 v5 v6 v7 v8 v9 v10 : Value} {u : Fin 11 → Value} {o : Obj} (hb : Bk w rb 40 (qcs s a st bv u)) (hw : w2 = (((((((((((((w.setCell ⟨rb, 4, none⟩ v0).setCell ⟨rb, 5, none⟩ v1).setCell ⟨rb, 6, none⟩ v2).setCell ⟨rb, 7, none⟩ v3).setCell ⟨rb, 8, none⟩ v4).setCell ⟨rb, 9, none⟩ v5).setCell ⟨rb, 10, none⟩ v6).setCell ⟨rb, 11, none⟩ v7).setCell ⟨rb, 12, none⟩ v8).setCell ⟨rb, 13, none⟩ v9).setCell ⟨rb, 14, none⟩ v10).setCell ⟨rb, 2, none⟩ (.int .i64 4)).alloc o)) :
    Only [rb] w w2 ∧ Bk w2 rb 40 #[.string s, .int .i64 a, .int .i64 4, bv, v0, v1, v2, v3, v4, v5, v6, v7, v8, v9, v10] := by
  have b1 := Bk.setTo (hb) 4 v0 #[.string s, .int .i64 a, .int .i64 st, bv, v0, u 1, u 2, u 3, u 4, u 5, u 6, u 7, u 8, u 9, u 10] rfl
  have b2 := Bk.setTo (b1) 5 v1 #[.string s, .int .i64 a, .int .i64 st, bv, v0, v1, u 2, u 3, u 4, u 5, u 6, u 7, u 8, u 9, u 10] rfl
  have b3 := Bk.setTo (b2) 6 v2 #[.string s, .int .i64 a, .int .i64 st, bv, v0, v1, v2, u 3, u 4, u 5, u 6, u 7, u 8, u 9, u 10] rfl
  have b4 := Bk.setTo (b3) 7 v3 #[.string s, .int .i64 a, .int .i64 st, bv, v0, v1, v2, v3, u 4, u 5, u 6, u 7, u 8, u 9, u 10] rfl
  have b5 := Bk.setTo (b4) 8 v4 #[.string s, .int .i64 a, .int .i64 st, bv, v0, v1, v2, v3, v4, u 5, u 6, u 7, u 8, u 9, u 10] rfl
  have b6 := Bk.setTo (b5) 9 v5 #[.string s, .int .i64 a, .int .i64 st, bv, v0, v1, v2, v3, v4, v5, u 6, u 7, u 8, u 9, u 10] rfl
  have b7 := Bk.setTo (b6) 10 v6 #[.string s, .int .i64 a, .int .i64 st, bv, v0, v1, v2, v3, v4, v5, v6, u 7, u 8, u 9, u 10] rfl
  have b8 := Bk.setTo (b7) 11 v7 #[.string s, .int .i64 a, .int .i64 st, bv, v0, v1, v2, v3, v4, v5, v6, v7, u 8, u 9, u 10] rfl
  have b9 := Bk.setTo (b8) 12 v8 #[.string s, .int .i64 a, .int .i64 st, bv, v0, v1, v2, v3, v4, v5, v6, v7, v8, u 9, u 10] rfl
  have b10 := Bk.setTo (b9) 13 v9 #[.string s, .int .i64 a, .int .i64 st, bv, v0, v1, v2, v3, v4, v5, v6, v7, v8, v9, u 10] rfl
  have b11 := Bk.setTo (b10) 14 v10 #[.string s, .int .i64 a, .int .i64 st, bv, v0, v1, v2, v3, v4, v5, v6, v7, v8, v9, v10] rfl
  have b12 := Bk.setTo b11 2 (.int .i64 4) #[.string s, .int .i64 a, .int .i64 4, bv, v0, v1, v2, v3, v4, v5, v6, v7, v8, v9, v10] rfl
  subst hw
  exact ⟨((((((((((((((Only.refl [rb] w).set (p := ⟨rb, 4, none⟩) (.inl (by simp)) v0).set (p := ⟨rb, 5, none⟩) (.inl (by simp)) v1).set (p := ⟨rb, 6, none⟩) (.inl (by simp)) v2).set (p := ⟨rb, 7, none⟩) (.inl (by simp)) v3).set (p := ⟨rb, 8, none⟩) (.inl (by simp)) v4).set (p := ⟨rb, 9, none⟩) (.inl (by simp)) v5).set (p := ⟨rb, 10, none⟩) (.inl (by simp)) v6).set (p := ⟨rb, 11, none⟩) (.inl (by simp)) v7).set (p := ⟨rb, 12, none⟩) (.inl (by simp)) v8).set (p := ⟨rb, 13, none⟩) (.inl (by simp)) v9).set (p := ⟨rb, 14, none⟩) (.inl (by simp)) v10).set (p := ⟨rb, 2, none⟩) (.inl (by simp)) (.int .i64 4)).alloc o), b12.alloc o⟩
set_option maxRecDepth 20000 in
set_option maxHeartbeats 1000000 in
theorem qput_whole (w : World) (rb : Nat) (k n : Int) (t : T) (B C : Option Addr) (m c m' c' : Nat) (s : ByteArray) (a st : Int) (A : Option Addr) (cap : Nat) (u : Fin 11 → Value) (hb : Bk w rb 40 (qcs s a st (.slice A 0 cap) u)) :
    Calls Tryz.prog 46 #[.pointer (some ⟨rb, 0, none⟩), .agg (pcs k n t (.slice B m c) (.slice C m' c'))] w fun e w' => e = .returned (.tuple #[]) ∧ Only [rb] w w' ∧ Bk w' rb 40 (qcs s a 4 (.slice A 0 cap) (uOf k n t (.slice B m c) (.slice C m' c'))) := by
  have rs := store_com
  obtain ⟨U, hU⟩ : ∃ U, uOf k n t (.slice B m c) (.slice C m' c') = U := ⟨_, rfl⟩
  rw [hU]
  have HU := Lib.hid hU
  clear hU
  have HB := Lib.hid hb
  obtain ⟨c0, c1, c2, c3⟩ := hb.fifteen
  obtain ⟨c4, c5, c6, c7, c8, c9, c10, c11, c12, c13, c14⟩ := hb.fifteen'
  have cf := hb.free
  have hlt := hb.lt
  have hne : rb ≠ w.heap.size := by omega
  clear hb
  go_enter Tryz.func46, Tryz.ntmps46
  go_wp2_with fail
  obtain ⟨o1, b1⟩ := qput_end0 (w2 := _) HB.out rfl
  exact bodyPost_ret (v := .tuple #[]) (by simp [results, Tryz.results46, go_sem]) rfl ⟨rfl, o1, by rw [← HU.out]; exact b1⟩
end Go.Proofs.YtlilfmpikampgaaGreatDoor

namespace Go.Proofs.YtlilfmpikampgaaGreatDoor
open Go.RowKit

theorem bcs_set (o : QOpn) (sl sr : Value) (r : List (QOpn × Value × Value)) (j : Nat) (v : Value) (ys : List Value) (hy : (ocell o.k sl sr o.bar).toList.set j v = ys) : (bcs ((o, sl, sr) :: r)).set (r.length * 12 + j) v = bcs r ++ ys := by
  show (bcs r ++ (ocell o.k sl sr o.bar).toList).set (r.length * 12 + j) v = _
  rw [← bcs_len r, List.set_append_right _ _ (Nat.le_add_right _ _), Nat.add_sub_cancel_left, hy]
theorem bcs_at (o : QOpn) (sl sr : Value) (r : List (QOpn × Value × Value)) (j : Nat) (hj : j < 12) : ∃ u, (bcs ((o, sl, sr) :: r))[r.length * 12 + j]? = some u := by
  have hl : r.length * 12 + j < (bcs ((o, sl, sr) :: r)).length := by rw [bcs_len, List.length_cons]; omega
  exact ⟨_, List.getElem?_eq_getElem hl⟩
theorem qbar_end {w : World} {base rb bg cap : Nat} {F : Nat → Prop} {s : ByteArray} {a st : Int} {sl sr : Value} {o : QOpn} {r : List (QOpn × Value × Value)} {u : Fin 11 → Value} (hb : Bk w rb 40 (qcs s a st (.slice (some ⟨bg, 0, none⟩) (r.length + 1) cap) u)) (hr : PRdr w base F (.slice (some ⟨bg, 0, none⟩) (r.length + 1) cap) ((o, sl, sr) :: r)) (hrb : rb < base) (hne : rb ≠ bg) :
    Low base rb w ((w.setCell ⟨bg, r.length * 12 + 11, none⟩ (.bool true)).setCell ⟨rb, 2, none⟩ (.int .i64 0)).drew ∧ Bk ((w.setCell ⟨bg, r.length * 12 + 11, none⟩ (.bool true)).setCell ⟨rb, 2, none⟩ (.int .i64 0)).drew rb 40 (qcs s a 0 (.slice (some ⟨bg, 0, none⟩) (r.length + 1) cap) u) ∧
      PRdr ((w.setCell ⟨bg, r.length * 12 + 11, none⟩ (.bool true)).setCell ⟨rb, 2, none⟩ (.int .i64 0)).drew base F (.slice (some ⟨bg, 0, none⟩) (r.length + 1) cap) ((⟨o.k, o.items, true, o.rest⟩, sl, sr) :: r) := by
  have o1 : Only [bg, rb] w ((w.setCell ⟨bg, r.length * 12 + 11, none⟩ (.bool true)).setCell ⟨rb, 2, none⟩ (.int .i64 0)).drew := (((Only.refl [bg, rb] w).set (.inl (by simp)) _).set (.inl (by simp)) _).drew
  have hbase := (Row.block hr.row (g := bg) rfl).1
  have hS : ∀ b ∈ [bg, rb], ¬ F b := fun b hm hf => by
    rcases List.mem_cons.1 hm with rfl | hm
    · exact hr.free _ (List.Mem.head _) b rfl hf
    · have := List.mem_singleton.1 hm
      have := (hr.fr b hf).1
      omega
  obtain ⟨xs, _, _, hrest⟩ := hr.each (o, sl, sr) (by simp)
  have hrow := Row.set hr.row (r.length * 12 + 11) (.bool true)
  rw [bcs_set o sl sr r 11 (.bool true) (ocell o.k sl sr true).toList rfl] at hrow
  refine ⟨⟨_, o1, fun b hm => ?_, fun b hm _ => ?_⟩, ((hb.away (p := ⟨bg, _, none⟩) hne _).set 2 _).drew, PRdr.turn hr o1 (fun b hm => ?_) (fun _ h => h) (fun _ h => .inl h) (QL.only o1 hS (fun _ h => h) hrest) ?_⟩
  · rcases List.mem_cons.1 hm with rfl | hm
    · exact .inr hbase
    · exact .inl (List.mem_singleton.1 hm)
  · rcases List.mem_cons.1 hm with rfl | hm
    · exact Row.cells hr.row rfl
    · rw [List.mem_singleton.1 hm]; exact ⟨_, _, hb⟩
  · rcases List.mem_cons.1 hm with rfl | hm
    · exact .inr rfl
    · rw [List.mem_singleton.1 hm]; exact .inl hrb
  · refine Row.drew (Row.only hrow ((Only.refl [rb] _).set (.inl (by simp)) _) fun b hb2 hm => ?_)
    injection hb2 with hb2
    rw [List.mem_singleton.1 hm] at hb2
    exact hne hb2.symm
set_option maxRecDepth 20000 in
set_option maxHeartbeats 1000000 in
theorem qbar_yes (w : World) (base rb : Nat) (F : Nat → Prop) (s : ByteArray) (a st : Int) (bv sl sr : Value) (o : QOpn) (r : List (QOpn × Value × Value)) (u : Fin 11 → Value) (hb : Bk w rb 40 (qcs s a st bv u)) (hr : PRdr w base F bv ((o, sl, sr) :: r)) (hl : r.length < 262144) (hrb : rb < base) (hst : st = 1 ∨ st = 2) (hk : o.k = 6) :
    Calls Tryz.prog 34 #[.pointer (some ⟨rb, 0, none⟩)] w fun e w' => e = .returned (.tuple #[]) ∧ Low base rb w w' ∧ Bk w' rb 40 (qcs s a 0 bv u) ∧ PRdr w' base F bv ((⟨o.k, o.items, true, o.rest⟩, sl, sr) :: r) := by
  have II := Lib.hid (isIn_any w base rb F 6 s a st bv ((o, sl, sr) :: r) u hb hr (by simp; omega))
  rw [show InK ((o, sl, sr) :: r) 6 = true by simp [InK, hk]] at II
  obtain ⟨bg, cap, rfl⟩ : ∃ bg cap, bv = .slice (some ⟨bg, 0, none⟩) (r.length + 1) cap := by
    rcases hr.row.2 with ⟨_, h⟩ | ⟨g, cap, cur, h, _⟩
    · simp at h
    · exact ⟨_, _, h⟩
  obtain ⟨c0, c1, c2, c3⟩ := hb.fifteen
  have cf := hb.free
  have HB := Lib.hid hb
  have HR := Lib.hid hr
  obtain ⟨v, hv⟩ := bcs_at o sl sr r 11 (by decide)
  have b11 := Row.cell hr.row _ _ hv
  have b11' : w.cell? ⟨bg, 0 + r.length * 12 + 11, none⟩ = some v := by rw [Nat.zero_add]; exact b11
  have bf := Row.free hr.row
  have hne : rb ≠ bg := by have := (Row.block hr.row (g := bg) rfl).1; omega
  clear hb hr hv
  rcases hst with rfl | rfl
  all_goals
    go_enter Tryz.func34, Tryz.ntmps34
    go_wp2_with fail
    (with_reducible refine (II.out).mono ?_)
    rintro e w1 ⟨rfl, rfl⟩
    go_wp2_with fail
    (with_reducible refine (need_yes rb w).mono ?_)
    rintro e w1 ⟨rfl, rfl⟩
    go_wp2_with fail
    go_region
    go_wp2_with fail
    go_end0
    exact ⟨rfl, qbar_end HB.out HR.out hrb hne⟩
end Go.Proofs.YtlilfmpikampgaaGreatDoor

namespace Go.Proofs.YtlilfmpikampgaaGreatDoor
open Go.RowKit

theorem lst_rest (s : ByteArray) (i : Nat) : lst (s.extract i s.size) = (lst s).drop i := by
  rw [ext_lst]
  exact List.take_of_length_le (by rw [List.length_drop, lst_len]; omega)
set_option maxRecDepth 20000 in
set_option maxHeartbeats 1000000 in
theorem skip_any (w : World) (rb i : Nat) (s : ByteArray) (st : Int) (bv : Value) (u : Fin 11 → Value) (hs : s.size ≤ 262144) (hi : i ≤ s.size) (hb : Bk w rb 40 (qcs s i st bv u)) :
    Calls Tryz.prog 19 #[.pointer (some ⟨rb, 0, none⟩)] w fun e w' => e = .returned (.tuple #[]) ∧ Only [rb] w w' ∧ Bk w' rb 40 (qcs s (nxt s i : Nat) st bv u) := by
  obtain ⟨c0, c1, c2, c3⟩ := hb.fifteen
  have cf := hb.free
  have HB := Lib.hid hb
  obtain ⟨n, hn⟩ : ∃ n, runOf isBl ((lst s).drop i) = n := ⟨_, rfl⟩
  have hx : nxt s i = i + n := by unfold nxt; rw [hn]
  have hle := nxt_le s hi
  have P := Lib.hid (show ∀ w, Calls Tryz.prog 29 #[.string (s.extract i s.size), .func (.func 30) #[] #[]] w fun e w' => e = .returned (.int .i64 n) ∧ w = w' from fun w => by
    have := prun_blank (s.extract i s.size) w (by rw [size_ext _ _ _ (Nat.le_refl _)]; omega)
    rw [lst_rest, hn] at this
    exact this)
  rw [hx] at hle
  have hw : IntKind.i64.wrap ((i : Int) + (n : Int)) = ((nxt s i : Nat) : Int) := by
    rw [hx]
    have e : ((i : Int) + (n : Int)) = ((i + n : Nat) : Int) := by omega
    rw [e]
    simp [IntKind.wrap_i64]
    omega
  clear hb hn hx
  go_enter Tryz.func19, Tryz.ntmps19
  go_wp2_with fail
  go_region_with (go_at_call 29; (with_reducible refine (P.out _).mono ?_); rintro e w2 ⟨rfl, rfl⟩)
  all_goals
    go_wp2_with fail
    go_end0
    refine ⟨rfl, ((Only.refl [rb] w).set (.inl (by simp)) _).drew, ?_⟩
    exact (HB.out.set 1 _).drew
end Go.Proofs.YtlilfmpikampgaaGreatDoor
