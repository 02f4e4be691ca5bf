/- pattern.reader: put, into the innermost one's rest. pattern.reader: put, into the innermost one's items. -/
import Derived.Test.YtlilfmpikampgaaGreatDoorPKa
import Derived.Deep.RegionLaw
namespace Go.Proofs.YtlilfmpikampgaaGreatDoor
open Go.RowKit

theorem qrest_end {w w2 : World} {base rb bg cap N : Nat} {F : Nat → Prop} {s : ByteArray} {a st : Int} {sl sr pl pr : Value} {o : QOpn} {t : QT} {r : List (QOpn × Value × Value)} {u : Fin 11 → Value} {o1 : Obj} (hb : Bk w rb 40 (qcs s a st (.slice (some ⟨bg, 0, none⟩) (r.length + 1) cap) u)) (hr : PRdr w base F (.slice (some ⟨bg, 0, none⟩) (r.length + 1) cap) ((o, sl, sr) :: r)) (hrb : rb < base) (hne : rb ≠ bg) (hbar : o.bar = true) (ht : QV w F t pl pr) (hN : N = w.heap.size + 1)
    (hw : w2 = ((((w.setCell ⟨bg, r.length * 12 + 10, none⟩ (.slice (some ⟨N, 0, none⟩) 1 1)).setCell ⟨rb, 2, none⟩ (.int .i64 3)).alloc o1).alloc (.cells (t.cs pl pr) 30)).drew) :
    Low base rb w w2 ∧ Bk w2 rb 40 (qcs s a 3 (.slice (some ⟨bg, 0, none⟩) (r.length + 1) cap) u) ∧
      ∃ F', (∀ b, F b → F' b) ∧ PRdr w2 base F' (.slice (some ⟨bg, 0, none⟩) (r.length + 1) cap) ((⟨o.k, o.items, true, [t]⟩, sl, .slice (some ⟨N, 0, none⟩) 1 1) :: r) := by
  have o2 : Only [bg, rb] w w2 := by
    rw [hw]
    exact (((((Only.refl [bg, rb] w).set (p := ⟨bg, _, none⟩) (.inl (by simp)) _).set (p := ⟨rb, _, none⟩) (.inl (by simp)) _).alloc o1).alloc _).drew
  have hbase := (Row.block hr.row (g := bg) rfl).1
  have hbg := (Row.block hr.row (g := bg) rfl).2
  have hS : ∀ b ∈ [bg, rb], ¬ F b := fun b hm hf => by
    rcases List.mem_cons.1 hm with rfl | hm
    · exact hr.free _ (List.Mem.head _) b rfl hf
    · have := List.mem_singleton.1 hm
      have := (hr.fr b hf).1
      omega
  have hrow := Row.set hr.row (r.length * 12 + 10) (.slice (some ⟨N, 0, none⟩) 1 1)
  rw [bcs_set o sl sr r 10 _ (ocell o.k sl (.slice (some ⟨N, 0, none⟩) 1 1) true).toList (by rw [hbar]; rfl)] at hrow
  have hB : Bk w2 N 30 (t.cs pl pr) := by
    rw [hw]
    exact (Bk.madeAt (by rw [hN]; simp)).drew
  refine ⟨⟨_, o2, fun b hm => ?_, fun b hm _ => ?_⟩, ?_, fun b => F b ∨ b = N, fun b h => .inl h, PRdr.turn hr o2 (fun b hm => ?_) (fun _ h => .inl h) (fun b h => ?_) ?_ ?_⟩
  · rcases List.mem_cons.1 hm with rfl | hm
    · exact .inr hbase
    · exact .inl (List.mem_singleton.1 hm)
  · rcases List.mem_cons.1 hm with rfl | hm
    · exact Row.cells hr.row rfl
    · rw [List.mem_singleton.1 hm]; exact ⟨_, _, hb⟩
  · rw [hw]
    exact ((((hb.away (p := ⟨bg, _, none⟩) hne _).set 2 _).alloc o1).alloc _).drew
  · rcases List.mem_cons.1 hm with rfl | hm
    · exact .inr rfl
    · rw [List.mem_singleton.1 hm]; exact .inl hrb
  · rcases h with h | rfl
    · exact .inl h
    · exact .inr ⟨by omega, hB.lt⟩
  · refine ⟨some ⟨N, 0, none⟩, 1, rfl, Nat.le_refl _, by decide, .inr ⟨N, 0, rfl, hB.lt, .inr rfl, ?_⟩⟩
    simp only [QVs]
    exact ⟨⟨pl, pr, QV.only o2 hS (fun _ h => .inl h) t pl pr ht, fun j v hv => by rw [Nat.zero_add]; exact hB.cell0 hv⟩, trivial⟩
  · rw [hw]
    refine Row.drew (Row.alloc (Row.alloc (Row.only hrow ((Only.refl [rb] _).set (.inl (by simp)) _) fun b hb2 hm => ?_) o1) _)
    injection hb2 with hb2
    rw [List.mem_singleton.1 hm] at hb2
    exact hne hb2.symm
set_option maxRecDepth 20000 in
set_option maxHeartbeats 4000000 in
theorem qput_rest (w : World) (base rb : Nat) (F : Nat → Prop) (k n : Int) (tt : T) (t : QT) (B C : Option Addr) (m c m' c' : Nat) (s : ByteArray) (a st : Int) (bv sl sr : Value) (o : QOpn) (r : List (QOpn × Value × Value)) (u : Fin 11 → Value) (hb : Bk w rb 40 (qcs s a st bv u)) (hr : PRdr w base F bv ((o, sl, sr) :: r)) (hl : r.length < 262144) (hrb : rb < base) (hbar : o.bar = true)
    (ht : QV w F t (.slice B m c) (.slice C m' c')) (hk : t.k = k) (hn : t.n = n) (htt : t.t = tt) :
    Calls Tryz.prog 46 #[.pointer (some ⟨rb, 0, none⟩), .agg (pcs k n tt (.slice B m c) (.slice C m' c'))] w fun e w' => e = .returned (.tuple #[]) ∧ Low base rb w w' ∧ Bk w' rb 40 (qcs s a 3 bv u) ∧
      ∃ F' sr', (∀ b, F b → F' b) ∧ PRdr w' base F' bv ((⟨o.k, o.items, true, [t]⟩, sl, sr') :: r) := by
  subst hk hn htt
  have rs := store_com
  obtain ⟨bg, cap, rfl⟩ : ∃ bg cap, bv = .slice (some ⟨bg, 0, none⟩) (r.length + 1) cap := by
    rcases hr.row.2 with ⟨_, h⟩ | ⟨g, cap, cur, h, _⟩
    · simp at h
    · exact ⟨_, _, h⟩
  have c2 := (hb.cell0 (i := 2) rfl)
  have c3 := (hb.cell0 (i := 3) rfl)
  have c3a := fun o1 => ((hb.alloc o1).cell0 (i := 3) rfl)
  have cf := hb.free
  have HB := Lib.hid hb
  have HR := Lib.hid hr
  have HT := Lib.hid ht
  obtain ⟨v, hv⟩ := bcs_at o sl sr r 10 (by decide)
  have b10 := Row.cell hr.row _ _ hv
  have hv11 : (bcs ((o, sl, sr) :: r))[r.length * 12 + 11]? = some (.bool true) := by
    show (bcs r ++ (ocell o.k sl sr o.bar).toList)[r.length * 12 + 11]? = _
    rw [← bcs_len r, List.getElem?_append_right (Nat.le_add_right _ _), Nat.add_sub_cancel_left, hbar]
    rfl
  have b11 := Row.cell hr.row _ _ hv11
  have b11a : ∀ o1, (w.alloc o1).cell? ⟨bg, r.length * 12 + 11, none⟩ = some (.bool true) := fun o1 => Row.cell (Row.alloc hr.row o1) _ _ hv11
  have b10a : ∀ o1, (w.alloc o1).cell? ⟨bg, r.length * 12 + 10, none⟩ = some v := fun o1 => Row.cell (Row.alloc hr.row o1) _ _ hv
  have bf := Row.free hr.row
  have hne : rb ≠ bg := by have := (Row.block hr.row (g := bg) rfl).1; omega
  have hlt := hb.lt
  have hbl := (Row.block hr.row (g := bg) rfl).2
  have q1 : ((r.length : Int) < (r.length : Int) + 1) := by omega
  have q3 : wrap64 (r.length : Int) = (r.length : Int) := wrap64_in (by omega) (by omega)
  have q4 : ((r.length : Int) + 1 == 0) = false := by simp; omega
  clear hb hr hv hv11 ht
  go_enter Tryz.func46, Tryz.ntmps46
  go_wp2_with fail
  go_region
  go_wp2_with fail
  obtain ⟨L, R, F', hF, P⟩ := qrest_end (w2 := _) HB.out HR.out hrb hne hbar HT.out rfl rfl
  exact bodyPost_ret (v := .tuple #[]) (by simp [results, Tryz.results46, go_sem]) rfl ⟨rfl, L, R, F', _, hF, P⟩
end Go.Proofs.YtlilfmpikampgaaGreatDoor

namespace Go.Proofs.YtlilfmpikampgaaGreatDoor
open Go.RowKit

abbrev ZP : Array Value := #[.int .i64 0, .int .i64 0, .int .i64 0, .int .i64 0, .complex .f64 0 0, .string ⟨#[]⟩, .int .i64 0, .int .i64 0, .slice none 0 0, .slice none 0 0, .slice none 0 0]
theorem set11_eq (w : World) (g o : Nat) (v0 v1 v2 v3 v4 v5 v6 v7 v8 v9 v10 : Value) :
    ((((((((((w.setCell ⟨g, o, none⟩ v0).setCell ⟨g, o + 1, none⟩ v1).setCell ⟨g, o + 2, none⟩ v2).setCell ⟨g, o + 3, none⟩ v3).setCell ⟨g, o + 4, none⟩ v4).setCell ⟨g, o + 5, none⟩ v5).setCell ⟨g, o + 6, none⟩ v6).setCell ⟨g, o + 7, none⟩ v7).setCell ⟨g, o + 8, none⟩ v8).setCell ⟨g, o + 9, none⟩ v9).setCell ⟨g, o + 10, none⟩ v10 = w.setCells g o (#[v0, v1, v2, v3, v4, v5, v6, v7, v8, v9, v10] : Array Value).toList := by
  simp only [World.setCells, Nat.add_assoc, Nat.reduceAdd]
theorem qput_facts {w w1 : World} {base rb bg cap n m g cap' : Nat} {sl : Value} {xs ys cs' : List Value} {cs : Array Value} (hb : Bk w rb 40 cs) (hrow : w.ownsRow base 94 12 (.slice (some ⟨bg, 0, none⟩) (n + 1) cap) (n + 1) (ys ++ cs'))
    (hsl : w.ownsRow base 30 11 sl m xs) (hap : sl.ownBlock ≠ some bg) (hrb : rb < base)
    (hown : w1.ownsRow base 30 11 (.slice (some ⟨g, 0, none⟩) (m + 1) cap') (m + 1) (xs ++ ZP.toList)) (hgrow : w.grownBy w1 sl.ownBlock) (hat : sl.ownBlock = some g ∨ g = w.heap.size) :
    Bk w1 rb 40 cs ∧ rb ≠ g ∧ bg ≠ g ∧ (∀ j, w1.frozen? ⟨g, j, none⟩ = false) ∧ Only sl.ownBlock.toList w w1 ∧ (∀ j, j < 11 → ∃ u, w1.cell? ⟨g, m * 11 + j, none⟩ = some u) ∧
      (∀ j, w1.frozen? ⟨bg, j, none⟩ = false) ∧ (∃ u, w1.cell? ⟨bg, n * 12 + 9, none⟩ = some u) ∧ w1.ownsRow base 94 12 (.slice (some ⟨bg, 0, none⟩) (n + 1) cap) (n + 1) (ys ++ cs') := by
  obtain ⟨h1, h2, h4⟩ := qgrown hb hsl hrb hown hgrow
  have hr1 := Row.only hrow h4 (fun b hb hm => by
    injection hb with hb
    subst hb
    exact hap (by simpa using hm))
  refine ⟨h1, h2, ?_, Row.free hown, h4, fun j hj => ?_, Row.free hr1, ?_, hr1⟩
  · rintro rfl
    rcases hat with h | h
    · exact hap h
    · have := (Row.block hrow (g := bg) rfl).2
      omega
  · have hl : m * 11 + j < (xs ++ ZP.toList).length := by rw [hown.1]; omega
    exact ⟨_, Row.cell hown _ _ (List.getElem?_eq_getElem hl)⟩
  · have hl : n * 12 + 9 < (ys ++ cs').length := by rw [hrow.1]; omega
    exact ⟨_, Row.cell hr1 _ _ (List.getElem?_eq_getElem hl)⟩
theorem qset_last (ys : List Value) (k : Int) (sl sl' sr : Value) {i : Nat} (hi : i = ys.length + 9) : (ys ++ (ocell k sl sr false).toList).set i sl' = ys ++ (ocell k sl' sr false).toList := by
  subst hi
  rw [List.set_append_right _ _ (by omega), show ys.length + 9 - ys.length = 9 by omega]
  rfl
theorem elevenA {w : World} {b : Nat} {t : TypeId} {v0 v1 v2 v3 v4 v5 v6 v7 v8 v9 v10 : Value} (h : Bk w b t #[v0, v1, v2, v3, v4, v5, v6, v7, v8, v9, v10]) :
    (∀ o, (w.alloc o).cell? ⟨b, 0, none⟩ = some v0) ∧ (∀ o, (w.alloc o).cell? ⟨b, 1, none⟩ = some v1) ∧ (∀ o, (w.alloc o).cell? ⟨b, 2, none⟩ = some v2) ∧ (∀ o, (w.alloc o).cell? ⟨b, 3, none⟩ = some v3) ∧ (∀ o, (w.alloc o).cell? ⟨b, 4, none⟩ = some v4) ∧ (∀ o, (w.alloc o).cell? ⟨b, 5, none⟩ = some v5) ∧ (∀ o, (w.alloc o).cell? ⟨b, 6, none⟩ = some v6) ∧ (∀ o, (w.alloc o).cell? ⟨b, 7, none⟩ = some v7) ∧ (∀ o, (w.alloc o).cell? ⟨b, 8, none⟩ = some v8) ∧ (∀ o, (w.alloc o).cell? ⟨b, 9, none⟩ = some v9) ∧ (∀ o, (w.alloc o).cell? ⟨b, 10, none⟩ = some v10) :=
  ⟨fun o => (h.alloc o).cell0 rfl, fun o => (h.alloc o).cell0 rfl, fun o => (h.alloc o).cell0 rfl, fun o => (h.alloc o).cell0 rfl, fun o => (h.alloc o).cell0 rfl, fun o => (h.alloc o).cell0 rfl, fun o => (h.alloc o).cell0 rfl, fun o => (h.alloc o).cell0 rfl, fun o => (h.alloc o).cell0 rfl, fun o => (h.alloc o).cell0 rfl, fun o => (h.alloc o).cell0 rfl⟩
theorem qput_a {w1 w2 : World} {base rb bg cap g cap' m n : Nat} {s : ByteArray} {a st k' : Int} {sl sl' sr v0 v1 v2 v3 v4 v5 v6 v7 v8 v9 v10 : Value} {u : Fin 11 → Value} {xs ys : List Value} (k0 : Bk w1 rb 40 (qcs s a st (.slice (some ⟨bg, 0, none⟩) (n + 1) cap) u)) (hne : rb ≠ g) (hne2 : bg ≠ g) (hne3 : rb ≠ bg)
    (hown : w1.ownsRow base 30 11 (.slice (some ⟨g, 0, none⟩) (m + 1) cap') (m + 1) (xs ++ ZP.toList)) (hrow : w1.ownsRow base 94 12 (.slice (some ⟨bg, 0, none⟩) (n + 1) cap) (n + 1) (ys ++ (ocell k' sl sr false).toList)) (hlx : xs.length = m * 11) (hly : ys.length = n * 12) (hbv : sl' = .slice (some ⟨g, 0, none⟩) (m + 1) cap')
    (hw : w2 = (((((((((((((w1.setCell ⟨bg, n * 12 + 9, none⟩ sl').setCell ⟨g, m * 11, none⟩ v0).setCell ⟨g, m * 11 + 1, none⟩ v1).setCell ⟨g, m * 11 + 2, none⟩ v2).setCell ⟨g, m * 11 + 3, none⟩ v3).setCell ⟨g, m * 11 + 4, none⟩ v4).setCell ⟨g, m * 11 + 5, none⟩ v5).setCell ⟨g, m * 11 + 6, none⟩ v6).setCell ⟨g, m * 11 + 7, none⟩ v7).setCell ⟨g, m * 11 + 8, none⟩ v8).setCell ⟨g, m * 11 + 9, none⟩ v9).setCell ⟨g, m * 11 + 10, none⟩ v10).setCell ⟨rb, 2, none⟩ (.int .i64 2))) :
    Only [rb, bg, g] w1 w2 ∧ Bk w2 rb 40 (qcs s a 2 (.slice (some ⟨bg, 0, none⟩) (n + 1) cap) u) ∧ w2.ownsRow base 30 11 sl' (m + 1) (xs ++ [v0, v1, v2, v3, v4, v5, v6, v7, v8, v9, v10]) ∧ w2.ownsRow base 94 12 (.slice (some ⟨bg, 0, none⟩) (n + 1) cap) (n + 1) (ys ++ (ocell k' sl' sr false).toList) := by
  subst hbv
  rw [set11_eq] at hw
  subst hw
  refine ⟨?_, ?_, ?_, ?_⟩
  · exact (Only.sets (.inl (by simp)) _ _ ((Only.refl _ _).set (.inl (by simp)) _)).set (.inl (by simp)) _
  · exact Bk.set (Bk.only (Bk.only k0 ((Only.refl [bg] _).set (.inl (by simp)) _) (by simpa using hne3)) (Only.sets (S := [g]) (.inl (by simp)) _ _ (Only.refl _ _)) (by simpa using hne)) 2 _
  · refine Row.only (Row.last (Row.only hown ((Only.refl [bg] _).set (.inl (by simp)) _) ?_) rfl (by omega)) ((Only.refl [rb] _).set (.inl (by simp)) _) ?_
    all_goals
      intro b hb
      injection hb with hb
      simp at hb ⊢
      omega
  · rw [← qset_last ys k' sl _ sr (i := n * 12 + 9) (by omega)]
    refine Row.only (Row.only (Row.set hrow (n * 12 + 9) _) (Only.sets (S := [g]) (.inl (by simp)) _ _ (Only.refl _ _)) ?_) ((Only.refl [rb] _).set (.inl (by simp)) _) ?_
    all_goals
      intro b hb
      injection hb with hb
      simp at hb ⊢
      omega
theorem qput_b {w1 w2 : World} {base rb bg cap g cap' m n : Nat} {s : ByteArray} {a st k' : Int} {sl sl' sr v0 v1 v2 v3 v4 v5 v6 v7 v8 v9 v10 : Value} {u : Fin 11 → Value} {xs ys : List Value} (k0 : Bk w1 rb 40 (qcs s a st (.slice (some ⟨bg, 0, none⟩) (n + 1) cap) u)) (hne : rb ≠ g) (hne2 : bg ≠ g) (hne3 : rb ≠ bg)
    (hown : w1.ownsRow base 30 11 (.slice (some ⟨g, 0, none⟩) (m + 1) cap') (m + 1) (xs ++ ZP.toList)) (hrow : w1.ownsRow base 94 12 (.slice (some ⟨bg, 0, none⟩) (n + 1) cap) (n + 1) (ys ++ (ocell k' sl sr false).toList)) (hlx : xs.length = m * 11) (hly : ys.length = n * 12) (hbv : sl' = .slice (some ⟨g, 0, none⟩) (m + 1) cap')
    (hw : w2 = (((((((((((((w1.setCell ⟨g, m * 11, none⟩ v0).setCell ⟨g, m * 11 + 1, none⟩ v1).setCell ⟨g, m * 11 + 2, none⟩ v2).setCell ⟨g, m * 11 + 3, none⟩ v3).setCell ⟨g, m * 11 + 4, none⟩ v4).setCell ⟨g, m * 11 + 5, none⟩ v5).setCell ⟨g, m * 11 + 6, none⟩ v6).setCell ⟨g, m * 11 + 7, none⟩ v7).setCell ⟨g, m * 11 + 8, none⟩ v8).setCell ⟨g, m * 11 + 9, none⟩ v9).setCell ⟨g, m * 11 + 10, none⟩ v10).setCell ⟨bg, n * 12 + 9, none⟩ sl').setCell ⟨rb, 2, none⟩ (.int .i64 2))) :
    Only [rb, bg, g] w1 w2 ∧ Bk w2 rb 40 (qcs s a 2 (.slice (some ⟨bg, 0, none⟩) (n + 1) cap) u) ∧ w2.ownsRow base 30 11 sl' (m + 1) (xs ++ [v0, v1, v2, v3, v4, v5, v6, v7, v8, v9, v10]) ∧ w2.ownsRow base 94 12 (.slice (some ⟨bg, 0, none⟩) (n + 1) cap) (n + 1) (ys ++ (ocell k' sl' sr false).toList) := by
  subst hbv
  rw [set11_eq] at hw
  subst hw
  refine ⟨?_, ?_, ?_, ?_⟩
  · exact ((Only.sets (.inl (by simp)) _ _ (Only.refl _ _)).set (.inl (by simp)) _).set (.inl (by simp)) _
  · exact Bk.set (Bk.only (Bk.only k0 (Only.sets (S := [g]) (.inl (by simp)) _ _ (Only.refl _ _)) (by simpa using hne)) ((Only.refl [bg] _).set (.inl (by simp)) _) (by simpa using hne3)) 2 _
  · refine Row.only (Row.only (Row.last hown rfl (by omega)) ((Only.refl [bg] _).set (.inl (by simp)) _) ?_) ((Only.refl [rb] _).set (.inl (by simp)) _) ?_
    all_goals
      intro b hb
      injection hb with hb
      simp at hb ⊢
      omega
  · rw [← qset_last ys k' sl _ sr (i := n * 12 + 9) (by omega)]
    refine Row.only (Row.set (Row.only hrow (Only.sets (S := [g]) (.inl (by simp)) _ _ (Only.refl _ _)) ?_) (n * 12 + 9) _) ((Only.refl [rb] _).set (.inl (by simp)) _) ?_
    all_goals
      intro b hb
      injection hb with hb
      simp at hb ⊢
      omega
theorem qput_end1 {w wA w1 w2 : World} {base rb bg g cap cap' : Nat} {F : Nat → Prop} {s : ByteArray} {a : Int} {o : QOpn} {sl sr pl pr : Value} {t : QT} {u : Fin 11 → Value} {ps : List (QOpn × Value × Value)} {xs : List Value} {cs : Array Value} (hbw : Bk w rb 40 cs) (hr : PRdr w base F (.slice (some ⟨bg, 0, none⟩) (ps.length + 1) cap) ((o, sl, sr) :: ps)) (hit : PIts w F o.items xs)
    (ht : QV w F t pl pr) (h0 : Only [] w wA) (k3 : Only sl.ownBlock.toList wA w1) (hat : sl.ownBlock = some g ∨ g = wA.heap.size) (hrb : rb < base)
    (hb : Only [rb, bg, g] w1 w2 ∧ Bk w2 rb 40 (qcs s a 2 (.slice (some ⟨bg, 0, none⟩) (ps.length + 1) cap) u) ∧ w2.ownsRow base 30 11 (.slice (some ⟨g, 0, none⟩) (o.items.length + 1) cap') (o.items.length + 1) (xs ++ (t.cs pl pr).toList) ∧
      w2.ownsRow base 94 12 (.slice (some ⟨bg, 0, none⟩) (ps.length + 1) cap) (ps.length + 1) (bcs ps ++ (ocell o.k (.slice (some ⟨g, 0, none⟩) (o.items.length + 1) cap') sr false).toList)) :
    Low base rb w w2 ∧ Bk w2 rb 40 (qcs s a 2 (.slice (some ⟨bg, 0, none⟩) (ps.length + 1) cap) u) ∧ ∃ sl', PRdr w2 base F (.slice (some ⟨bg, 0, none⟩) (ps.length + 1) cap) ((⟨o.k, o.items ++ [t], false, o.rest⟩, sl', sr) :: ps) := by
  obtain ⟨o2, b2, r2, r3⟩ := hb
  obtain ⟨ys, hx, _⟩ := hr.each (o, sl, sr) (by simp)
  have h1 : Only (rb :: bg :: g :: sl.ownBlock.toList) w w2 := ((h0.more (by simp)).trans k3 (fun i hi => .inl (by simp at hi ⊢; exact .inr (.inr (.inr hi))))).trans o2 (fun i hi => .inl (by simp at hi ⊢; omega))
  have hg : sl.ownBlock = some g ∨ w.heap.size ≤ g := by
    rcases hat with h | h
    · exact .inl h
    · exact .inr (by rw [h]; exact h0.size)
  refine ⟨⟨_, h1, fun b hb => ?_, fun b hb hlt => ?_⟩, b2, _, PRdr.lay (S := rb :: bg :: sl.ownBlock.toList) (g := g) hr ht hit (h1.more fun i hi => ?_) (fun b hb => ?_) hg rfl r2 r3⟩
  · rcases List.mem_cons.1 hb with rfl | hb
    · exact .inl rfl
    rcases List.mem_cons.1 hb with rfl | hb
    · exact .inr (Row.block r3 (g := b) rfl).1
    rcases List.mem_cons.1 hb with rfl | hb
    · exact .inr (Row.block r2 (g := b) rfl).1
    · exact .inr (Row.block hx (g := b) (by simpa using hb)).1
  · rcases List.mem_cons.1 hb with rfl | hb
    · exact ⟨_, _, hbw⟩
    rcases List.mem_cons.1 hb with rfl | hb
    · exact Row.cells hr.row rfl
    rcases List.mem_cons.1 hb with rfl | hb
    · rcases hg with hg | hg
      · exact Row.cells hx hg
      · omega
    · exact Row.cells hx (g := b) (by simpa using hb)
  · rcases List.mem_cons.1 hi with rfl | hi
    · exact .inl (by simp)
    rcases List.mem_cons.1 hi with rfl | hi
    · exact .inl (by simp)
    rcases List.mem_cons.1 hi with rfl | hi
    · rcases hg with hg | hg
      · exact .inl (by simp [hg])
      · exact .inr hg
    · exact .inl (by simp at hi ⊢; exact .inr (.inr hi))
  · rcases List.mem_cons.1 hb with rfl | hb
    · exact .inl hrb
    rcases List.mem_cons.1 hb with rfl | hb
    · exact .inr (.inr rfl)
    · exact .inr (.inl (by simpa using hb))
set_option maxRecDepth 20000 in
set_option maxHeartbeats 8000000 in
theorem qput_lay (w : World) (base rb : Nat) (F : Nat → Prop) (t : QT) (B C : Option Addr) (m c m' c' : Nat) (s : ByteArray) (a st : Int) (bv sl sr : Value) (o : QOpn) (ps : List (QOpn × Value × Value)) (u : Fin 11 → Value) (hb : Bk w rb 40 (qcs s a st bv u)) (hr : PRdr w base F bv ((o, sl, sr) :: ps)) (hl : o.items.length ≤ 262144) (hl2 : ps.length < 262144) (hrb : rb < base) (hbar : o.bar = false)
    (ht : QV w F t (.slice B m c) (.slice C m' c')) :
    Calls Tryz.prog 46 #[.pointer (some ⟨rb, 0, none⟩), .agg (pcs t.k t.n t.t (.slice B m c) (.slice C m' c'))] w fun e w' => e = .returned (.tuple #[]) ∧ Low base rb w w' ∧ Bk w' rb 40 (qcs s a 2 bv u) ∧
      ∃ sl', PRdr w' base F bv ((⟨o.k, o.items ++ [t], false, o.rest⟩, sl', sr) :: ps) := by
  obtain ⟨xs, hx, hit, _⟩ := hr.each (o, sl, sr) (by simp)
  simp only at hx hit
  obtain ⟨A, ca, rfl⟩ : ∃ A ca, sl = .slice A o.items.length ca := by
    rcases hx.2 with ⟨h, h0⟩ | ⟨g, cap, cur, h, _⟩
    · exact ⟨none, 0, by rw [h, h0]⟩
    · exact ⟨_, _, h⟩
  obtain ⟨bg, cap, rfl⟩ : ∃ bg cap, bv = .slice (some ⟨bg, 0, none⟩) (ps.length + 1) cap := by
    rcases hr.row.2 with ⟨_, h⟩ | ⟨g, cap, cur, h, _⟩
    · simp at h
    · exact ⟨_, _, h⟩
  have rs := store_com
  have HB := Lib.hid hb
  have HR := Lib.hid hr
  have HI := Lib.hid hit
  have HT := Lib.hid ht
  have HX := Lib.hid hx
  have hap : (Value.slice A o.items.length ca).ownBlock ≠ some bg := fun e => (List.pairwise_cons.1 hr.apart).1 _ (by simp) bg rfl e
  have hrow : w.ownsRow base 94 12 (.slice (some ⟨bg, 0, none⟩) (ps.length + 1) cap) (ps.length + 1) (bcs ps ++ (ocell o.k (.slice A o.items.length ca) sr false).toList) := by
    have := hr.row
    simp only [bcs, hbar] at this
    exact this
  have HRW := Lib.hid hrow
  have c3a : ∀ o1, (w.alloc o1).cell? ⟨rb, 3, none⟩ = some (.slice (some ⟨bg, 0, none⟩) (ps.length + 1) cap) := fun o1 => (hb.alloc o1).cell0 rfl
  have L9 : (bcs ps ++ (ocell o.k (.slice A o.items.length ca) sr false).toList)[ps.length * 12 + 9]? = some (.slice A o.items.length ca) := by
    rw [List.getElem?_append_right (by rw [bcs_len]; omega), bcs_len, show ps.length * 12 + 9 - ps.length * 12 = 9 by omega]
    rfl
  have L11 : (bcs ps ++ (ocell o.k (.slice A o.items.length ca) sr false).toList)[ps.length * 12 + 11]? = some (.bool false) := by
    rw [List.getElem?_append_right (by rw [bcs_len]; omega), bcs_len, show ps.length * 12 + 11 - ps.length * 12 = 11 by omega]
    rfl
  have M1 : ∀ o1, (w.alloc o1).cell? ⟨bg, ps.length * 12 + 9, none⟩ = some (.slice A o.items.length ca) := fun o1 => Row.cell (Row.alloc hrow o1) _ _ L9
  have M2 : ∀ o1 o2, ((w.alloc o1).alloc o2).cell? ⟨bg, ps.length * 12 + 9, none⟩ = some (.slice A o.items.length ca) := fun o1 o2 => Row.cell (Row.alloc (Row.alloc hrow o1) o2) _ _ L9
  have M3 : ∀ o1, (w.alloc o1).cell? ⟨bg, ps.length * 12 + 11, none⟩ = some (.bool false) := fun o1 => Row.cell (Row.alloc hrow o1) _ _ L11
  have R1 : ∀ o1 o2, ((w.alloc o1).alloc o2).ownsRow base 30 11 (.slice A o.items.length ca) o.items.length xs := fun o1 o2 => Row.alloc (Row.alloc hx o1) o2
  have R2 : ∀ o1 o2, ((w.alloc o1).alloc o2).ownsRow base 94 12 (.slice (some ⟨bg, 0, none⟩) (ps.length + 1) cap) (ps.length + 1) (bcs ps ++ (ocell o.k (.slice A o.items.length ca) sr false).toList) := fun o1 o2 => Row.alloc (Row.alloc hrow o1) o2
  have hbz : ∀ o1 o2, base ≤ ((w.alloc o1).alloc o2).heap.size := fun o1 o2 => by have := hr.le; simp; omega
  have TB := Lib.hid ((Bk.made w 30 (pcs t.k t.n t.t (.slice B m c) (.slice C m' c'))))
  obtain ⟨t0, t1, t2, t3, t4, t5, t6, t7, t8, t9, t10⟩ := elevenA TB.out
  obtain ⟨i, hi, hz, hz1, hz2⟩ := qinfo info_pat
  have h63 : o.items.length + 1 ≤ maxLen := by unfold maxLen; omega
  have q1 : ((o.items.length : Int) < (o.items.length : Int) + 1) := by omega
  have q2 : ((ps.length : Int) < (ps.length : Int) + 1) := by omega
  have q3 : wrap64 (ps.length : Int) = (ps.length : Int) := wrap64_in (by omega) (by omega)
  have q4 : ((ps.length : Int) + 1 == 0) = false := by simp; omega
  have hne : rb ≠ bg := by have := (Row.block hrow (g := bg) rfl).1; omega
  clear hb hr hit ht hx hrow L9 L11
  go_enter Tryz.func46, Tryz.ntmps46
  go_wp2_with fail
  go_region
  have HXS := Lib.hid HX.out.1
  have HZ0 := Lib.hid (((Only.refl [] w).alloc (.cells (pcs t.k t.n t.t (.slice B m c) (.slice C m' c')) 30)).alloc (.cells ZP 30)).drew.drew
  go_wp2_with fail
  go_region_law ((refine step_append_lies _ (by rfl) _ _ _ (by rfl) base 30 i _ 11 152 Tryz.underlying28 hi hz hz1 hz2 rfl (by omega) _ o.items.length xs (by rfl) (Row.drew (Row.drew (R1 _ _))) _ 1 1 ZP.toList (by rfl) rfl (World.news_of_block (Bk.madeAt (w := w.alloc (.cells (pcs t.k t.n t.t (.slice B m c) (.slice C m' c')) 30)) (b := w.heap.size + 1) (by simp))) (by decide) (by omega) h63 (by omega) (hbz _ _) _ rfl ?_; intro g cap' w1 hown hgrow hat hlt; obtain ⟨k0, k1, k1b, k2, k3, k4, k5, ⟨zL, xL⟩, k6⟩ := qput_facts ((HB.out.alloc _).alloc _).drew.drew (Row.drew (Row.drew (R2 _ _))) (Row.drew (Row.drew (R1 _ _))) hap hrb hown hgrow hat; obtain ⟨z0, x0⟩ := k4 0 (by omega); obtain ⟨z1, x1⟩ := k4 1 (by omega); obtain ⟨z2, x2⟩ := k4 2 (by omega); obtain ⟨z3, x3⟩ := k4 3 (by omega); obtain ⟨z4, x4⟩ := k4 4 (by omega); obtain ⟨z5, x5⟩ := k4 5 (by omega); obtain ⟨z6, x6⟩ := k4 6 (by omega); obtain ⟨z7, x7⟩ := k4 7 (by omega); obtain ⟨z8, x8⟩ := k4 8 (by omega); obtain ⟨z9, x9⟩ := k4 9 (by omega); obtain ⟨z10, x10⟩ := k4 10 (by omega); simp only [Nat.add_zero] at x0; obtain ⟨d0, d1, d2, d3⟩ := k0.fifteen; have df := k0.free; have K0 := Lib.hid k0; have K3 := Lib.hid k3; have HO := Lib.hid hown; have K6 := Lib.hid k6; clear k0 k4 k6))
  all_goals
    go_wp2_with fail
    refine bodyPost_end (v := .tuple #[]) (by simp [results, Tryz.results46, go_sem]) rfl ⟨rfl, qput_end1 (cap' := cap') HB.out HR.out HI.out HT.out HZ0.out K3.out hat hrb ?_⟩
    first
      | exact qput_a K0.out k1 k1b hne HO.out K6.out HXS.out (bcs_len ps) rfl (by with_reducible rfl)
      | exact qput_b K0.out k1 k1b hne HO.out K6.out HXS.out (bcs_len ps) rfl (by with_reducible rfl)
end Go.Proofs.YtlilfmpikampgaaGreatDoor
