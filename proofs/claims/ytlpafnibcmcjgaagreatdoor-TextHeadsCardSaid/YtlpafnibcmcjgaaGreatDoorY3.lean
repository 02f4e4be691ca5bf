/- text: reader.comma, reader.begin. -/
import Derived.Test.YtlpafnibcmcjgaaGreatDoorMj
import Derived.Deep.RegionLaw
namespace Go.Proofs.YtlpafnibcmcjgaaGreatDoor
open Go.RowKit

/-- Of the blocks below base none has turned but rb; and none that is none of cells. -/
def Low (base rb : Nat) (w w' : World) : Prop := ∃ S, Only S w w' ∧ (∀ b ∈ S, b = rb ∨ base ≤ b) ∧ ∀ b ∈ S, b < w.heap.size → ∃ t cs, Bk w b t cs
theorem Low.of {base rb : Nat} {w w' : World} {t : TypeId} {cs : Array Value} (hb : Bk w rb t cs) (h : Only [rb] w w') : Low base rb w w' := ⟨[rb], h, by simp, fun b hm _ => by rw [List.mem_singleton.1 hm]; exact ⟨_, _, hb⟩⟩
theorem Low.of0 {base rb : Nat} {w w' : World} (h : Only [] w w') : Low base rb w w' := ⟨[], h, by simp, by simp⟩
theorem Low.trans {base rb : Nat} {a b c : World} (h : Low base rb a b) (k : Low base rb b c) : Low base rb a c := by
  obtain ⟨S, h1, h2, h3⟩ := h
  obtain ⟨S', k1, k2, k3⟩ := k
  refine ⟨S ++ S', (h1.more (T := S ++ S') (fun k hk => .inl (by simp [hk]))).trans k1 (fun i hi => .inl (by simp [hi])), fun b hb => ?_, fun x hx hlt => ?_⟩
  · rcases List.mem_append.1 hb with hb | hb
    · exact h2 b hb
    · exact k2 b hb
  · by_cases hs : x ∈ S
    · exact h3 x hs hlt
    · rcases List.mem_append.1 hx with hx | hx
      · exact absurd hx hs
      · obtain ⟨t, cs, hb⟩ := k3 x hx (Nat.lt_of_lt_of_le hlt h1.size)
        exact ⟨t, cs, (h1.block x hlt hs).symm.trans hb⟩
theorem Row.cells {w : World} {base : Nat} {e : TypeId} {size : Nat} {v : Value} {n : Nat} {xs : List Value} (h : w.ownsRow base e size v n xs) {g : Nat} (hg : v.ownBlock = some g) : ∃ t cs, Bk w g t cs := by
  rcases h.2 with ⟨hv, _⟩ | ⟨g', cap, cur, hv, hb, hg', _⟩
  · rw [hv] at hg; cases hg
  · rw [hv] at hg
    injection hg with hg
    subst hg
    exact ⟨_, _, hg'⟩
theorem Low.only {base rb : Nat} {w w' : World} (h : Low base rb w w') (hb : w.heap.size ≤ base) : Only [rb] w w' := by
  obtain ⟨S, h1, h2, _⟩ := h
  exact h1.more fun k hk => by
    rcases h2 k hk with h | h
    · exact .inl (by simp [h])
    · exact .inr (by omega)
theorem Bk.nine {w : World} {b : Nat} {t : TypeId} {v0 v1 v2 v3 v4 v5 v6 v7 v8 : Value} (h : Bk w b t #[v0, v1, v2, v3, v4, v5, v6, v7, v8]) :
    w.cell? ⟨b, 0, none⟩ = some v0 ∧ w.cell? ⟨b, 1, none⟩ = some v1 ∧ w.cell? ⟨b, 2, none⟩ = some v2 ∧ w.cell? ⟨b, 3, none⟩ = some v3 ∧ w.cell? ⟨b, 4, none⟩ = some v4 ∧ w.cell? ⟨b, 5, none⟩ = some v5 ∧ w.cell? ⟨b, 6, none⟩ = some v6 ∧ w.cell? ⟨b, 7, none⟩ = some v7 ∧ w.cell? ⟨b, 8, none⟩ = some v8 :=
  ⟨h.cell0 rfl, h.cell0 rfl, h.cell0 rfl, h.cell0 rfl, h.cell0 rfl, h.cell0 rfl, h.cell0 rfl, h.cell0 rfl, h.cell0 rfl⟩
/-- The reader's nine cells. -/
abbrev rcs (st : Int) (bv u0 u1 u2 u3 u4 u5 u6 : Value) : Array Value := #[.int .i64 st, bv, u0, u1, u2, u3, u4, u5, u6]
set_option maxHeartbeats 1000000 in
theorem comma_any (w : World) (rb : Nat) (st : Int) (bv u0 u1 u2 u3 u4 u5 u6 : Value) (hb : Bk w rb 43 (rcs st bv u0 u1 u2 u3 u4 u5 u6)) :
    Calls Tryz.prog 39 #[.pointer (some ⟨rb, 0, none⟩)] w fun e w' => (e = .returned (.bool (decide (st = 2)))) ∧ Only [rb] w w' ∧ (st = 2 → Bk w' rb 43 (rcs 0 bv u0 u1 u2 u3 u4 u5 u6)) := by
  obtain ⟨c0, c1, c2, c3, c4, c5, c6, c7, c8⟩ := hb.nine
  have cf := hb.free
  have HB := Lib.hid hb
  clear hb
  by_cases h2 : st = 2
  · subst h2
    go_enter Tryz.func39, Tryz.ntmps39
    go_wp2_with fail
    go_ret
    exact ⟨rfl, (Only.refl _ _).set (.inl (by simp)) _, fun _ => HB.out.set 0 _⟩
  · have e2 : (st == 2) = false := by simpa using h2
    have hd : decide (st = 2) = false := by simpa using h2
    rw [hd]
    go_enter Tryz.func39, Tryz.ntmps39
    go_wp2_with fail
    go_ret
    exact ⟨rfl, Only.refl _ _, fun h => absurd h h2⟩

theorem Row.drew {w : World} {base : Nat} {e : TypeId} {size : Nat} {v : Value} {n : Nat} {xs : List Value} (h : w.ownsRow base e size v n xs) : w.drew.ownsRow base e size v n xs := h
theorem Row.alloc {w : World} {base : Nat} {e : TypeId} {size : Nat} {v : Value} {n : Nat} {xs : List Value} (h : w.ownsRow base e size v n xs) (o : Obj) : (w.alloc o).ownsRow base e size v n xs := Row.only h ((Only.refl [] w).alloc o) (by simp)
abbrev Z7' : Array Value := tcs 0 0 0 0 ⟨#[]⟩ 0 0 (.slice none 0 0)
theorem begin_no (w : World) (rb : Nat) (k st : Int) (bv u0 u1 u2 u3 u4 u5 u6 : Value) (hb : Bk w rb 43 (rcs st bv u0 u1 u2 u3 u4 u5 u6)) (hst : 1 < st) :
    Calls Tryz.prog 37 #[.pointer (some ⟨rb, 0, none⟩), .int .i64 k] w fun e w' => e = .returned (.bool false) ∧ Only [rb] w w' := by
  obtain ⟨c0, c1, c2, c3, c4, c5, c6, c7, c8⟩ := hb.nine
  clear hb
  have e2 : decide (1 < st) = true := by simpa using hst
  go_enter Tryz.func37, Tryz.ntmps37
  go_wp2_with fail
  go_ret
  exact ⟨rfl, Only.refl _ _⟩
theorem begin_end {w w1 w2 : World} {base rb g cap' : Nat} {k : Int} {F : Nat → Prop} {bv u0 u1 u2 u3 u4 u5 u6 : Value} {ps : List (Opn × Value)} {o : Obj} {cs : Array Value} (hbw : Bk w rb 43 cs) (hr : Rdr w base F bv ps)
    (k3 : Only bv.ownBlock.toList (w.alloc o).drew w1) (hat : bv.ownBlock = some g ∨ g = (w.alloc o).drew.heap.size) (hb : Only [rb, g] w1 w2 ∧ Bk w2 rb 43 (rcs 1 (.slice (some ⟨g, 0, none⟩) (ps.length + 1) cap') u0 u1 u2 u3 u4 u5 u6) ∧
      w2.ownsRow base 27 7 (.slice (some ⟨g, 0, none⟩) (ps.length + 1) cap') (ps.length + 1) (ocs ps ++ (tcs k 0 0 0 ⟨#[]⟩ 0 0 (.slice none 0 0)).toList)) (hrb : rb < base) :
    Low base rb w w2 ∧ ∃ bv', Bk w2 rb 43 (rcs 1 bv' u0 u1 u2 u3 u4 u5 u6) ∧ Rdr w2 base F bv' ((⟨k, []⟩, .slice none 0 0) :: ps) := by
  obtain ⟨o2, b2, r2⟩ := hb
  have h0 : Only [] w (w.alloc o).drew := ((Only.refl [] w).alloc o).drew
  have h1 : Only (rb :: g :: bv.ownBlock.toList) w w2 := ((h0.more (by simp)).trans k3 (fun i hi => .inl (by simp at hi ⊢; exact .inr (.inr hi)))).trans o2 (fun i hi => .inl (by simp at hi ⊢; omega))
  have hg : bv.ownBlock = some g ∨ w.heap.size ≤ g := by
    rcases hat with h | h
    · exact .inl h
    · refine .inr ?_
      rw [h]
      exact h0.size
  refine ⟨⟨_, h1, fun b hb => ?_, fun b hb hlt => ?_⟩, _, b2, Rdr.grow (S := rb :: bv.ownBlock.toList) (g := g) hr (h1.more fun i hi => ?_) (fun b hb => ?_) hg rfl r2⟩
  · rcases List.mem_cons.1 hb with rfl | hb
    · exact .inl rfl
    rcases List.mem_cons.1 hb with rfl | hb
    · exact .inr (Row.block r2 (g := b) rfl).1
    · exact .inr (Row.block hr.row (g := b) (by simpa using hb)).1
  · rcases List.mem_cons.1 hb with rfl | hb
    · exact ⟨_, _, hbw⟩
    rcases List.mem_cons.1 hb with rfl | hb
    · rcases hg with hg | hg
      · exact Row.cells hr.row hg
      · omega
    · exact Row.cells hr.row (g := b) (by simpa using hb)
  · rcases List.mem_cons.1 hi with rfl | hi
    · exact .inl (by simp)
    rcases List.mem_cons.1 hi with rfl | hi
    · rcases hg with hg | hg
      · exact .inl (by simp [hg])
      · exact .inr hg
    · exact .inl (by simp at hi ⊢; exact .inr hi)
  · rcases List.mem_cons.1 hb with rfl | hb
    · exact .inl hrb
    · exact .inr (by simpa using hb)
/-- Seven cells written, as a walk writes them. -/
theorem set7_eq (w : World) (g o : Nat) (v0 v1 v2 v3 v4 v5 v6 : Value) :
    ((((((w.setCell ⟨g, o, none⟩ v0).setCell ⟨g, o + 1, none⟩ v1).setCell ⟨g, o + 2, none⟩ v2).setCell ⟨g, o + 3, none⟩ v3).setCell ⟨g, o + 4, none⟩ v4).setCell ⟨g, o + 5, none⟩ v5).setCell ⟨g, o + 6, none⟩ v6 = w.setCells g o (#[v0, v1, v2, v3, v4, v5, v6] : Array Value).toList := by
  simp only [World.setCells, Nat.add_assoc, Nat.reduceAdd]
theorem begin_a {w1 w2 : World} {base rb g cap' n : Nat} {st k : Int} {bv bv' u0 u1 u2 u3 u4 u5 u6 : Value} {xs : List Value} (k0 : Bk w1 rb 43 (rcs st bv u0 u1 u2 u3 u4 u5 u6)) (hne : rb ≠ g)
    (hown : w1.ownsRow base 27 7 (.slice (some ⟨g, 0, none⟩) (n + 1) cap') (n + 1) (xs ++ Z7'.toList)) (hl : xs.length = n * 7) (hbv : bv' = .slice (some ⟨g, 0, none⟩) (n + 1) cap')
    (hw : w2 = ((((((((w1.setCell ⟨rb, 1, none⟩ bv').setCell ⟨g, n * 7, none⟩ (.int .i64 k)).setCell ⟨g, n * 7 + 1, none⟩ (.int .i64 0)).setCell ⟨g, n * 7 + 2, none⟩ (.complex .f64 0 0)).setCell ⟨g, n * 7 + 3, none⟩ (.string ⟨#[]⟩)).setCell ⟨g, n * 7 + 4, none⟩ (.int .i64 0)).setCell ⟨g, n * 7 + 5, none⟩ (.int .i64 0)).setCell ⟨g, n * 7 + 6, none⟩ (.slice none 0 0)).setCell ⟨rb, 0, none⟩ (.int .i64 1)) :
    Only [rb, g] w1 w2 ∧ Bk w2 rb 43 (rcs 1 bv' u0 u1 u2 u3 u4 u5 u6) ∧ w2.ownsRow base 27 7 bv' (n + 1) (xs ++ (tcs k 0 0 0 ⟨#[]⟩ 0 0 (.slice none 0 0)).toList) := by
  subst hbv
  rw [set7_eq] at hw
  subst hw
  refine ⟨?_, ?_, ?_⟩
  · exact (Only.sets (.inl (by simp)) _ _ ((Only.refl _ _).set (.inl (by simp)) _)).set (.inl (by simp)) _
  · exact Bk.set (Bk.only (k0.set 1 _) (Only.sets (S := [g]) (.inl (by simp)) _ _ (Only.refl _ _)) (by simpa using hne)) 0 _
  · refine Row.only (Row.last (Row.only hown ((Only.refl [rb] _).set (.inl (by simp)) _) ?_) rfl (by omega)) ((Only.refl [rb] _).set (.inl (by simp)) _) ?_
    all_goals
      intro b hb
      injection hb with hb
      simp at hb ⊢
      omega
theorem begin_b {w1 w2 : World} {base rb g cap' n : Nat} {st k : Int} {bv bv' u0 u1 u2 u3 u4 u5 u6 : Value} {xs : List Value} (k0 : Bk w1 rb 43 (rcs st bv u0 u1 u2 u3 u4 u5 u6)) (hne : rb ≠ g)
    (hown : w1.ownsRow base 27 7 (.slice (some ⟨g, 0, none⟩) (n + 1) cap') (n + 1) (xs ++ Z7'.toList)) (hl : xs.length = n * 7) (hbv : bv' = .slice (some ⟨g, 0, none⟩) (n + 1) cap')
    (hw : w2 = ((((((((w1.setCell ⟨g, n * 7, none⟩ (.int .i64 k)).setCell ⟨g, n * 7 + 1, none⟩ (.int .i64 0)).setCell ⟨g, n * 7 + 2, none⟩ (.complex .f64 0 0)).setCell ⟨g, n * 7 + 3, none⟩ (.string ⟨#[]⟩)).setCell ⟨g, n * 7 + 4, none⟩ (.int .i64 0)).setCell ⟨g, n * 7 + 5, none⟩ (.int .i64 0)).setCell ⟨g, n * 7 + 6, none⟩ (.slice none 0 0)).setCell ⟨rb, 1, none⟩ bv').setCell ⟨rb, 0, none⟩ (.int .i64 1)) :
    Only [rb, g] w1 w2 ∧ Bk w2 rb 43 (rcs 1 bv' u0 u1 u2 u3 u4 u5 u6) ∧ w2.ownsRow base 27 7 bv' (n + 1) (xs ++ (tcs k 0 0 0 ⟨#[]⟩ 0 0 (.slice none 0 0)).toList) := by
  subst hbv
  rw [set7_eq] at hw
  subst hw
  refine ⟨?_, ?_, ?_⟩
  · exact ((Only.sets (.inl (by simp)) _ _ (Only.refl _ _)).set (.inl (by simp)) _).set (.inl (by simp)) _
  · exact Bk.set (Bk.set (Bk.only k0 (Only.sets (S := [g]) (.inl (by simp)) _ _ (Only.refl _ _)) (by simpa using hne)) 1 _) 0 _
  · refine Row.only (Row.only (Row.last hown rfl (by omega)) ((Only.refl [rb] _).set (.inl (by simp)) _) ?_) ((Only.refl [rb] _).set (.inl (by simp)) _) ?_
    all_goals
      intro b hb
      injection hb with hb
      simp at hb ⊢
      omega
theorem info_term : (Tryz.prog.info? 27).map (fun i => (i.zero, i.size, i.bytes)) = some (some (.agg Z7'), 7, 88) := by kernel_rfl
theorem grown_facts {w w1 : World} {base rb n g cap' : Nat} {bv : Value} {xs : List Value} {cs : Array Value} (hb : Bk w rb 43 cs) (hrow : w.ownsRow base 27 7 bv n xs) (hrb : rb < base)
    (hown : w1.ownsRow base 27 7 (.slice (some ⟨g, 0, none⟩) (n + 1) cap') (n + 1) (xs ++ Z7'.toList)) (hgrow : w.grownBy w1 bv.ownBlock) :
    Bk w1 rb 43 cs ∧ rb ≠ g ∧ (∀ j, w1.frozen? ⟨g, j, none⟩ = false) ∧ Only bv.ownBlock.toList w w1 ∧ (∀ j, j < 7 → ∃ u, w1.cell? ⟨g, n * 7 + j, none⟩ = some u) := by
  have o1 := Only.of_grown hgrow
  refine ⟨hb.only o1 fun hm => ?_, ?_, Row.free hown, o1, fun j hj => ?_⟩
  · have := (Row.block hrow (g := rb) (by simpa using hm)).1
    omega
  · have := (Row.block hown (g := g) rfl).1
    omega
  · have hl : n * 7 + j < (xs ++ Z7'.toList).length := by
      rw [hown.1]; omega
    exact ⟨_, Row.cell hown (n * 7 + j) _ (List.getElem?_eq_getElem hl)⟩
set_option maxHeartbeats 4000000 in
theorem begin_yes (w : World) (base rb : Nat) (F : Nat → Prop) (k st : Int) (bv u0 u1 u2 u3 u4 u5 u6 : Value) (ps : List (Opn × Value)) (hb : Bk w rb 43 (rcs st bv u0 u1 u2 u3 u4 u5 u6)) (hst : st ≤ 1) (hr : Rdr w base F bv ps) (hl : ps.length ≤ 262144) (hrb : rb < base) :
    Calls Tryz.prog 37 #[.pointer (some ⟨rb, 0, none⟩), .int .i64 k] w fun e w' => e = .returned (.bool true) ∧ Low base rb w w' ∧ ∃ bv', Bk w' rb 43 (rcs 1 bv' u0 u1 u2 u3 u4 u5 u6) ∧ Rdr w' base F bv' ((⟨k, []⟩, .slice none 0 0) :: ps) := by
  obtain ⟨c0, c1, c2, c3, c4, c5, c6, c7, c8⟩ := hb.nine
  have cf := hb.free
  have HB := Lib.hid hb
  have HR := Lib.hid hr
  obtain ⟨n, A, cap, hbv⟩ : ∃ n A cap, bv = .slice A n cap := by
    rcases hr.row.2 with ⟨h, _⟩ | ⟨g, cap, cur, h, _⟩
    · exact ⟨_, _, _, h⟩
    · exact ⟨_, _, _, h⟩
  have hn : n = ps.length := by
    rcases hr.row.2 with ⟨h, h0⟩ | ⟨g, cap, cur, h, _⟩
    · rw [hbv] at h; injection h; omega
    · rw [hbv] at h; injection h
  subst hn
  subst hbv
  have rs := store_com
  have e2 : decide (1 < st) = false := by simp; omega
  have R1 : ∀ o, (w.alloc o).ownsRow base 27 7 (.slice A ps.length cap) ps.length (ocs ps) := fun o => Row.alloc hr.row o
  obtain ⟨i, hi, hz, hz1, hz2⟩ := info_parts info_term
  have hbz : ∀ o, base ≤ (w.alloc o).heap.size := fun o => by have := hr.le; simp; omega
  have c1a : ∀ o, (w.alloc o).cell? ⟨rb, 1, none⟩ = some (.slice A ps.length cap) := fun o => (HB.out.alloc o).cell0 rfl
  have h63 : ps.length + 1 ≤ maxLen := by unfold maxLen; omega
  have q1 : ((ps.length : Int) < (ps.length : Int) + 1) := by omega
  clear hb hr
  go_enter Tryz.func37, Tryz.ntmps37
  go_wp2_with fail
  go_region_law ((refine step_append_lies _ (by rfl) _ _ _ (by rfl) base 27 i _ 7 88 Tryz.underlying25 hi hz hz1 hz2 rfl (by omega) _ ps.length (ocs ps) (by rfl) (R1 _) _ 1 1 Z7'.toList (by rfl) rfl (World.news_of_block (Bk.made _ _ _)) (by decide) (by omega) h63 (by omega) (hbz _) _ rfl ?_; intro g cap' w1 hown hgrow hat hlt; obtain ⟨k0, k1, k2, k3, k4⟩ := grown_facts (HB.out.alloc _).drew (Row.drew (R1 _)) hrb hown hgrow; obtain ⟨z0, x0⟩ := k4 0 (by omega); obtain ⟨z1, x1⟩ := k4 1 (by omega); obtain ⟨z2, x2⟩ := k4 2 (by omega); obtain ⟨z3, x3⟩ := k4 3 (by omega); obtain ⟨z4, x4⟩ := k4 4 (by omega); obtain ⟨z5, x5⟩ := k4 5 (by omega); obtain ⟨z6, x6⟩ := k4 6 (by omega); simp only [Nat.add_zero] at x0; obtain ⟨d0, d1, d2, d3, d4, d5, d6, d7, d8⟩ := k0.nine; have df := k0.free; have K0 := Lib.hid k0; have K3 := Lib.hid k3; have HO := Lib.hid hown; clear k0 k4))
  all_goals
    go_wp2_with fail
    go_ret
    refine ⟨rfl, begin_end (cap' := cap') HB.out HR.out K3.out hat ?_ hrb⟩
    first
      | exact begin_a K0.out k1 HO.out (ocs_len ps) rfl (by with_reducible rfl)
      | exact begin_b K0.out k1 HO.out (ocs_len ps) rfl (by with_reducible rfl)
end Go.Proofs.YtlpafnibcmcjgaaGreatDoor
