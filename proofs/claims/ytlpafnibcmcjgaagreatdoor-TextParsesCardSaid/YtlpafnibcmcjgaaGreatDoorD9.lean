/- The document's Term: a row of whole terms in memory. -/
import Derived.Test.YtlpafnibcmcjgaaGreatDoorD8
import Derived.Test.YtlpafnibcmcjgaaGreatDoorMl
namespace Go.Proofs.YtlpafnibcmcjgaaGreatDoor
open Go.RowKit

/-- The terms of a tuple or a list that is read: they lie in a row of the call's own. -/
structure Out (w : World) (base : Nat) (F : Nat → Prop) (sl : Value) (l : List T) (xs : List Value) : Prop where
  le : base ≤ w.heap.size
  fr : ∀ b, F b → base ≤ b ∧ b < w.heap.size
  row : w.ownsRow base 27 7 sl l.length xs
  its : Its w F l xs
  free : ∀ b, sl.ownBlock = some b → ¬ F b
theorem Out.only {S : List Nat} {w w' : World} {base : Nat} {F : Nat → Prop} {sl : Value} {l : List T} {xs : List Value} (h : Out w base F sl l xs) (o : Only S w w') (hS : ∀ b ∈ S, b < base ∨ w.heap.size ≤ b) : Out w' base F sl l xs := by
  have hSF : ∀ b ∈ S, ¬ F b := fun b hb hf => by
    have := h.fr b hf
    rcases hS b hb with h1 | h1 <;> omega
  refine ⟨Nat.le_trans h.le o.size, fun b hb => ⟨(h.fr b hb).1, Nat.lt_of_lt_of_le (h.fr b hb).2 o.size⟩, Row.only h.row o fun g hg hm => ?_, Its.move (fun t sl => TV.only o hSF (fun _ h => h) t sl) h.its, h.free⟩
  have := Row.block h.row hg
  rcases hS g hm with h1 | h1 <;> omega
/-- What the append leaves: the row with one more. -/
theorem Out.snoc {w w1 : World} {base g : Nat} {F Fx : Nat → Prop} {sl sl' slx : Value} {l : List T} {xs : List Value} {t : T} (h : Out w base F sl l xs) (ht : TV w Fx t slx) (hFx : ∀ b, Fx b → base ≤ b ∧ b < w.heap.size ∧ sl.ownBlock ≠ some b)
    (o : Only sl.ownBlock.toList w w1) (hg : sl.ownBlock = some g ∨ w.heap.size ≤ g) (hb : sl'.ownBlock = some g) (hr : w1.ownsRow base 27 7 sl' (l.length + 1) (xs ++ (t.cs slx).toList)) :
    Out w1 base (fun b => F b ∨ Fx b) sl' (l ++ [t]) (xs ++ (t.cs slx).toList) := by
  have hS1 : ∀ b ∈ sl.ownBlock.toList, ¬ F b := fun b hb => h.free b (by simpa using hb)
  have hS2 : ∀ b ∈ sl.ownBlock.toList, ¬ Fx b := fun b hb hf => (hFx b hf).2.2 (by simpa using hb)
  refine ⟨Nat.le_trans h.le o.size, fun b hb => ?_, by rw [List.length_append, List.length_singleton]; exact hr, ?_, fun b hb2 hf => ?_⟩
  · rcases hb with hb | hb
    · exact ⟨(h.fr b hb).1, Nat.lt_of_lt_of_le (h.fr b hb).2 o.size⟩
    · exact ⟨(hFx b hb).1, Nat.lt_of_lt_of_le (hFx b hb).2.1 o.size⟩
  · exact Its.snoc (TV.only o hS2 (fun _ h => .inr h) t _ ht) (Its.move (fun t sl => TV.only o hS1 (fun _ h => .inl h) t sl) h.its)
  · rw [hb] at hb2
    injection hb2 with hb2
    subst hb2
    rcases hg with hg | hg
    · rcases hf with hf | hf
      · exact h.free g hg hf
      · exact (hFx g hf).2.2 hg
    · rcases hf with hf | hf
      · have := (h.fr g hf).2; omega
      · have := (hFx g hf).2.1; omega
theorem Out.whole {w : World} {base : Nat} {F : Nat → Prop} {sl : Value} {l : List T} {xs : List Value} (h : Out w base F sl l xs) (k : Int) : ∃ F' : Nat → Prop, (∀ b, F' b → base ≤ b ∧ b < w.heap.size) ∧ TV w F' (.tup k l) sl := by
  refine ⟨fun b => F b ∨ sl.ownBlock = some b, fun b hb => ?_, ?_⟩
  · rcases hb with hb | hb
    · exact h.fr b hb
    · exact Row.block h.row hb
  · simp only [TV]
    rcases h.row.2 with ⟨hv, h0⟩ | ⟨b, c, cur, hv, hb, hg', h3, h4, h5, h6⟩
    · exact ⟨none, 0, by rw [hv, h0], by omega, by omega, .inl (List.length_eq_zero_iff.1 h0)⟩
    · refine ⟨some ⟨b, 0, none⟩, c, hv, h3, h4, .inr ⟨b, 0, rfl, Bk.lt (t := 27) (cs := cur) hg', .inr (by rw [hv]; rfl), ?_⟩⟩
      have hrow := h.row
      subst hv
      refine Its.tvs (Its.move (fun t sl => TV.only (S := []) (Only.refl _ _) (by simp) (fun b hb => .inl hb) t sl) h.its) fun j u hj => ?_
      rw [Nat.zero_add]
      exact Row.cell hrow j u hj
theorem Out.none (w : World) {base : Nat} (h : base ≤ w.heap.size) : Out w base (fun _ => False) (.slice none 0 0) [] [] := ⟨h, fun _ h => h.elim, ⟨rfl, .inl ⟨rfl, rfl⟩⟩, rfl, fun _ _ h => h⟩
theorem Out.slice {w : World} {base : Nat} {F : Nat → Prop} {sl : Value} {l : List T} {xs : List Value} (h : Out w base F sl l xs) : ∃ A c, sl = .slice A l.length c := by
  rcases h.row.2 with ⟨h1, h0⟩ | ⟨g, cap, cur, h1, _⟩
  · exact ⟨Option.none, 0, by rw [h1, h0]⟩
  · exact ⟨_, _, h1⟩

/-! ### What Term answers -/
def TermE (s : ByteArray) (i : Nat) (w w' : World) (e : Ending) : Prop :=
  (∃ t n sl F, t.Good ∧ e = .returned (.tuple #[.agg (tcs t.k t.n t.x t.y t.S t.a t.b sl), .int .i64 (n : Nat), .int .i64 (-1)]) ∧ i < n ∧ n ≤ s.size ∧ (∀ b, F b → w.heap.size ≤ b ∧ b < w'.heap.size) ∧ TV w' F t sl ∧ ∀ stk, run s (.go stk 0) i = run s (put stk t) n) ∨
  (∃ bad : Nat, e = .returned (.tuple #[.agg Z7, .int .i64 0, .int .i64 bad]) ∧ ∀ stk, run s (.go stk 0) i = .error bad)
/-- The term of a token may be. -/
theorem tk_good {s : ByteArray} {j : Nat} {t : T} (hs : s.size ≤ 262144) (h : tkAt s j = .term t) : t.Good ∧ ∀ k l, t ≠ .tup k l := by
  unfold tkAt at h
  split at h
  · cases h
  · split at h
    · cases h
    · split at h
      · rename_i u hu
        injection h with h
        subst h
        have := lf_raw (s.extract j (fin s j))
        rw [hu] at this
        cases hr : rawL (s.extract j (fin s j)) with
        | none => rw [hr] at this; cases this
        | some v =>
          rw [hr] at this
          simp only [Option.bind_some] at this
          split at this
          · injection this with this
            subst this
            exact raw_good (ext_le hs) hr
          · cases this
      · cases h
theorem put7 {W W3 : World} {b : Nat} {t2 : TypeId} {q0 q1 q2 q3 q4 q5 q6 v0 v1 v2 v3 v4 v5 v6 : Value} (B2 : Bk W b t2 #[q0, q1, q2, q3, q4, q5, q6]) (hw : W3 = ((((((W.setCell ⟨b, 0, none⟩ (v0)).setCell ⟨b, 1, none⟩ (v1)).setCell ⟨b, 2, none⟩ (v2)).setCell ⟨b, 3, none⟩ (v3)).setCell ⟨b, 4, none⟩ (v4)).setCell ⟨b, 5, none⟩ (v5)).setCell ⟨b, 6, none⟩ (v6)) : Bk W3 b t2 #[v0, v1, v2, v3, v4, v5, v6] ∧ Only [b] W W3 := by
  have b1 := B2.setTo 0 v0 #[v0, q1, q2, q3, q4, q5, q6] rfl
  have b2 := b1.setTo 1 v1 #[v0, v1, q2, q3, q4, q5, q6] rfl
  have b3 := b2.setTo 2 v2 #[v0, v1, v2, q3, q4, q5, q6] rfl
  have b4 := b3.setTo 3 v3 #[v0, v1, v2, v3, q4, q5, q6] rfl
  have b5 := b4.setTo 4 v4 #[v0, v1, v2, v3, v4, q5, q6] rfl
  have b6 := b5.setTo 5 v5 #[v0, v1, v2, v3, v4, v5, q6] rfl
  have b7 := b6.setTo 6 v6 #[v0, v1, v2, v3, v4, v5, v6] rfl
  have hm : b ∈ [b] ∨ W.heap.size ≤ b := .inl (by simp)
  subst hw
  exact ⟨b7, ((((((((Only.refl [b] W).set (p := ⟨b, 0, none⟩) hm v0).set (p := ⟨b, 1, none⟩) hm v1).set (p := ⟨b, 2, none⟩) hm v2).set (p := ⟨b, 3, none⟩) hm v3).set (p := ⟨b, 4, none⟩) hm v4).set (p := ⟨b, 5, none⟩) hm v5).set (p := ⟨b, 6, none⟩) hm v6)⟩
set_option maxRecDepth 100000 in
set_option maxHeartbeats 400000 in
theorem term_t (s : ByteArray) (i : Nat) (t : T) (w : World) (hs : s.size ≤ 262144) (hi : i ≤ s.size) (hj : nxt s i < s.size) (h : tkAt s (nxt s i) = .term t) :
    Calls Tryz.prog 19 #[.string s, .int .i64 i] w fun e w' => TermE s i w w' e ∧ Only [] w w' := by
  have rs := store_com
  obtain ⟨hg, hl⟩ := tk_good hs h
  have R := Lib.hid (fun stk => m_term hj h stk)
  have K := Lib.hid (fun w => at_t s i t i w hs hi rfl hj h)
  have hge := nxt_ge s i
  have hfb := fin_bd hj
  have HF : Hid (i < fin s (nxt s i) ∧ fin s (nxt s i) ≤ s.size) := Lib.hid (by omega)
  have HG := Lib.hid (And.intro hg hl)
  generalize nxt s i = j at *
  generalize fin s j = f at *
  have B0 := Lib.hid ((Bk.made w 27 Z7).alloc (.cells Z7 27))
  have O0 := Lib.hid (((Only.refl [] w).alloc (.cells Z7 27)).alloc (.cells Z7 27))
  clear hj h hg hl hfb hge
  go_enter Tryz.func19, Tryz.ntmps19
  go_wp2_with fail
  (with_reducible refine (K.out _).mono ?_)
  rintro e1 w1 ⟨rfl, o1⟩
  have B1 := Lib.hid (B0.out.only o1 (by simp))
  have O1 := Lib.hid (O0.out.trans o1 (by simp))
  have L1 := B1.out.lt
  clear o1
  obtain ⟨z0, z1, z2, z3, z4, z5, z6⟩ := B1.out.seven
  have zf := B1.out.free
  have B2 := Lib.hid (Bk.made w1 52 (tkT t j f))
  obtain ⟨y0, y1, y2, y3, y4, y5, y6, y7, y8, y9, y10⟩ := B2.out.eleven
  go_wp2_with fail
  go_region
  go_wp2_with fail
  obtain ⟨B7, O7⟩ := put7 (v0 := (.int .i64 t.k)) (v1 := (.int .i64 t.n)) (v2 := (.complex .f64 t.x t.y)) (v3 := (.string t.S)) (v4 := (.int .i64 t.a)) (v5 := (.int .i64 t.b)) (v6 := (.slice none 0 0)) B1.out (Eq.refl _)
  clear z0 z1 z2 z3 z4 z5 z6 zf y0 y1 y2 y3 y4 y5 y6 y7 y8 y9 y10
  generalize ((((((w1.setCell ⟨w.heap.size, 0, none⟩ (.int .i64 t.k)).setCell ⟨w.heap.size, 1, none⟩ (.int .i64 t.n)).setCell ⟨w.heap.size, 2, none⟩ (.complex .f64 t.x t.y)).setCell ⟨w.heap.size, 3, none⟩ (.string t.S)).setCell ⟨w.heap.size, 4, none⟩ (.int .i64 t.a)).setCell ⟨w.heap.size, 5, none⟩ (.int .i64 t.b)).setCell ⟨w.heap.size, 6, none⟩ (.slice none 0 0) = W7 at *
  have B8 := (B7.alloc (.cells (tkT t j f) 52)).drew
  have O8 := ((O1.out.trans O7 (fun i hi => .inr (by rw [List.mem_singleton.1 hi]; omega))).alloc (.cells (tkT t j f) 52)).drew
  generalize (W7.alloc (.cells (tkT t j f) 52)).drew = W8 at *
  obtain ⟨z0, z1, z2, z3, z4, z5, z6⟩ := B8.seven
  exact bodyPost_ret (v := .tuple #[.agg (tcs t.k t.n t.x t.y t.S t.a t.b (.slice none 0 0)), .int .i64 (f : Nat), .int .i64 (-1)]) (by simp [results, Tryz.results19, go_sem, z0, z1, z2, z3, z4, z5, z6]) rfl ⟨.inl ⟨t, f, .slice none 0 0, fun _ => False, HG.out.1, rfl, HF.out.1, HF.out.2, fun _ h => h.elim, (TV.leaf HG.out.2).2 rfl, R.out⟩, O8⟩
set_option maxRecDepth 100000 in
set_option maxHeartbeats 400000 in
theorem term_x (s : ByteArray) (i : Nat) (w : World) (hs : s.size ≤ 262144) (hi : i ≤ s.size) (hxy : ∀ b, nxt s i < s.size → tkAt s (nxt s i) = .sign b → b.toNat ≠ 123 ∧ b.toNat ≠ 91) (ht : ∀ t, nxt s i < s.size → tkAt s (nxt s i) ≠ .term t) :
    Calls Tryz.prog 19 #[.string s, .int .i64 i] w fun e w' => TermE s i w w' e ∧ Only [] w w' := by
  have rs := store_com
  have R : Hid (∀ stk, run s (.go stk 0) i = .error (nxt s i)) := Lib.hid (fun stk => by
    by_cases hj : nxt s i < s.size
    · cases htk : tkAt s (nxt s i) with
      | bad => exact m_bad hj htk stk 0
      | term t => exact absurd htk (ht t hj)
      | sign b => exact m_sign0 hj htk (hxy b hj htk) stk
    · exact m_end hj hi stk 0)
  have K := Lib.hid (fun w => at_x s i (nxt s i) i w hs hi rfl rfl 123 91 hxy ht)
  generalize nxt s i = j at *
  have B0 := Lib.hid ((Bk.made w 27 Z7).alloc (.cells Z7 27))
  have C0 := Lib.hid (Bk.madeAt (w := w.alloc (.cells Z7 27)) (t := 27) (cs := Z7) (b := w.heap.size + 1) (by simp))
  have O0 := Lib.hid (((Only.refl [] w).alloc (.cells Z7 27)).alloc (.cells Z7 27))
  clear hxy ht
  go_enter Tryz.func19, Tryz.ntmps19
  go_wp2_with fail
  (with_reducible refine (K.out _).mono ?_)
  rintro e1 w1 ⟨⟨kd, sg, k, n, X, Y, S, a, b, e, rfl, hk2, hk1⟩, o1⟩
  have B1 := Lib.hid (B0.out.only o1 (by simp))
  have C1 := Lib.hid (C0.out.only o1 (by simp))
  have O1 := Lib.hid (O0.out.trans o1 (by simp))
  have L1 := B1.out.lt
  have L2 := C1.out.lt
  have hk2' : (kd == 2) = false := beq_eq_false_iff_ne.2 hk2
  clear o1 hk2
  obtain ⟨z0, z1, z2, z3, z4, z5, z6⟩ := B1.out.seven
  have zf := B1.out.free
  obtain ⟨x0, x1, x2, x3, x4, x5, x6⟩ := C1.out.seven
  have B2 := Lib.hid (Bk.made w1 52 (tks kd sg k n X Y S a b (.slice none 0 0) j e))
  obtain ⟨y0, y1, y2, y3, y4, y5, y6, y7, y8, y9, y10⟩ := B2.out.eleven
  have fin : Hid (∀ W8, Bk W8 w.heap.size 27 Z7 → Only [] w W8 → TermE s i w W8 (.returned (.tuple #[.agg Z7, .int .i64 0, .int .i64 j])) ∧ Only [] w W8) := Lib.hid (fun W8 _ o => ⟨.inr ⟨j, rfl, R.out⟩, o⟩)
  rcases hk1 with hk1 | ⟨hk1, hx, hy⟩
  · have g1 : (kd != 1) = true := by rw [bne, beq_eq_false_iff_ne.2 hk1]; rfl
    clear hk1
    go_wp2_with fail
    go_region
    go_wp2_with fail
    obtain ⟨B7, O7⟩ := put7 (v0 := (.int .i64 0)) (v1 := (.int .i64 0)) (v2 := (.complex .f64 0 0)) (v3 := (.string ⟨#[]⟩)) (v4 := (.int .i64 0)) (v5 := (.int .i64 0)) (v6 := (.slice none 0 0)) B1.out (Eq.refl _)
    clear z0 z1 z2 z3 z4 z5 z6 zf y0 y1 y2 y3 y4 y5 y6 y7 y8 y9 y10 x0 x1 x2 x3 x4 x5 x6
    generalize ((((((w1.setCell ⟨w.heap.size, 0, none⟩ (.int .i64 0)).setCell ⟨w.heap.size, 1, none⟩ (.int .i64 0)).setCell ⟨w.heap.size, 2, none⟩ (.complex .f64 0 0)).setCell ⟨w.heap.size, 3, none⟩ (.string ⟨#[]⟩)).setCell ⟨w.heap.size, 4, none⟩ (.int .i64 0)).setCell ⟨w.heap.size, 5, none⟩ (.int .i64 0)).setCell ⟨w.heap.size, 6, none⟩ (.slice none 0 0) = W7 at *
    have B8 := (B7.alloc (.cells (tks kd sg k n X Y S a b (.slice none 0 0) j e) 52)).drew
    have O8 := ((O1.out.trans O7 (fun i hi => .inr (by rw [List.mem_singleton.1 hi]; omega))).alloc (.cells (tks kd sg k n X Y S a b (.slice none 0 0) j e) 52)).drew
    generalize (W7.alloc (.cells (tks kd sg k n X Y S a b (.slice none 0 0) j e) 52)).drew = W8 at *
    obtain ⟨z0, z1, z2, z3, z4, z5, z6⟩ := B8.seven
    exact bodyPost_ret (v := .tuple #[.agg Z7, .int .i64 0, .int .i64 j]) (by simp [results, Tryz.results19, go_sem, z0, z1, z2, z3, z4, z5, z6]) rfl (fin.out W8 B8 O8)
  · subst hk1
    have g1 : ((1 : Int) != 1) = false := rfl
    have g2 : (sg != 123) = true := bne_iff_ne.2 hx
    have g3 : (sg != 91) = true := bne_iff_ne.2 hy
    clear hx hy
    go_wp2_with fail
    go_region
    go_wp2_with fail
    obtain ⟨B7, O7⟩ := put7 (v0 := (.int .i64 0)) (v1 := (.int .i64 0)) (v2 := (.complex .f64 0 0)) (v3 := (.string ⟨#[]⟩)) (v4 := (.int .i64 0)) (v5 := (.int .i64 0)) (v6 := (.slice none 0 0)) B1.out (Eq.refl _)
    clear z0 z1 z2 z3 z4 z5 z6 zf y0 y1 y2 y3 y4 y5 y6 y7 y8 y9 y10 x0 x1 x2 x3 x4 x5 x6
    generalize ((((((w1.setCell ⟨w.heap.size, 0, none⟩ (.int .i64 0)).setCell ⟨w.heap.size, 1, none⟩ (.int .i64 0)).setCell ⟨w.heap.size, 2, none⟩ (.complex .f64 0 0)).setCell ⟨w.heap.size, 3, none⟩ (.string ⟨#[]⟩)).setCell ⟨w.heap.size, 4, none⟩ (.int .i64 0)).setCell ⟨w.heap.size, 5, none⟩ (.int .i64 0)).setCell ⟨w.heap.size, 6, none⟩ (.slice none 0 0) = W7 at *
    have B8 := (B7.alloc (.cells (tks 1 sg k n X Y S a b (.slice none 0 0) j e) 52)).drew
    have O8 := ((O1.out.trans O7 (fun i hi => .inr (by rw [List.mem_singleton.1 hi]; omega))).alloc (.cells (tks 1 sg k n X Y S a b (.slice none 0 0) j e) 52)).drew
    generalize (W7.alloc (.cells (tks 1 sg k n X Y S a b (.slice none 0 0) j e) 52)).drew = W8 at *
    obtain ⟨z0, z1, z2, z3, z4, z5, z6⟩ := B8.seven
    exact bodyPost_ret (v := .tuple #[.agg Z7, .int .i64 0, .int .i64 j]) (by simp [results, Tryz.results19, go_sem, z0, z1, z2, z3, z4, z5, z6]) rfl (fin.out W8 B8 O8)
theorem app_facts {w3 w4 : World} {b9 Bs g cap' : Nat} {k : Int} {F Fx : Nat → Prop} {sl slt : Value} {l : List T} {xs : List Value} {t : T} {o1 o2 : Obj} (h9 : Bk w3 b9 27 (tcs k 0 0 0 ⟨#[]⟩ 0 0 sl)) (hO : Out w3 Bs F sl l xs) (hlt : b9 < Bs) (ht : TV w3 Fx t slt) (hFx : ∀ b, Fx b → Bs ≤ b ∧ b < w3.heap.size ∧ sl.ownBlock ≠ some b)
    (hown : w4.ownsRow Bs 27 7 (.slice (some ⟨g, 0, none⟩) (l.length + 1) cap') (l.length + 1) (xs ++ (t.cs slt).toList)) (hgrow : ((w3.alloc o1).alloc o2).grownBy w4 sl.ownBlock) (hat : sl.ownBlock = some g ∨ g = ((w3.alloc o1).alloc o2).heap.size) :
    Bk w4 b9 27 (tcs k 0 0 0 ⟨#[]⟩ 0 0 sl) ∧ Out w4 Bs (fun b => F b ∨ Fx b) (.slice (some ⟨g, 0, none⟩) (l.length + 1) cap') (l ++ [t]) (xs ++ (t.cs slt).toList) ∧ ∃ S, Only S w3 w4 ∧ ∀ b ∈ S, Bs ≤ b := by
  have h0 : Only [] w3 ((w3.alloc o1).alloc o2) := ((Only.refl [] w3).alloc o1).alloc o2
  have h1 := Only.of_grown hgrow
  have hS : ∀ b ∈ sl.ownBlock.toList, Bs ≤ b := fun b hb => (Row.block hO.row (g := b) (by simpa using hb)).1
  have h2 : Only sl.ownBlock.toList w3 w4 := (h0.more (by simp)).trans h1 (fun i hi => .inl hi)
  refine ⟨h9.only h2 fun hm => by have := hS _ hm; omega, Out.snoc (hO.only h0 (by simp)) (ht.same h0) (fun b hb => ⟨(hFx b hb).1, Nat.lt_of_lt_of_le (hFx b hb).2.1 h0.size, (hFx b hb).2.2⟩) h1 ?_ rfl hown, _, h2, hS⟩
  rcases hat with h | h
  · exact .inl h
  · exact .inr (by rw [h]; exact Nat.le_refl _)
theorem put11 {W W3 : World} {b : Nat} {t2 : TypeId} {q0 q1 q2 q3 q4 q5 q6 q7 q8 q9 q10 v0 v1 v2 v3 v4 v5 v6 v7 v8 v9 v10 : Value} (B2 : Bk W b t2 #[q0, q1, q2, q3, q4, q5, q6, q7, q8, q9, q10])
    (hw : W3 = ((((((((((W.setCell ⟨b, 0, none⟩ v0).setCell ⟨b, 1, none⟩ v1).setCell ⟨b, 2, none⟩ v2).setCell ⟨b, 3, none⟩ v3).setCell ⟨b, 4, none⟩ v4).setCell ⟨b, 5, none⟩ v5).setCell ⟨b, 6, none⟩ v6).setCell ⟨b, 7, none⟩ v7).setCell ⟨b, 8, none⟩ v8).setCell ⟨b, 9, none⟩ v9).setCell ⟨b, 10, none⟩ v10) :
    Bk W3 b t2 #[v0, v1, v2, v3, v4, v5, v6, v7, v8, v9, v10] ∧ Only [b] W W3 := by
  have b1 := B2.setTo 0 v0 #[v0, q1, q2, q3, q4, q5, q6, q7, q8, q9, q10] rfl
  have b2 := b1.setTo 1 v1 #[v0, v1, q2, q3, q4, q5, q6, q7, q8, q9, q10] rfl
  have b3 := b2.setTo 2 v2 #[v0, v1, v2, q3, q4, q5, q6, q7, q8, q9, q10] rfl
  have b4 := b3.setTo 3 v3 #[v0, v1, v2, v3, q4, q5, q6, q7, q8, q9, q10] rfl
  have b5 := b4.setTo 4 v4 #[v0, v1, v2, v3, v4, q5, q6, q7, q8, q9, q10] rfl
  have b6 := b5.setTo 5 v5 #[v0, v1, v2, v3, v4, v5, q6, q7, q8, q9, q10] rfl
  have b7 := b6.setTo 6 v6 #[v0, v1, v2, v3, v4, v5, v6, q7, q8, q9, q10] rfl
  have b8 := b7.setTo 7 v7 #[v0, v1, v2, v3, v4, v5, v6, v7, q8, q9, q10] rfl
  have b9 := b8.setTo 8 v8 #[v0, v1, v2, v3, v4, v5, v6, v7, v8, q9, q10] rfl
  have b10 := b9.setTo 9 v9 #[v0, v1, v2, v3, v4, v5, v6, v7, v8, v9, q10] rfl
  have b11 := b10.setTo 10 v10 #[v0, v1, v2, v3, v4, v5, v6, v7, v8, v9, v10] rfl
  have hm : b ∈ [b] ∨ W.heap.size ≤ b := .inl (by simp)
  subst hw
  exact ⟨b11, (((((((((((Only.refl [b] W).set (p := ⟨b, 0, none⟩) hm v0).set (p := ⟨b, 1, none⟩) hm v1).set (p := ⟨b, 2, none⟩) hm v2).set (p := ⟨b, 3, none⟩) hm v3).set (p := ⟨b, 4, none⟩) hm v4).set (p := ⟨b, 5, none⟩) hm v5).set (p := ⟨b, 6, none⟩) hm v6).set (p := ⟨b, 7, none⟩) hm v7).set (p := ⟨b, 8, none⟩) hm v8).set (p := ⟨b, 9, none⟩) hm v9).set (p := ⟨b, 10, none⟩) hm v10⟩
end Go.Proofs.YtlpafnibcmcjgaaGreatDoor
