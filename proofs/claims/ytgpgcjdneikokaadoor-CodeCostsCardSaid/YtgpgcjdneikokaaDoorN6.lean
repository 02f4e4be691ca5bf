/- How heights are found: reach, through. -/
import Derived.Test.YtgpgcjdneikokaaDoorN5
import Derived.Test.YtgpgcjdneikokaaDoorTail
namespace Go.Proofs.YtgpgcjdneikokaaDoor
open Go.RowKit

/-- What is found of the small module's function, in memory. -/
structure Fl (w : World) (fl fb cb hb wb n : Nat) (H V : Array Value) (nx : Int) : Prop where
  b : Bk w fl 67 #[.string ⟨#[109]⟩, .slice (some ⟨fb, 0, none⟩) 1 1, .slice (some ⟨cb, 0, none⟩) n 2, .slice (some ⟨hb, 0, none⟩) n n, .slice (some ⟨wb, 0, none⟩) n n, .int .i64 nx]
  h : Bk w hb 3 H
  s : Bk w wb 4 V
  m : Sm w fb cb n
section
variable {w : World} {fl fb cb hb wb n : Nat} {H V : Array Value} {nx : Int}
theorem Fl.apart (h : Fl w fl fb cb hb wb n H V nx) : fl ≠ hb ∧ fl ≠ wb ∧ hb ≠ wb ∧ fb ≠ fl ∧ fb ≠ hb ∧ fb ≠ wb ∧ cb ≠ fl ∧ cb ≠ hb ∧ cb ≠ wb :=
  ⟨h.b.apart h.h (by decide), h.b.apart h.s (by decide), h.h.apart h.s (by decide), h.m.f.apart h.b (by decide), h.m.f.apart h.h (by decide), h.m.f.apart h.s (by decide), h.m.c.apart h.b (by decide), h.m.c.apart h.h (by decide), h.m.c.apart h.s (by decide)⟩
theorem Fl.same {w' : World} (h : Fl w fl fb cb hb wb n H V nx) (o : Only [] w w') : Fl w' fl fb cb hb wb n H V nx := ⟨h.b.only o (by simp), h.h.only o (by simp), h.s.only o (by simp), h.m.same o⟩
theorem Fl.fs (h : Fl w fl fb cb hb wb n H V nx) : w.cell? ⟨fl, 0, none⟩ = some (.string ⟨#[109]⟩) ∧ w.cell? ⟨fl, 1, none⟩ = some (.slice (some ⟨fb, 0, none⟩) 1 1) ∧ w.cell? ⟨fl, 2, none⟩ = some (.slice (some ⟨cb, 0, none⟩) n 2) ∧ w.cell? ⟨fl, 3, none⟩ = some (.slice (some ⟨hb, 0, none⟩) n n) ∧ w.cell? ⟨fl, 4, none⟩ = some (.slice (some ⟨wb, 0, none⟩) n n) ∧ w.cell? ⟨fl, 5, none⟩ = some (.int .i64 nx) :=
  ⟨h.b.cell0 rfl, h.b.cell0 rfl, h.b.cell0 rfl, h.b.cell0 rfl, h.b.cell0 rfl, h.b.cell0 rfl⟩
theorem Fl.setH (h : Fl w fl fb cb hb wb n H V nx) (i : Nat) (v : Value) : Fl (w.setCell ⟨hb, i, none⟩ v) fl fb cb hb wb n (H.setIfInBounds i v) V nx :=
  have ⟨a1, _, a3, _, a5, _, _, a8, _⟩ := h.apart
  ⟨h.b.away (p := ⟨hb, i, none⟩) a1 v, h.h.set i v, h.s.away (p := ⟨hb, i, none⟩) (Ne.symm a3) v, ⟨h.m.f.away (p := ⟨hb, i, none⟩) a5 v, h.m.c.away (p := ⟨hb, i, none⟩) a8 v⟩⟩
theorem Fl.setV (h : Fl w fl fb cb hb wb n H V nx) (i : Nat) (v : Value) : Fl (w.setCell ⟨wb, i, none⟩ v) fl fb cb hb wb n H (V.setIfInBounds i v) nx :=
  have ⟨_, a2, a3, _, _, a6, _, _, a9⟩ := h.apart
  ⟨h.b.away (p := ⟨wb, i, none⟩) a2 v, h.h.away (p := ⟨wb, i, none⟩) a3 v, h.s.set i v, ⟨h.m.f.away (p := ⟨wb, i, none⟩) a6 v, h.m.c.away (p := ⟨wb, i, none⟩) a9 v⟩⟩
theorem Fl.setN (h : Fl w fl fb cb hb wb n H V nx) (x : Int) : Fl (w.setCell ⟨fl, 5, none⟩ (.int .i64 x)) fl fb cb hb wb n H V x :=
  have ⟨a1, a2, _, a4, _, _, a7, _, _⟩ := h.apart
  ⟨h.b.set 5 _, h.h.away (p := ⟨fl, 5, none⟩) (Ne.symm a1) _, h.s.away (p := ⟨fl, 5, none⟩) (Ne.symm a2) _, ⟨h.m.f.away (p := ⟨fl, 5, none⟩) a4 _, h.m.c.away (p := ⟨fl, 5, none⟩) a7 _⟩⟩
end
set_option maxRecDepth 20000 in
set_option maxHeartbeats 4000000 in
theorem reach_new (w : World) (fl fb cb hb wb n i : Nat) (D ht : Int) (H V : Array Value) (v : Value) (hD : D = (i : Int)) (hto : (n = 1 ∧ i = 0) ∨ (n = 2 ∧ i = 0) ∨ (n = 2 ∧ i = 1)) (h : Fl w fl fb cb hb wb n H V 0) (hH : H[i]? = some (.int .i64 (-1))) (hV : V[i]? = some v) :
    Calls Tryd.prog 23 #[.pointer (some ⟨fl, 0, none⟩), .int .i64 D, .int .i64 ht] w fun e w' => e = .returned (.bool true) ∧ Only [hb, wb, fl] w w' ∧ Fl w' fl fb cb hb wb n (H.setIfInBounds i (.int .i64 ht)) (V.setIfInBounds i (.bool true)) 0 := by
  subst hD
  obtain ⟨c0, c1, c2, c3, c4, c5⟩ := h.fs
  obtain ⟨a1, a2, a3, a4, a5, a6, a7, a8, a9⟩ := h.apart
  have k1 := h.h.cell0 hH
  have k2 := h.s.cell0 hV
  have q1 := h.h.free i
  have q2 := h.s.free i
  have q3 := h.b.free 5
  have HF := Lib.hid (((h.setH i (.int .i64 ht)).setV i (.bool true)).setN 0)
  have HO := Lib.hid ((((Only.refl [hb, wb, fl] w).set (p := ⟨hb, i, none⟩) (.inl (by simp)) (.int .i64 ht)).set (p := ⟨wb, i, none⟩) (.inl (by simp)) (.bool true)).set (p := ⟨fl, 5, none⟩) (.inl (by simp)) (.int .i64 0))
  clear h hH hV
  rcases hto with ⟨rfl, rfl⟩ | ⟨rfl, rfl⟩ | ⟨rfl, rfl⟩
  all_goals
    go_enter Tryd.func23, Tryd.ntmps23
    go_wp2_with fail
    go_ret
    exact ⟨ret_b (by simp), HO.out, HF.out⟩
set_option maxRecDepth 20000 in
set_option maxHeartbeats 4000000 in
theorem thr_push2 (w : World) (fl fb cb hb wb : Nat) (h : Fl w fl fb cb hb wb 2 #[.int .i64 0, .int .i64 (-1)] #[.bool false, .bool false] 0) :
    Calls Tryd.prog 29 #[.pointer (some ⟨fl, 0, none⟩), .int .i64 0] w fun e w' => e = .returned (.int .i64 0) ∧ Only [hb, wb, fl] w w' ∧ Fl w' fl fb cb hb wb 2 #[.int .i64 0, .int .i64 1] #[.bool false, .bool true] 0 := by
  have HE := Lib.hid (fun m w => effect_two m 1 3 1 (.inl ⟨rfl, rfl, rfl⟩) w)
  have HL := Lib.hid (fun w => leads_push w)
  obtain ⟨c0, c1, c2, c3, c4, c5⟩ := h.fs
  obtain ⟨d0, d1, d2, d3, d4, d5, d6, d7, d8, d9, d10, d11, d12, d13, d14, d15, d16, d17, d18, d19, d20, d21⟩ := h.m.cs
  have HF := Lib.hid h
  clear h
  go_enter Tryd.func29, Tryd.ntmps29
  go_wp2_with fail
  go_region_held3 (fun w' => w'.cell? ⟨fl, 0, none⟩ = some (.string ⟨#[109]⟩) ∧ w'.cell? ⟨fl, 1, none⟩ = some (.slice (some ⟨fb, 0, none⟩) 1 1) ∧ w'.cell? ⟨fl, 2, none⟩ = some (.slice (some ⟨cb, 0, none⟩) 2 2) ∧ w'.cell? ⟨cb, 0, none⟩ = some (.int .i64 1) ∧ w'.cell? ⟨cb, 1, none⟩ = some (.int .i64 0) ∧ w'.cell? ⟨cb, 2, none⟩ = some (.int .i64 0) ∧ w'.cell? ⟨cb, 3, none⟩ = some (.int .i64 3) ∧ w'.cell? ⟨cb, 4, none⟩ = some (.int .i64 1) ∧ w'.cell? ⟨cb, 5, none⟩ = some (.complex .f64 0 0) ∧ w'.cell? ⟨cb, 6, none⟩ = some (.string ⟨#[]⟩) ∧ w'.cell? ⟨cb, 7, none⟩ = some (.int .i64 0) ∧ w'.cell? ⟨cb, 8, none⟩ = some (.int .i64 0) ∧ w'.cell? ⟨cb, 9, none⟩ = some (.slice none 0 0) ∧ w'.cell? ⟨cb, 10, none⟩ = some (.slice none 0 0)) (first | exact ⟨by assumption, by assumption, by assumption, by assumption, by assumption, by assumption, by assumption, by assumption, by assumption, by assumption, by assumption, by assumption, by assumption, by assumption⟩ | go_keep)
    (first
      | (go_at_call 34; (with_reducible refine (HE.out _ _).mono ?_); rintro e w1 ⟨rfl, o1⟩; have O1 := Lib.hid ((((Only.refl [] w).drew).trans o1 (by simp))); have HF1 := Lib.hid (HF.out.same O1.out); clear o1 c0 c1 c2 c3 c4 c5 d0 d1 d2 d3 d4 d5 d6 d7 d8 d9 d10 d11 d12 d13 d14 d15 d16 d17 d18 d19 d20 d21; obtain ⟨c0, c1, c2, c3, c4, c5⟩ := HF1.out.fs; obtain ⟨d0, d1, d2, d3, d4, d5, d6, d7, d8, d9, d10, d11, d12, d13, d14, d15, d16, d17, d18, d19, d20, d21⟩ := HF1.out.m.cs))
  have k0 := HF1.out.h.cell0 (i := 0) rfl
  go_wp2_with fail
  (with_reducible refine (HL.out _).mono ?_)
  rintro e w2 ⟨g, rfl, hg, bg, o2⟩
  have O2 := Lib.hid (O1.out.trans o2 (by simp))
  have HF2 := Lib.hid (HF1.out.same o2)
  have g0 := bg.cell0 (i := 0) rfl
  clear o2 c0 c1 c2 c3 c4 c5 d0 d1 d2 d3 d4 d5 d6 d7 d8 d9 d10 d11 d12 d13 d14 d15 d16 d17 d18 d19 d20 d21
  obtain ⟨c0, c1, c2, c3, c4, c5⟩ := HF2.out.fs
  have HR := Lib.hid (reach_new w2 fl fb cb hb wb 2 1 1 1 _ _ (.bool false) rfl (.inr (.inr ⟨rfl, rfl⟩)) HF2.out rfl rfl)
  go_wp2_with fail
  refine wp_loop_rounds 2 ?_
  rw [rounds_succ]
  go_wp2_with fail
  (with_reducible refine (HR.out).mono ?_)
  rintro e w3 ⟨rfl, o3, hf3⟩
  have O3 := Lib.hid ((O2.out.more (by simp)).trans o3 (fun i hi => .inl hi))
  have HF3 := Lib.hid hf3
  clear o3 hf3 c0 c1 c2 c3 c4 c5
  go_wp2_with fail
  rw [rounds_succ]
  go_wp2_with fail
  go_ret
  exact ⟨rfl, O3.out, HF3.out⟩
set_option maxRecDepth 20000 in
set_option maxHeartbeats 4000000 in
theorem thr_push1 (w : World) (fl fb cb hb wb : Nat) (h : Fl w fl fb cb hb wb 1 #[.int .i64 0] #[.bool false] 0) :
    Calls Tryd.prog 29 #[.pointer (some ⟨fl, 0, none⟩), .int .i64 0] w fun e w' => e = .returned (.int .i64 64) ∧ Only [] w w' := by
  have HE := Lib.hid (fun m w => effect_two m 1 3 1 (.inl ⟨rfl, rfl, rfl⟩) w)
  have HL := Lib.hid (fun w => leads_push w)
  obtain ⟨c0, c1, c2, c3, c4, c5⟩ := h.fs
  obtain ⟨d0, d1, d2, d3, d4, d5, d6, d7, d8, d9, d10, d11, d12, d13, d14, d15, d16, d17, d18, d19, d20, d21⟩ := h.m.cs
  have HF := Lib.hid h
  clear h
  go_enter Tryd.func29, Tryd.ntmps29
  go_wp2_with fail
  go_region_held3 (fun w' => w'.cell? ⟨fl, 0, none⟩ = some (.string ⟨#[109]⟩) ∧ w'.cell? ⟨fl, 1, none⟩ = some (.slice (some ⟨fb, 0, none⟩) 1 1) ∧ w'.cell? ⟨fl, 2, none⟩ = some (.slice (some ⟨cb, 0, none⟩) 1 2) ∧ w'.cell? ⟨cb, 0, none⟩ = some (.int .i64 1) ∧ w'.cell? ⟨cb, 1, none⟩ = some (.int .i64 0) ∧ w'.cell? ⟨cb, 2, none⟩ = some (.int .i64 0) ∧ w'.cell? ⟨cb, 3, none⟩ = some (.int .i64 3) ∧ w'.cell? ⟨cb, 4, none⟩ = some (.int .i64 1) ∧ w'.cell? ⟨cb, 5, none⟩ = some (.complex .f64 0 0) ∧ w'.cell? ⟨cb, 6, none⟩ = some (.string ⟨#[]⟩) ∧ w'.cell? ⟨cb, 7, none⟩ = some (.int .i64 0) ∧ w'.cell? ⟨cb, 8, none⟩ = some (.int .i64 0) ∧ w'.cell? ⟨cb, 9, none⟩ = some (.slice none 0 0) ∧ w'.cell? ⟨cb, 10, none⟩ = some (.slice none 0 0)) (first | exact ⟨by assumption, by assumption, by assumption, by assumption, by assumption, by assumption, by assumption, by assumption, by assumption, by assumption, by assumption, by assumption, by assumption, by assumption⟩ | go_keep)
    (first
      | (go_at_call 34; (with_reducible refine (HE.out _ _).mono ?_); rintro e w1 ⟨rfl, o1⟩; have O1 := Lib.hid ((((Only.refl [] w).drew).trans o1 (by simp))); have HF1 := Lib.hid (HF.out.same O1.out); clear o1 c0 c1 c2 c3 c4 c5 d0 d1 d2 d3 d4 d5 d6 d7 d8 d9 d10 d11 d12 d13 d14 d15 d16 d17 d18 d19 d20 d21; obtain ⟨c0, c1, c2, c3, c4, c5⟩ := HF1.out.fs; obtain ⟨d0, d1, d2, d3, d4, d5, d6, d7, d8, d9, d10, d11, d12, d13, d14, d15, d16, d17, d18, d19, d20, d21⟩ := HF1.out.m.cs))
  have k0 := HF1.out.h.cell0 (i := 0) rfl
  go_wp2_with fail
  (with_reducible refine (HL.out _).mono ?_)
  rintro e w2 ⟨g, rfl, hg, bg, o2⟩
  have O2 := Lib.hid (O1.out.trans o2 (by simp))
  have HF2 := Lib.hid (HF1.out.same o2)
  have g0 := bg.cell0 (i := 0) rfl
  clear o2 c0 c1 c2 c3 c4 c5 d0 d1 d2 d3 d4 d5 d6 d7 d8 d9 d10 d11 d12 d13 d14 d15 d16 d17 d18 d19 d20 d21
  obtain ⟨c0, c1, c2, c3, c4, c5⟩ := HF2.out.fs
  go_wp2_with fail
  refine wp_loop_rounds 1 ?_
  rw [rounds_succ]
  go_wp2_with fail
  go_ret
  exact ⟨rfl, O2.out⟩
set_option maxRecDepth 20000 in
set_option maxHeartbeats 4000000 in
theorem thr_ret (w : World) (fl fb cb hb wb : Nat) (h : Fl w fl fb cb hb wb 2 #[.int .i64 0, .int .i64 1] #[.bool false, .bool false] 1) :
    Calls Tryd.prog 29 #[.pointer (some ⟨fl, 0, none⟩), .int .i64 1] w fun e w' => e = .returned (.int .i64 0) ∧ Only [] w w' := by
  have HE := Lib.hid (fun m w => effect_two m 29 0 0 (.inr ⟨rfl, rfl, rfl⟩) w)
  have HL := Lib.hid (fun w => leads_ret w)
  obtain ⟨c0, c1, c2, c3, c4, c5⟩ := h.fs
  obtain ⟨d0, d1, d2, d3, d4, d5, d6, d7, d8, d9, d10, d11, d12, d13, d14, d15, d16, d17, d18, d19, d20, d21⟩ := h.m.cs
  have HF := Lib.hid h
  clear h
  go_enter Tryd.func29, Tryd.ntmps29
  go_wp2_with fail
  go_region_held3 (fun w' => w'.cell? ⟨fl, 0, none⟩ = some (.string ⟨#[109]⟩) ∧ w'.cell? ⟨fl, 1, none⟩ = some (.slice (some ⟨fb, 0, none⟩) 1 1) ∧ w'.cell? ⟨fl, 2, none⟩ = some (.slice (some ⟨cb, 0, none⟩) 2 2) ∧ w'.cell? ⟨cb, 11, none⟩ = some (.int .i64 29) ∧ w'.cell? ⟨cb, 12, none⟩ = some (.int .i64 0) ∧ w'.cell? ⟨cb, 13, none⟩ = some (.int .i64 0) ∧ w'.cell? ⟨cb, 14, none⟩ = some (.int .i64 0) ∧ w'.cell? ⟨cb, 15, none⟩ = some (.int .i64 0) ∧ w'.cell? ⟨cb, 16, none⟩ = some (.complex .f64 0 0) ∧ w'.cell? ⟨cb, 17, none⟩ = some (.string ⟨#[]⟩) ∧ w'.cell? ⟨cb, 18, none⟩ = some (.int .i64 0) ∧ w'.cell? ⟨cb, 19, none⟩ = some (.int .i64 0) ∧ w'.cell? ⟨cb, 20, none⟩ = some (.slice none 0 0) ∧ w'.cell? ⟨cb, 21, none⟩ = some (.slice none 0 0)) (first | exact ⟨by assumption, by assumption, by assumption, by assumption, by assumption, by assumption, by assumption, by assumption, by assumption, by assumption, by assumption, by assumption, by assumption, by assumption⟩ | go_keep)
    (first
      | (go_at_call 34; (with_reducible refine (HE.out _ _).mono ?_); rintro e w1 ⟨rfl, o1⟩; have O1 := Lib.hid ((((Only.refl [] w).drew).trans o1 (by simp))); have HF1 := Lib.hid (HF.out.same O1.out); clear o1 c0 c1 c2 c3 c4 c5 d0 d1 d2 d3 d4 d5 d6 d7 d8 d9 d10 d11 d12 d13 d14 d15 d16 d17 d18 d19 d20 d21; obtain ⟨c0, c1, c2, c3, c4, c5⟩ := HF1.out.fs; obtain ⟨d0, d1, d2, d3, d4, d5, d6, d7, d8, d9, d10, d11, d12, d13, d14, d15, d16, d17, d18, d19, d20, d21⟩ := HF1.out.m.cs))
  have k1 := HF1.out.h.cell0 (i := 1) rfl
  go_wp2_with fail
  (with_reducible refine (HL.out _).mono ?_)
  rintro e w2 ⟨rfl, o2⟩
  have O2 := Lib.hid (O1.out.trans o2 (by simp))
  clear o2
  go_wp2_with fail
  refine wp_loop_rounds 1 ?_
  rw [rounds_succ]
  go_wp2_with fail
  go_ret
  exact ⟨rfl, O2.out⟩
end Go.Proofs.YtgpgcjdneikokaaDoor
