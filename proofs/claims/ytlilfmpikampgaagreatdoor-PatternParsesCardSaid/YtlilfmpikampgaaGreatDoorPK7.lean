/- The program's leaves: a local, a kind. The program's leaf: the pattern that a text begins with. The program's leaf, walked. -/
import Derived.Test.YtlilfmpikampgaaGreatDoorPK1
import Derived.Test.YtlilfmpikampgaaGreatDoorPD5
import Derived.Test.YtlilfmpikampgaaGreatDoorPD8
import Derived.BigQuiet
namespace Go.Proofs.YtlilfmpikampgaaGreatDoor
open Go.RowKit

abbrev P11 : Array Value := #[.int .i64 0, .int .i64 0, .int .i64 0, .int .i64 0, .complex .f64 0 0, .string ⟨#[]⟩, .int .i64 0, .int .i64 0, .slice none 0 0, .slice none 0 0, .slice none 0 0]
/-- No token: which cells then stand there is not told. -/
def NoLeaf (e : Ending) : Prop := ∃ (k n : Int) (wd : Int), e = .returned (.tuple #[.agg (pcs k n .zero (.slice none 0 0) (.slice none 0 0)), .int .i64 wd, .bool false])
theorem tail_dig (r : ByteArray) : ∀ b ∈ lst (r.extract 1 (1 + tailW isDig r 0)), isDig b = true := by
  intro b hb
  rw [ext_lst, show 1 + tailW isDig r 0 - 1 = tailW isDig r 0 by omega] at hb
  exact runOf_all hb
theorem tail_ext (p : UInt8 → Bool) (r : ByteArray) : lst (r.extract 1 (1 + tailW p r 0)) = tailB p r 0 := by
  have := tailB_lst p r 0
  simpa using this
theorem lst_tail (r : ByteArray) : lst (r.extract 1 r.size) = (lst r).drop 1 := by
  rw [ext_lst]
  exact List.take_of_length_le (by rw [List.length_drop, lst_len]; omega)
theorem tailW_0 (p : UInt8 → Bool) (r : ByteArray) : runOf p (lst (r.extract 1 r.size)) = tailW p r 0 := by rw [lst_tail]; rfl
theorem size_ext (r : ByteArray) (a b : Nat) (h : b ≤ r.size) : (r.extract a b).size = b - a := by
  rw [← lst_len, ext_lst, List.length_take, List.length_drop, lst_len]
  omega
def LocalE (r : ByteArray) (e : Ending) : Prop := match refN (tailB isDig r 0) with
    | some n => if 0 ≤ n ∧ n < 32 then e = .returned (.tuple #[.agg (pcs 2 n .zero (.slice none 0 0) (.slice none 0 0)), .int .i64 (1 + (tailW isDig r 0 : Nat)), .bool true]) else NoLeaf e
    | none => NoLeaf e
def KindE (r : ByteArray) (e : Ending) : Prop := match kindP (tailB isWd r 0) with
    | some n => e = .returned (.tuple #[.agg (pcs 4 n .zero (.slice none 0 0) (.slice none 0 0)), .int .i64 (1 + (tailW isWd r 0 : Nat)), .bool true])
    | none => NoLeaf e
theorem kindE_no {r : ByteArray} (h : kindP (tailB isWd r 0) = none) (k n wd : Int) : KindE r (.returned (.tuple #[.agg #[.int .i64 k, .int .i64 n, .int .i64 0, .int .i64 0, .complex .f64 0 0, .string ⟨#[]⟩, .int .i64 0, .int .i64 0, .slice none 0 0, .slice none 0 0, .slice none 0 0], .int .i64 wd, .bool false])) := by
  unfold KindE
  rw [h]
  exact ⟨k, n, wd, rfl⟩
theorem kindE_yes {r : ByteArray} {m : Int} {x : Nat} (h : kindP (tailB isWd r 0) = some m) (hx : tailW isWd r 0 = x) : KindE r (.returned (.tuple #[.agg #[.int .i64 4, .int .i64 m, .int .i64 0, .int .i64 0, .complex .f64 0 0, .string ⟨#[]⟩, .int .i64 0, .int .i64 0, .slice none 0 0, .slice none 0 0, .slice none 0 0], .int .i64 (1 + (x : Int)), .bool true])) := by
  unfold KindE
  rw [h, hx]
  rfl
theorem localE_no {r : ByteArray} (h : refN (tailB isDig r 0) = none) (k n wd : Int) : LocalE r (.returned (.tuple #[.agg #[.int .i64 k, .int .i64 n, .int .i64 0, .int .i64 0, .complex .f64 0 0, .string ⟨#[]⟩, .int .i64 0, .int .i64 0, .slice none 0 0, .slice none 0 0, .slice none 0 0], .int .i64 wd, .bool false])) := by
  unfold LocalE
  rw [h]
  exact ⟨k, n, wd, rfl⟩
theorem localE_far {r : ByteArray} {m : Int} (h : refN (tailB isDig r 0) = some m) (h2 : ¬ (0 ≤ m ∧ m < 32)) (k n wd : Int) : LocalE r (.returned (.tuple #[.agg #[.int .i64 k, .int .i64 n, .int .i64 0, .int .i64 0, .complex .f64 0 0, .string ⟨#[]⟩, .int .i64 0, .int .i64 0, .slice none 0 0, .slice none 0 0, .slice none 0 0], .int .i64 wd, .bool false])) := by
  unfold LocalE
  rw [h]
  simp only
  rw [if_neg h2]
  exact ⟨k, n, wd, rfl⟩
theorem localE_yes {r : ByteArray} {m : Int} {x : Nat} (h : refN (tailB isDig r 0) = some m) (h2 : 0 ≤ m ∧ m < 32) (hx : tailW isDig r 0 = x) : LocalE r (.returned (.tuple #[.agg #[.int .i64 2, .int .i64 m, .int .i64 0, .int .i64 0, .complex .f64 0 0, .string ⟨#[]⟩, .int .i64 0, .int .i64 0, .slice none 0 0, .slice none 0 0, .slice none 0 0], .int .i64 (1 + (x : Int)), .bool true])) := by
  unfold LocalE
  rw [h, hx]
  simp only
  rw [if_pos h2]
  rfl
set_option maxRecDepth 100000 in
set_option maxHeartbeats 400000 in
theorem local_any (r : ByteArray) (w : World) (hv : Vars w) (h0 : 0 < r.size) (hs : r.size ≤ 262144) : Calls Tryz.prog 67 #[.string r] w fun e w' => LocalE r e ∧ Only [] w w' := by
  have rs := store_com
  have hw := tailW_le isDig r 0 h0
  have R1 := Lib.hid (show ∀ w, Calls Tryz.prog 29 #[.string (r.extract 1 r.size), .func (.func 80) #[] #[]] w fun e w' => e = .returned (.int .i64 (tailW isDig r 0 : Nat)) ∧ w = w' from fun w => by
    have := prun_digit (r.extract 1 r.size) w (by rw [size_ext r 1 _ (Nat.le_refl _)]; omega)
    rw [tailW_0] at this
    exact this)
  obtain ⟨n, hn⟩ : ∃ n, tailW isDig r 0 = n := ⟨_, rfl⟩
  have HNN := Lib.hid hn
  have P1 := Lib.hid (show ∀ w, Vars w → Calls Tryz.prog 81 #[.string (r.extract 1 (1 + n))] w fun e w' => Tells (match refN (tailB isDig r 0) with | some n => (.int n, 0, 0) | none => (.zero, 40, 0)) w' e ∧ Only [] w w' from fun w hv => by
    have := parse_u (r.extract 1 (1 + tailW isDig r 0)) w hv
    rw [pU_dig (by rw [size_ext _ _ _ (by omega)]; omega) (tail_dig r), tail_ext, hn] at this
    exact this)
  rw [hn] at R1
  have hw' : 0 + 1 + n ≤ r.size := by omega
  clear hw hn
  go_enter Tryz.func67, Tryz.ntmps67
  go_wp2_with fail
  (with_reducible refine (R1.out _).mono ?_)
  rintro e w1 ⟨rfl, rfl⟩
  have HV := Lib.hid (hv.alloc (.cells P11 30))
  go_wp2_with fail
  (with_reducible refine (P1.out _ HV.out).mono ?_)
  rintro e w2 ⟨ht, o2⟩
  have O2 := Lib.hid (((Only.refl [] w).alloc (.cells P11 30)).trans o2 (by simp))
  have B2 := Lib.hid ((Bk.made w 30 P11).only o2 (by simp))
  have L2 := B2.out.lt
  clear o2
  obtain ⟨z0, z1, z2, z3, z4, z5, z6, z7, z8, z9, z10⟩ := B2.out.eleven
  have zf := B2.out.free
  cases hr : refN (tailB isDig r 0) with
  | none =>
    rw [hr] at ht
    obtain ⟨sl, F, _, h2, h3⟩ := ht
    obtain rfl := (TV.leaf (by simp)).1 h2
    have he : e = .returned (.tuple #[.agg #[.int .i64 0, .int .i64 0, .complex .f64 0 0, .string ⟨#[]⟩, .int .i64 0, .int .i64 0, .slice none 0 0], .int .i64 40, .int .i64 0]) := h3
    subst he
    have HR := Lib.hid hr
    clear h2 h3 hr
    have D2 := Lib.hid (Bk.made w2 27 #[.int .i64 0, .int .i64 0, .complex .f64 0 0, .string ⟨#[]⟩, .int .i64 0, .int .i64 0, .slice none 0 0])
    obtain ⟨y0, y1, y2, y3, y4, y5, y6⟩ := D2.out.seven
    have hne : w.heap.size ≠ w2.heap.size := by omega
    go_wp2_with fail
    go_region
    go_wp2_with fail
    obtain ⟨B7, O7⟩ := put11 (v0 := (.int .i64 2)) (v1 := (.int .i64 0)) (v2 := (.int .i64 0)) (v3 := (.int .i64 0)) (v4 := (.complex .f64 0 0)) (v5 := (.string ⟨#[]⟩)) (v6 := (.int .i64 0)) (v7 := (.int .i64 0)) (v8 := (.slice none 0 0)) (v9 := (.slice none 0 0)) (v10 := (.slice none 0 0)) B2.out (Eq.refl _)
    clear z0 z1 z2 z3 z4 z5 z6 z7 z8 z9 z10 zf y0 y1 y2 y3 y4 y5 y6
    generalize (((((((((((w2.setCell ⟨w.heap.size, 0, none⟩ (.int .i64 2)).setCell ⟨w.heap.size, 1, none⟩ (.int .i64 0)).setCell ⟨w.heap.size, 2, none⟩ (.int .i64 0)).setCell ⟨w.heap.size, 3, none⟩ (.int .i64 0)).setCell ⟨w.heap.size, 4, none⟩ (.complex .f64 0 0)).setCell ⟨w.heap.size, 5, none⟩ (.string ⟨#[]⟩)).setCell ⟨w.heap.size, 6, none⟩ (.int .i64 0)).setCell ⟨w.heap.size, 7, none⟩ (.int .i64 0)).setCell ⟨w.heap.size, 8, none⟩ (.slice none 0 0)).setCell ⟨w.heap.size, 9, none⟩ (.slice none 0 0)).setCell ⟨w.heap.size, 10, none⟩ (.slice none 0 0)) = W8 at *
    have O8 := O2.out.trans O7 (fun b hb => .inr (by rw [List.mem_singleton.1 hb]; omega))
    have B9 := B7.alloc (.cells #[.int .i64 0, .int .i64 0, .complex .f64 0 0, .string ⟨#[]⟩, .int .i64 0, .int .i64 0, .slice none 0 0] 27)
    have O9 := O8.alloc (.cells #[.int .i64 0, .int .i64 0, .complex .f64 0 0, .string ⟨#[]⟩, .int .i64 0, .int .i64 0, .slice none 0 0] 27)
    generalize W8.alloc (.cells #[.int .i64 0, .int .i64 0, .complex .f64 0 0, .string ⟨#[]⟩, .int .i64 0, .int .i64 0, .slice none 0 0] 27) = W9 at *
    have B10 := B9.drew
    have O10 := O9.drew
    generalize W9.drew = W10 at *
    obtain ⟨u0, u1, u2, u3, u4, u5, u6, u7, u8, u9, u10⟩ := B10.eleven
    exact bodyPost_ret (v := .tuple #[.agg #[.int .i64 2, .int .i64 0, .int .i64 0, .int .i64 0, .complex .f64 0 0, .string ⟨#[]⟩, .int .i64 0, .int .i64 0, .slice none 0 0, .slice none 0 0, .slice none 0 0], .int .i64 (1 + (n : Int)), .bool false]) (by simp [results, Tryz.results67, go_sem, u0, u1, u2, u3, u4, u5, u6, u7, u8, u9, u10]) rfl ⟨localE_no HR.out _ _ _, O10⟩
  | some m =>
    rw [hr] at ht
    obtain ⟨sl, F, _, h2, h3⟩ := ht
    obtain rfl := (TV.leaf (by simp)).1 h2
    have he : e = .returned (.tuple #[.agg #[.int .i64 3, .int .i64 m, .complex .f64 0 0, .string ⟨#[]⟩, .int .i64 0, .int .i64 0, .slice none 0 0], .int .i64 0, .int .i64 0]) := h3
    subst he
    have HR := Lib.hid hr
    have H0 := Lib.hid (refN_dig (l := tailB isDig r 0) (fun b hb => runOf_all hb) hr)
    clear h2 h3 hr
    have D2 := Lib.hid (Bk.made w2 27 #[.int .i64 3, .int .i64 m, .complex .f64 0 0, .string ⟨#[]⟩, .int .i64 0, .int .i64 0, .slice none 0 0])
    obtain ⟨y0, y1, y2, y3, y4, y5, y6⟩ := D2.out.seven
    have hne : w.heap.size ≠ w2.heap.size := by omega
    by_cases hm : m < 32
    · go_wp2_with fail
      go_region
      go_wp2_with fail
      obtain ⟨B7, O7⟩ := put11 (v0 := (.int .i64 2)) (v1 := (.int .i64 m)) (v2 := (.int .i64 0)) (v3 := (.int .i64 0)) (v4 := (.complex .f64 0 0)) (v5 := (.string ⟨#[]⟩)) (v6 := (.int .i64 0)) (v7 := (.int .i64 0)) (v8 := (.slice none 0 0)) (v9 := (.slice none 0 0)) (v10 := (.slice none 0 0)) B2.out (Eq.refl _)
      clear z0 z1 z2 z3 z4 z5 z6 z7 z8 z9 z10 zf y0 y1 y2 y3 y4 y5 y6
      generalize (((((((((((w2.setCell ⟨w.heap.size, 0, none⟩ (.int .i64 2)).setCell ⟨w.heap.size, 1, none⟩ (.int .i64 m)).setCell ⟨w.heap.size, 2, none⟩ (.int .i64 0)).setCell ⟨w.heap.size, 3, none⟩ (.int .i64 0)).setCell ⟨w.heap.size, 4, none⟩ (.complex .f64 0 0)).setCell ⟨w.heap.size, 5, none⟩ (.string ⟨#[]⟩)).setCell ⟨w.heap.size, 6, none⟩ (.int .i64 0)).setCell ⟨w.heap.size, 7, none⟩ (.int .i64 0)).setCell ⟨w.heap.size, 8, none⟩ (.slice none 0 0)).setCell ⟨w.heap.size, 9, none⟩ (.slice none 0 0)).setCell ⟨w.heap.size, 10, none⟩ (.slice none 0 0)) = W8 at *
      have O8 := O2.out.trans O7 (fun b hb => .inr (by rw [List.mem_singleton.1 hb]; omega))
      have B9 := B7.alloc (.cells #[.int .i64 3, .int .i64 m, .complex .f64 0 0, .string ⟨#[]⟩, .int .i64 0, .int .i64 0, .slice none 0 0] 27)
      have O9 := O8.alloc (.cells #[.int .i64 3, .int .i64 m, .complex .f64 0 0, .string ⟨#[]⟩, .int .i64 0, .int .i64 0, .slice none 0 0] 27)
      generalize W8.alloc (.cells #[.int .i64 3, .int .i64 m, .complex .f64 0 0, .string ⟨#[]⟩, .int .i64 0, .int .i64 0, .slice none 0 0] 27) = W9 at *
      have B10 := B9.drew
      have O10 := O9.drew
      generalize W9.drew = W10 at *
      obtain ⟨u0, u1, u2, u3, u4, u5, u6, u7, u8, u9, u10⟩ := B10.eleven
      exact bodyPost_ret (v := .tuple #[.agg #[.int .i64 2, .int .i64 m, .int .i64 0, .int .i64 0, .complex .f64 0 0, .string ⟨#[]⟩, .int .i64 0, .int .i64 0, .slice none 0 0, .slice none 0 0, .slice none 0 0], .int .i64 (1 + (n : Int)), .bool true]) (by simp [results, Tryz.results67, go_sem, u0, u1, u2, u3, u4, u5, u6, u7, u8, u9, u10]) rfl ⟨localE_yes HR.out ⟨H0.out, hm⟩ HNN.out, O10⟩
    · go_wp2_with fail
      go_region
      go_wp2_with fail
      obtain ⟨B7, O7⟩ := put11 (v0 := (.int .i64 2)) (v1 := (.int .i64 m)) (v2 := (.int .i64 0)) (v3 := (.int .i64 0)) (v4 := (.complex .f64 0 0)) (v5 := (.string ⟨#[]⟩)) (v6 := (.int .i64 0)) (v7 := (.int .i64 0)) (v8 := (.slice none 0 0)) (v9 := (.slice none 0 0)) (v10 := (.slice none 0 0)) B2.out (Eq.refl _)
      clear z0 z1 z2 z3 z4 z5 z6 z7 z8 z9 z10 zf y0 y1 y2 y3 y4 y5 y6
      generalize (((((((((((w2.setCell ⟨w.heap.size, 0, none⟩ (.int .i64 2)).setCell ⟨w.heap.size, 1, none⟩ (.int .i64 m)).setCell ⟨w.heap.size, 2, none⟩ (.int .i64 0)).setCell ⟨w.heap.size, 3, none⟩ (.int .i64 0)).setCell ⟨w.heap.size, 4, none⟩ (.complex .f64 0 0)).setCell ⟨w.heap.size, 5, none⟩ (.string ⟨#[]⟩)).setCell ⟨w.heap.size, 6, none⟩ (.int .i64 0)).setCell ⟨w.heap.size, 7, none⟩ (.int .i64 0)).setCell ⟨w.heap.size, 8, none⟩ (.slice none 0 0)).setCell ⟨w.heap.size, 9, none⟩ (.slice none 0 0)).setCell ⟨w.heap.size, 10, none⟩ (.slice none 0 0)) = W8 at *
      have O8 := O2.out.trans O7 (fun b hb => .inr (by rw [List.mem_singleton.1 hb]; omega))
      have B9 := B7.alloc (.cells #[.int .i64 3, .int .i64 m, .complex .f64 0 0, .string ⟨#[]⟩, .int .i64 0, .int .i64 0, .slice none 0 0] 27)
      have O9 := O8.alloc (.cells #[.int .i64 3, .int .i64 m, .complex .f64 0 0, .string ⟨#[]⟩, .int .i64 0, .int .i64 0, .slice none 0 0] 27)
      generalize W8.alloc (.cells #[.int .i64 3, .int .i64 m, .complex .f64 0 0, .string ⟨#[]⟩, .int .i64 0, .int .i64 0, .slice none 0 0] 27) = W9 at *
      have B10 := B9.drew
      have O10 := O9.drew
      generalize W9.drew = W10 at *
      obtain ⟨u0, u1, u2, u3, u4, u5, u6, u7, u8, u9, u10⟩ := B10.eleven
      exact bodyPost_ret (v := .tuple #[.agg #[.int .i64 2, .int .i64 m, .int .i64 0, .int .i64 0, .complex .f64 0 0, .string ⟨#[]⟩, .int .i64 0, .int .i64 0, .slice none 0 0, .slice none 0 0, .slice none 0 0], .int .i64 (1 + (n : Int)), .bool false]) (by simp [results, Tryz.results67, go_sem, u0, u1, u2, u3, u4, u5, u6, u7, u8, u9, u10, hm]) rfl ⟨localE_far HR.out (fun h => by omega) _ _ _, O10⟩
set_option maxRecDepth 100000 in
set_option maxHeartbeats 400000 in
theorem kind_any (r : ByteArray) (w : World) (hk : KN w) (hb : 0 < w.heap.size) (h0 : 0 < r.size) (hs : r.size ≤ 262144) : Calls Tryz.prog 68 #[.string r] w fun e w' => KindE r e ∧ Only [] w w' := by
  have rs := store_com
  have hw := tailW_le isWd r 0 h0
  have R1 := Lib.hid (show ∀ w, Calls Tryz.prog 29 #[.string (r.extract 1 r.size), .func (.func 82) #[] #[]] w fun e w' => e = .returned (.int .i64 (tailW isWd r 0 : Nat)) ∧ w = w' from fun w => by
    have := prun_word (r.extract 1 r.size) w (by rw [size_ext r 1 _ (Nat.le_refl _)]; omega)
    rw [tailW_0] at this
    exact this)
  obtain ⟨n, hn⟩ : ∃ n, tailW isWd r 0 = n := ⟨_, rfl⟩
  have HNN := Lib.hid hn
  have P1 := Lib.hid (show ∀ w, KN w → Calls Tryz.prog 83 #[.string (r.extract 1 (1 + n))] w fun e w' => e = .returned (.tuple #[.int .i64 (match kindP (tailB isWd r 0) with | some n => (n, 0) | none => (0, 3) : Int × Int).1, .int .i64 (match kindP (tailB isWd r 0) with | some n => (n, 0) | none => (0, 3) : Int × Int).2]) ∧ Only [] w w' from fun w hk => by
    have := kindOf_any (r.extract 1 (1 + tailW isWd r 0)) w hk
    unfold kindU at this
    rw [tail_ext, hn] at this
    exact this.mono fun _ _ ⟨h1, h2⟩ => ⟨h1, h2 ▸ Only.refl _ _⟩)
  rw [hn] at R1
  have hw' : 0 + 1 + n ≤ r.size := by omega
  clear hw hn
  go_enter Tryz.func68, Tryz.ntmps68
  go_wp2_with fail
  (with_reducible refine (R1.out _).mono ?_)
  rintro e w1 ⟨rfl, rfl⟩
  have HV := Lib.hid (hk.only hb ((Only.refl [] w).alloc (.cells P11 30)) (by simp))
  go_wp2_with fail
  (with_reducible refine (P1.out _ HV.out).mono ?_)
  rintro e w2 ⟨ht, o2⟩
  have O2 := Lib.hid (((Only.refl [] w).alloc (.cells P11 30)).trans o2 (by simp))
  have B2 := Lib.hid ((Bk.made w 30 P11).only o2 (by simp))
  have L2 := B2.out.lt
  clear o2
  obtain ⟨z0, z1, z2, z3, z4, z5, z6, z7, z8, z9, z10⟩ := B2.out.eleven
  have zf := B2.out.free
  cases hr : kindP (tailB isWd r 0) with
  | none =>
    rw [hr] at ht
    subst ht
    have HR := Lib.hid hr
    clear hr
    go_wp2_with fail
    obtain ⟨B7, O7⟩ := put11 (v0 := (.int .i64 4)) (v1 := (.int .i64 0)) (v2 := (.int .i64 0)) (v3 := (.int .i64 0)) (v4 := (.complex .f64 0 0)) (v5 := (.string ⟨#[]⟩)) (v6 := (.int .i64 0)) (v7 := (.int .i64 0)) (v8 := (.slice none 0 0)) (v9 := (.slice none 0 0)) (v10 := (.slice none 0 0)) B2.out (Eq.refl _)
    clear z0 z1 z2 z3 z4 z5 z6 z7 z8 z9 z10 zf
    generalize (((((((((((w2.setCell ⟨w.heap.size, 0, none⟩ (.int .i64 4)).setCell ⟨w.heap.size, 1, none⟩ (.int .i64 0)).setCell ⟨w.heap.size, 2, none⟩ (.int .i64 0)).setCell ⟨w.heap.size, 3, none⟩ (.int .i64 0)).setCell ⟨w.heap.size, 4, none⟩ (.complex .f64 0 0)).setCell ⟨w.heap.size, 5, none⟩ (.string ⟨#[]⟩)).setCell ⟨w.heap.size, 6, none⟩ (.int .i64 0)).setCell ⟨w.heap.size, 7, none⟩ (.int .i64 0)).setCell ⟨w.heap.size, 8, none⟩ (.slice none 0 0)).setCell ⟨w.heap.size, 9, none⟩ (.slice none 0 0)).setCell ⟨w.heap.size, 10, none⟩ (.slice none 0 0)) = W8 at *
    have O8 := O2.out.trans O7 (fun b hb => .inr (by rw [List.mem_singleton.1 hb]; omega))
    obtain ⟨u0, u1, u2, u3, u4, u5, u6, u7, u8, u9, u10⟩ := B7.eleven
    exact bodyPost_ret (v := .tuple #[.agg #[.int .i64 4, .int .i64 0, .int .i64 0, .int .i64 0, .complex .f64 0 0, .string ⟨#[]⟩, .int .i64 0, .int .i64 0, .slice none 0 0, .slice none 0 0, .slice none 0 0], .int .i64 (1 + (n : Int)), .bool false]) (by simp [results, Tryz.results68, go_sem, u0, u1, u2, u3, u4, u5, u6, u7, u8, u9, u10]) rfl ⟨kindE_no HR.out _ _ _, O8⟩
  | some m =>
    rw [hr] at ht
    subst ht
    have HR := Lib.hid hr
    clear hr
    go_wp2_with fail
    obtain ⟨B7, O7⟩ := put11 (v0 := (.int .i64 4)) (v1 := (.int .i64 m)) (v2 := (.int .i64 0)) (v3 := (.int .i64 0)) (v4 := (.complex .f64 0 0)) (v5 := (.string ⟨#[]⟩)) (v6 := (.int .i64 0)) (v7 := (.int .i64 0)) (v8 := (.slice none 0 0)) (v9 := (.slice none 0 0)) (v10 := (.slice none 0 0)) B2.out (Eq.refl _)
    clear z0 z1 z2 z3 z4 z5 z6 z7 z8 z9 z10 zf
    generalize (((((((((((w2.setCell ⟨w.heap.size, 0, none⟩ (.int .i64 4)).setCell ⟨w.heap.size, 1, none⟩ (.int .i64 m)).setCell ⟨w.heap.size, 2, none⟩ (.int .i64 0)).setCell ⟨w.heap.size, 3, none⟩ (.int .i64 0)).setCell ⟨w.heap.size, 4, none⟩ (.complex .f64 0 0)).setCell ⟨w.heap.size, 5, none⟩ (.string ⟨#[]⟩)).setCell ⟨w.heap.size, 6, none⟩ (.int .i64 0)).setCell ⟨w.heap.size, 7, none⟩ (.int .i64 0)).setCell ⟨w.heap.size, 8, none⟩ (.slice none 0 0)).setCell ⟨w.heap.size, 9, none⟩ (.slice none 0 0)).setCell ⟨w.heap.size, 10, none⟩ (.slice none 0 0)) = W8 at *
    have O8 := O2.out.trans O7 (fun b hb => .inr (by rw [List.mem_singleton.1 hb]; omega))
    obtain ⟨u0, u1, u2, u3, u4, u5, u6, u7, u8, u9, u10⟩ := B7.eleven
    exact bodyPost_ret (v := .tuple #[.agg #[.int .i64 4, .int .i64 m, .int .i64 0, .int .i64 0, .complex .f64 0 0, .string ⟨#[]⟩, .int .i64 0, .int .i64 0, .slice none 0 0, .slice none 0 0, .slice none 0 0], .int .i64 (1 + (n : Int)), .bool true]) (by simp [results, Tryz.results68, go_sem, u0, u1, u2, u3, u4, u5, u6, u7, u8, u9, u10]) rfl ⟨kindE_yes HR.out HNN.out, O8⟩
end Go.Proofs.YtlilfmpikampgaaGreatDoor

namespace Go.Proofs.YtlilfmpikampgaaGreatDoor
open Go.RowKit

theorem lf_ok {s : ByteArray} {t : T} (h : lf s = some t) : okT t = true := by
  rw [lf_raw] at h
  cases hr : rawL s with
  | none => rw [hr] at h; cases h
  | some u =>
    rw [hr] at h
    simp only [Option.bind_some] at h
    split at h
    · rename_i ho; injection h with h; rw [← h]; exact ho
    · cases h
theorem chk_lf {s : ByteArray} {t : T} (hs : s.size ≤ 262144) (h : lf s = some t) : chk t = 0 := by
  obtain ⟨hg, hl⟩ := lf_good hs h
  unfold chk
  rw [thr_leaf hl hg, if_neg (by omega), if_pos (lf_ok h)]
theorem hU_leaf {r : ByteArray} {b : UInt8} (h0 : (lst r)[0]? = some b) (hbl : isBl b = false) (hsg : isSg b = false) (hs : r.size ≤ 262144) :
    hU r = match lf (r.extract 0 (fin r 0)) with | some t => (t, (fin r 0 : Int), 0) | none => (.zero, 0, 40) := by
  have hn : nxt r 0 = 0 := nxt_self h0 hbl
  have hsz : 0 < r.size := by
    have := (List.getElem?_eq_some_iff.1 h0).1
    rw [lst_len] at this
    exact this
  have hlt : nxt r 0 < r.size := by omega
  have htk : tkAt r 0 = match lf (r.extract 0 (fin r 0)) with | some t => .term t | none => .bad := by
    unfold tkAt
    rw [h0]
    simp only [hsg, Bool.false_eq_true, if_false]
    cases lf (r.extract 0 (fin r 0)) <;> rfl
  have hfb := fin_bd hsz
  unfold hU
  rw [if_pos hs]
  cases hl : lf (r.extract 0 (fin r 0)) with
  | none =>
    rw [run_no hlt (by rw [hn, htk, hl]; rfl)]
  | some t =>
    rw [run_yes hlt (σ' := .whole t) (by rw [hn, htk, hl]; rfl), run_whole, hn]
    have hc := chk_lf (by rw [size_ext _ _ _ hfb.2]; omega) hl
    simp only
    rw [if_pos hc]
/-- What leaf answers. -/
def LeafE (r : ByteArray) (e : Ending) : Prop := match qkAt r 0 with
    | .leaf p => e = .returned (.tuple #[.agg (p.cs (.slice none 0 0) (.slice none 0 0)), .int .i64 (qfin r 0 : Nat), .bool true])
    | _ => NoLeaf e
theorem leafE_any {r : ByteArray} {b : UInt8} (h0 : (lst r)[0]? = some b) (h : b.toNat = 95) (hps : isPs b = false) : LeafE r (.returned (.tuple #[.agg #[.int .i64 1, .int .i64 0, .int .i64 0, .int .i64 0, .complex .f64 0 0, .string ⟨#[]⟩, .int .i64 0, .int .i64 0, .slice none 0 0, .slice none 0 0, .slice none 0 0], .int .i64 1, .bool true])) := by
  unfold LeafE qkAt qfin
  rw [h0]
  simp only [hps, h, Bool.false_eq_true, if_false, if_true]
  rw [if_neg (by omega), if_neg (by omega)]
  rfl
theorem leafE_local {r : ByteArray} {b : UInt8} (h0 : (lst r)[0]? = some b) (h : b.toNat = 36) (hps : isPs b = false) {e : Ending} (he : LocalE r e) : LeafE r e := by
  unfold LeafE qkAt qfin
  unfold LocalE at he
  rw [h0]
  simp only [hps, h, Bool.false_eq_true, if_false, if_true]
  rw [if_neg (by omega)]
  cases hr : refN (tailB isDig r 0) with
  | none => rw [hr] at he; exact he
  | some n =>
    rw [hr] at he
    simp only at he ⊢
    by_cases hn : 0 ≤ n ∧ n < 32
    · rw [if_pos hn] at he ⊢
      rw [he]
      simp only [Nat.zero_add]
      rw [show ((1 + tailW isDig r 0 : Nat) : Int) = 1 + (tailW isDig r 0 : Int) by omega]
      rfl
    · rw [if_neg hn] at he ⊢
      exact he
theorem leafE_kind {r : ByteArray} {b : UInt8} (h0 : (lst r)[0]? = some b) (h : b.toNat = 58) (hps : isPs b = false) {e : Ending} (he : KindE r e) : LeafE r e := by
  unfold LeafE qkAt qfin
  unfold KindE at he
  rw [h0]
  simp only [hps, Bool.false_eq_true, if_false]
  have h1 : ¬ b.toNat = 95 := by omega
  have h2 : ¬ b.toNat = 36 := by omega
  rw [if_neg h1, if_neg h2, if_pos h, if_neg h2, if_pos h]
  cases hr : kindP (tailB isWd r 0) with
  | none => rw [hr] at he; exact he
  | some n =>
    rw [hr] at he
    simp only at he ⊢
    rw [he]
    simp only [Nat.zero_add]
    rw [show ((1 + tailW isWd r 0 : Nat) : Int) = 1 + (tailW isWd r 0 : Int) by omega]
    rfl
theorem leafE_term {r : ByteArray} {b : UInt8} {t : T} (h0 : (lst r)[0]? = some b) (h1 : b.toNat ≠ 95) (h2 : b.toNat ≠ 36) (h3 : b.toNat ≠ 58) (hps : isPs b = false) (hl : lf (r.extract 0 (fin r 0)) = some t) :
    LeafE r (.returned (.tuple #[.agg (pcs 3 0 t (.slice none 0 0) (.slice none 0 0)), .int .i64 (fin r 0 : Nat), .bool true])) := by
  unfold LeafE qkAt qfin
  rw [h0]
  simp only [hps, Bool.false_eq_true, if_false, false_or]
  rw [if_neg h1, if_neg h2, if_neg h3, if_neg h2, if_neg h3, if_neg h1, hl]
  rfl
theorem leafE_bad {r : ByteArray} {b : UInt8} (h0 : (lst r)[0]? = some b) (h1 : b.toNat ≠ 95) (h2 : b.toNat ≠ 36) (h3 : b.toNat ≠ 58) (hps : isPs b = false) (hl : lf (r.extract 0 (fin r 0)) = none) (k n wd : Int) :
    LeafE r (.returned (.tuple #[.agg #[.int .i64 k, .int .i64 n, .int .i64 0, .int .i64 0, .complex .f64 0 0, .string ⟨#[]⟩, .int .i64 0, .int .i64 0, .slice none 0 0, .slice none 0 0, .slice none 0 0], .int .i64 wd, .bool false])) := by
  unfold LeafE qkAt
  rw [h0]
  simp only [hps, Bool.false_eq_true, if_false]
  rw [if_neg h1, if_neg h2, if_neg h3, hl]
  exact ⟨k, n, wd, rfl⟩
end Go.Proofs.YtlilfmpikampgaaGreatDoor

namespace Go.Proofs.YtlilfmpikampgaaGreatDoor
open Go.RowKit

theorem leafE_shape {r : ByteArray} {e : Ending} (h : LeafE r e) : ∃ (k n : Int) (t : T) (wd : Int) (ok : Bool), e = .returned (.tuple #[.agg (pcs k n t (.slice none 0 0) (.slice none 0 0)), .int .i64 wd, .bool ok]) := by
  unfold LeafE at h
  split at h
  · exact ⟨_, _, _, _, _, h⟩
  · obtain ⟨k, n, wd, h⟩ := h
    exact ⟨k, n, .zero, wd, false, h⟩
set_option maxRecDepth 100000 in
set_option maxHeartbeats 400000 in
theorem leaf_at (r : ByteArray) (b : UInt8) (w : World) (hv : Vars w) (hk : KN w) (hg : 0 < w.heap.size) (h0 : (lst r)[0]? = some b) (hps : isPs b = false) (hbl : isBl b = false) (hs : r.size ≤ 262144) :
    Calls Tryz.prog 47 #[.string r] w fun e w' => LeafE r e ∧ Only [] w w' := by
  have rs := store_com
  have hsz : 0 < r.size := by
    have := (List.getElem?_eq_some_iff.1 h0).1
    rw [lst_len] at this
    exact this
  have hb0 : r[0]'hsz = b := by
    have := (lst_at hsz).symm.trans h0
    injection this
  have B0 := Lib.hid (Bk.made w 30 P11)
  have O0 := Lib.hid ((Only.refl [] w).alloc (.cells P11 30))
  have HL := Lib.hid (fun w hv => local_any r w hv hsz hs)
  have HK := Lib.hid (fun w hk hg => kind_any r w hk hg hsz hs)
  have HV := Lib.hid (hv.alloc (.cells P11 30))
  have HN := Lib.hid (hk.only hg O0.out (by simp))
  have hg2 : 0 < (w.alloc (.cells P11 30)).heap.size := by simp
  have HH := Lib.hid (show ∀ w, Vars w → Calls Tryz.prog 69 #[.string r] w fun e w' => Tells (match lf (r.extract 0 (fin r 0)) with | some t => (t, (fin r 0 : Int), 0) | none => (.zero, 0, 40)) w' e ∧ Only [] w w' from fun w hv => by
    have := head_u r w hv
    rw [hU_leaf h0 hbl (by unfold isPs at hps; simp at hps; exact hps.1) hs] at this
    exact this)
  have HP := Lib.hid hps
  have H0 := Lib.hid h0
  have hw : w.heap.size < (w.alloc (.cells P11 30)).heap.size := by simp
  clear hps h0 hbl hk hv
  by_cases h1 : b.toNat = 95
  · have H1 := Lib.hid h1
    have e1 : ((b.toNat : Int) == 95) = true := by rw [h1]; rfl
    clear h1
    go_enter Tryz.func47, Tryz.ntmps47
    go_wp2_with fail
    exact bodyPost_ret (v := .tuple #[.agg #[.int .i64 1, .int .i64 0, .int .i64 0, .int .i64 0, .complex .f64 0 0, .string ⟨#[]⟩, .int .i64 0, .int .i64 0, .slice none 0 0, .slice none 0 0, .slice none 0 0], .int .i64 1, .bool true]) (by simp [results, Tryz.results47, go_sem]) rfl ⟨leafE_any H0.out H1.out HP.out, (Only.refl [] w).alloc _⟩
  have H1 := Lib.hid h1
  have e1 : ((b.toNat : Int) == 95) = false := by simp; omega
  clear h1
  by_cases h2 : b.toNat = 36
  · have H2 := Lib.hid h2
    have e2 : ((b.toNat : Int) == 36) = true := by rw [h2]; rfl
    clear h2
    go_enter Tryz.func47, Tryz.ntmps47
    go_wp2_with fail
    (with_reducible refine (HL.out _ HV.out).mono ?_)
    rintro e w2 ⟨he, o2⟩
    have O2 := Lib.hid (O0.out.trans o2 (by simp))
    have B2 := Lib.hid (B0.out.only o2 (by simp))
    have L2 := B2.out.lt
    clear o2
    have HE := Lib.hid (leafE_local H0.out H2.out HP.out he)
    clear he
    obtain ⟨k, n, t, wd, ok, rfl⟩ := leafE_shape HE.out
    obtain ⟨z0, z1, z2, z3, z4, z5, z6, z7, z8, z9, z10⟩ := B2.out.eleven
    have zf := B2.out.free
    go_wp2_with fail
    obtain ⟨B7, O7⟩ := put11 (v0 := (.int .i64 k)) (v1 := (.int .i64 n)) (v2 := (.int .i64 t.k)) (v3 := (.int .i64 t.n)) (v4 := (.complex .f64 t.x t.y)) (v5 := (.string t.S)) (v6 := (.int .i64 t.a)) (v7 := (.int .i64 t.b)) (v8 := (.slice none 0 0)) (v9 := (.slice none 0 0)) (v10 := (.slice none 0 0)) B2.out (Eq.refl _)
    clear z0 z1 z2 z3 z4 z5 z6 z7 z8 z9 z10 zf
    generalize (((((((((((w2.setCell ⟨w.heap.size, 0, none⟩ (.int .i64 k)).setCell ⟨w.heap.size, 1, none⟩ (.int .i64 n)).setCell ⟨w.heap.size, 2, none⟩ (.int .i64 t.k)).setCell ⟨w.heap.size, 3, none⟩ (.int .i64 t.n)).setCell ⟨w.heap.size, 4, none⟩ (.complex .f64 t.x t.y)).setCell ⟨w.heap.size, 5, none⟩ (.string t.S)).setCell ⟨w.heap.size, 6, none⟩ (.int .i64 t.a)).setCell ⟨w.heap.size, 7, none⟩ (.int .i64 t.b)).setCell ⟨w.heap.size, 8, none⟩ (.slice none 0 0)).setCell ⟨w.heap.size, 9, none⟩ (.slice none 0 0)).setCell ⟨w.heap.size, 10, none⟩ (.slice none 0 0)) = W8 at *
    have O8 := O2.out.trans O7 (fun b hb => .inr (by rw [List.mem_singleton.1 hb]; omega))
    obtain ⟨u0, u1, u2, u3, u4, u5, u6, u7, u8, u9, u10⟩ := B7.eleven
    exact bodyPost_ret (v := .tuple #[.agg #[.int .i64 k, .int .i64 n, .int .i64 t.k, .int .i64 t.n, .complex .f64 t.x t.y, .string t.S, .int .i64 t.a, .int .i64 t.b, .slice none 0 0, .slice none 0 0, .slice none 0 0], .int .i64 wd, .bool ok]) (by simp [results, Tryz.results47, go_sem, u0, u1, u2, u3, u4, u5, u6, u7, u8, u9, u10]) rfl ⟨HE.out, O8⟩
  have H2 := Lib.hid h2
  have e2 : ((b.toNat : Int) == 36) = false := by simp; omega
  clear h2
  by_cases h3 : b.toNat = 58
  · have H3 := Lib.hid h3
    have e3 : ((b.toNat : Int) == 58) = true := by rw [h3]; rfl
    clear h3
    go_enter Tryz.func47, Tryz.ntmps47
    go_wp2_with fail
    (with_reducible refine (HK.out _ HN.out hg2).mono ?_)
    rintro e w2 ⟨he, o2⟩
    have O2 := Lib.hid (O0.out.trans o2 (by simp))
    have B2 := Lib.hid (B0.out.only o2 (by simp))
    have L2 := B2.out.lt
    clear o2
    have HE := Lib.hid (leafE_kind H0.out H3.out HP.out he)
    clear he
    obtain ⟨k, n, t, wd, ok, rfl⟩ := leafE_shape HE.out
    obtain ⟨z0, z1, z2, z3, z4, z5, z6, z7, z8, z9, z10⟩ := B2.out.eleven
    have zf := B2.out.free
    go_wp2_with fail
    obtain ⟨B7, O7⟩ := put11 (v0 := (.int .i64 k)) (v1 := (.int .i64 n)) (v2 := (.int .i64 t.k)) (v3 := (.int .i64 t.n)) (v4 := (.complex .f64 t.x t.y)) (v5 := (.string t.S)) (v6 := (.int .i64 t.a)) (v7 := (.int .i64 t.b)) (v8 := (.slice none 0 0)) (v9 := (.slice none 0 0)) (v10 := (.slice none 0 0)) B2.out (Eq.refl _)
    clear z0 z1 z2 z3 z4 z5 z6 z7 z8 z9 z10 zf
    generalize (((((((((((w2.setCell ⟨w.heap.size, 0, none⟩ (.int .i64 k)).setCell ⟨w.heap.size, 1, none⟩ (.int .i64 n)).setCell ⟨w.heap.size, 2, none⟩ (.int .i64 t.k)).setCell ⟨w.heap.size, 3, none⟩ (.int .i64 t.n)).setCell ⟨w.heap.size, 4, none⟩ (.complex .f64 t.x t.y)).setCell ⟨w.heap.size, 5, none⟩ (.string t.S)).setCell ⟨w.heap.size, 6, none⟩ (.int .i64 t.a)).setCell ⟨w.heap.size, 7, none⟩ (.int .i64 t.b)).setCell ⟨w.heap.size, 8, none⟩ (.slice none 0 0)).setCell ⟨w.heap.size, 9, none⟩ (.slice none 0 0)).setCell ⟨w.heap.size, 10, none⟩ (.slice none 0 0)) = W8 at *
    have O8 := O2.out.trans O7 (fun b hb => .inr (by rw [List.mem_singleton.1 hb]; omega))
    obtain ⟨u0, u1, u2, u3, u4, u5, u6, u7, u8, u9, u10⟩ := B7.eleven
    exact bodyPost_ret (v := .tuple #[.agg #[.int .i64 k, .int .i64 n, .int .i64 t.k, .int .i64 t.n, .complex .f64 t.x t.y, .string t.S, .int .i64 t.a, .int .i64 t.b, .slice none 0 0, .slice none 0 0, .slice none 0 0], .int .i64 wd, .bool ok]) (by simp [results, Tryz.results47, go_sem, u0, u1, u2, u3, u4, u5, u6, u7, u8, u9, u10]) rfl ⟨HE.out, O8⟩
  have H3 := Lib.hid h3
  have e3 : ((b.toNat : Int) == 58) = false := by simp; omega
  clear h3
  go_enter Tryz.func47, Tryz.ntmps47
  go_wp2_with fail
  (with_reducible refine (HH.out _ HV.out).mono ?_)
  rintro e w2 ⟨ht, o2⟩
  have O2 := Lib.hid (O0.out.trans o2 (by simp))
  have B2 := Lib.hid (B0.out.only o2 (by simp))
  have L2 := B2.out.lt
  clear o2
  obtain ⟨z0, z1, z2, z3, z4, z5, z6, z7, z8, z9, z10⟩ := B2.out.eleven
  have zf := B2.out.free
  have hne : w.heap.size ≠ w2.heap.size := by omega
  cases hl : lf (r.extract 0 (fin r 0)) with
  | none =>
    rw [hl] at ht
    obtain ⟨sl, F, _, g2, g3⟩ := ht
    obtain rfl := (TV.leaf (by simp)).1 g2
    have he : e = .returned (.tuple #[.agg #[.int .i64 0, .int .i64 0, .complex .f64 0 0, .string ⟨#[]⟩, .int .i64 0, .int .i64 0, .slice none 0 0], .int .i64 0, .int .i64 40]) := g3
    subst he
    have HE := Lib.hid (leafE_bad H0.out H1.out H2.out H3.out HP.out hl)
    clear g2 g3 hl
    have D2 := Lib.hid (Bk.made w2 27 #[.int .i64 0, .int .i64 0, .complex .f64 0 0, .string ⟨#[]⟩, .int .i64 0, .int .i64 0, .slice none 0 0])
    obtain ⟨y0, y1, y2, y3, y4, y5, y6⟩ := D2.out.seven
    go_wp2_with fail
    obtain ⟨B7, O7⟩ := put11 (v0 := (.int .i64 3)) (v1 := (.int .i64 0)) (v2 := (.int .i64 0)) (v3 := (.int .i64 0)) (v4 := (.complex .f64 0 0)) (v5 := (.string ⟨#[]⟩)) (v6 := (.int .i64 0)) (v7 := (.int .i64 0)) (v8 := (.slice none 0 0)) (v9 := (.slice none 0 0)) (v10 := (.slice none 0 0)) B2.out (Eq.refl _)
    clear z0 z1 z2 z3 z4 z5 z6 z7 z8 z9 z10 zf y0 y1 y2 y3 y4 y5 y6
    generalize (((((((((((w2.setCell ⟨w.heap.size, 0, none⟩ (.int .i64 3)).setCell ⟨w.heap.size, 1, none⟩ (.int .i64 0)).setCell ⟨w.heap.size, 2, none⟩ (.int .i64 0)).setCell ⟨w.heap.size, 3, none⟩ (.int .i64 0)).setCell ⟨w.heap.size, 4, none⟩ (.complex .f64 0 0)).setCell ⟨w.heap.size, 5, none⟩ (.string ⟨#[]⟩)).setCell ⟨w.heap.size, 6, none⟩ (.int .i64 0)).setCell ⟨w.heap.size, 7, none⟩ (.int .i64 0)).setCell ⟨w.heap.size, 8, none⟩ (.slice none 0 0)).setCell ⟨w.heap.size, 9, none⟩ (.slice none 0 0)).setCell ⟨w.heap.size, 10, none⟩ (.slice none 0 0)) = W8 at *
    have O8 := O2.out.trans O7 (fun b hb => .inr (by rw [List.mem_singleton.1 hb]; omega))
    have B9 := B7.alloc (.cells #[.int .i64 0, .int .i64 0, .complex .f64 0 0, .string ⟨#[]⟩, .int .i64 0, .int .i64 0, .slice none 0 0] 27)
    have O9 := O8.alloc (.cells #[.int .i64 0, .int .i64 0, .complex .f64 0 0, .string ⟨#[]⟩, .int .i64 0, .int .i64 0, .slice none 0 0] 27)
    generalize W8.alloc (.cells #[.int .i64 0, .int .i64 0, .complex .f64 0 0, .string ⟨#[]⟩, .int .i64 0, .int .i64 0, .slice none 0 0] 27) = W9 at *
    obtain ⟨u0, u1, u2, u3, u4, u5, u6, u7, u8, u9, u10⟩ := B9.eleven
    exact bodyPost_ret (v := .tuple #[.agg #[.int .i64 3, .int .i64 0, .int .i64 0, .int .i64 0, .complex .f64 0 0, .string ⟨#[]⟩, .int .i64 0, .int .i64 0, .slice none 0 0, .slice none 0 0, .slice none 0 0], .int .i64 0, .bool false]) (by simp [results, Tryz.results47, go_sem, u0, u1, u2, u3, u4, u5, u6, u7, u8, u9, u10]) rfl ⟨HE.out _ _ _, O9⟩
  | some t =>
    have hgl := lf_good (by have h := (fin_bd hsz).2; rw [size_ext _ _ _ h]; omega) hl
    rw [hl] at ht
    obtain ⟨sl, F, _, g2, g3⟩ := ht
    obtain rfl := (TV.leaf hgl.2).1 g2
    have he : e = .returned (.tuple #[.agg #[.int .i64 t.k, .int .i64 t.n, .complex .f64 t.x t.y, .string t.S, .int .i64 t.a, .int .i64 t.b, .slice none 0 0], .int .i64 (fin r 0 : Nat), .int .i64 0]) := g3
    subst he
    have HE := Lib.hid (leafE_term H0.out H1.out H2.out H3.out HP.out hl)
    clear g2 g3 hl hgl
    have D2 := Lib.hid (Bk.made w2 27 #[.int .i64 t.k, .int .i64 t.n, .complex .f64 t.x t.y, .string t.S, .int .i64 t.a, .int .i64 t.b, .slice none 0 0])
    obtain ⟨y0, y1, y2, y3, y4, y5, y6⟩ := D2.out.seven
    go_wp2_with fail
    obtain ⟨B7, O7⟩ := put11 (v0 := (.int .i64 3)) (v1 := (.int .i64 0)) (v2 := (.int .i64 t.k)) (v3 := (.int .i64 t.n)) (v4 := (.complex .f64 t.x t.y)) (v5 := (.string t.S)) (v6 := (.int .i64 t.a)) (v7 := (.int .i64 t.b)) (v8 := (.slice none 0 0)) (v9 := (.slice none 0 0)) (v10 := (.slice none 0 0)) B2.out (Eq.refl _)
    clear z0 z1 z2 z3 z4 z5 z6 z7 z8 z9 z10 zf y0 y1 y2 y3 y4 y5 y6
    generalize (((((((((((w2.setCell ⟨w.heap.size, 0, none⟩ (.int .i64 3)).setCell ⟨w.heap.size, 1, none⟩ (.int .i64 0)).setCell ⟨w.heap.size, 2, none⟩ (.int .i64 t.k)).setCell ⟨w.heap.size, 3, none⟩ (.int .i64 t.n)).setCell ⟨w.heap.size, 4, none⟩ (.complex .f64 t.x t.y)).setCell ⟨w.heap.size, 5, none⟩ (.string t.S)).setCell ⟨w.heap.size, 6, none⟩ (.int .i64 t.a)).setCell ⟨w.heap.size, 7, none⟩ (.int .i64 t.b)).setCell ⟨w.heap.size, 8, none⟩ (.slice none 0 0)).setCell ⟨w.heap.size, 9, none⟩ (.slice none 0 0)).setCell ⟨w.heap.size, 10, none⟩ (.slice none 0 0)) = W8 at *
    have O8 := O2.out.trans O7 (fun b hb => .inr (by rw [List.mem_singleton.1 hb]; omega))
    have B9 := B7.alloc (.cells #[.int .i64 t.k, .int .i64 t.n, .complex .f64 t.x t.y, .string t.S, .int .i64 t.a, .int .i64 t.b, .slice none 0 0] 27)
    have O9 := O8.alloc (.cells #[.int .i64 t.k, .int .i64 t.n, .complex .f64 t.x t.y, .string t.S, .int .i64 t.a, .int .i64 t.b, .slice none 0 0] 27)
    generalize W8.alloc (.cells #[.int .i64 t.k, .int .i64 t.n, .complex .f64 t.x t.y, .string t.S, .int .i64 t.a, .int .i64 t.b, .slice none 0 0] 27) = W9 at *
    obtain ⟨u0, u1, u2, u3, u4, u5, u6, u7, u8, u9, u10⟩ := B9.eleven
    exact bodyPost_ret (v := .tuple #[.agg #[.int .i64 3, .int .i64 0, .int .i64 t.k, .int .i64 t.n, .complex .f64 t.x t.y, .string t.S, .int .i64 t.a, .int .i64 t.b, .slice none 0 0, .slice none 0 0, .slice none 0 0], .int .i64 (fin r 0 : Nat), .bool true]) (by simp [results, Tryz.results47, go_sem, u0, u1, u2, u3, u4, u5, u6, u7, u8, u9, u10]) rfl ⟨HE.out, O9⟩
end Go.Proofs.YtlilfmpikampgaaGreatDoor
