/- The program's reader: a count that fits.. The program's reader: lengths, numbers, parts of complex numbers.. Terms as they are read from bytes: the tree, its cells, how one is read (pure).. Whole numbers as floats: how they are read, how they stand, cut towards zero. -/
import Derived.Test.YtcdefnbehlcgeaaGreatDoorWa
import Derived.Laws.FloatArith
import Derived.Laws.Cover3
import GoSem.Extern.MathFloor
set_option maxHeartbeats 2000000
set_option maxRecDepth 20000
namespace Go.Proofs.YtcdefnbehlcgeaaGreatDoor
open Go.RowKit
theorem ret_bool {a b : Bool} (h : a = b) : Ending.returned (.bool a) = .returned (.bool b) := by rw [h]
def RdE {α : Type} (b : Nat) (s : ByteArray) (z : Value) (R : World → World → α → Value → Prop) (r : Rs α) (w : World) (e : Ending) (w' : World) : Prop :=
 match r with
 | .ok x q => ∃ u, e = .returned (.tuple #[u, .bool true]) ∧ R w w' x u ∧ Rdb w' b s q ∧ Only [b] w w' ∧ q ≤ s.size
 | .bad q => e = .returned (.tuple #[z, .bool false]) ∧ Rdb w' b s q ∧ Only [b] w w'
abbrev RI (_ _ : World) (n : Nat) (u : Value) : Prop := u = .int .i64 n
theorem fit_any (F : Nat) (fs cp : Array Value) (fits : Nat → Nat → Bool) (b : Nat) (s : ByteArray) (p : Nat) (w : World) (hb : Rdb w b s p) (hp : p ≤ s.size) (hs : s.size ≤ 262144) (hE : ∀ (args : Array Value) (w : World), (callFunc F args).run Tryz.prog w = .ok (.enter F args) w)
 (hF : ∀ n q w1, cnt s p = some (n, q) → Rdb w1 b s q → Only [b] w w1 → Calls Tryz.prog F (fs.push (.int .i64 n) ++ cp) w1 fun e w' => e = .returned (.bool (fits n q)) ∧ Only [] w1 w') :
 Calls Tryz.prog 76 #[.pointer (some ⟨b, 0, none⟩), .func (.func F) fs cp] w fun e w' => RdE b s (.int .i64 0) RI (rFit fits s p) w e w' := by
 obtain ⟨c0, c1⟩ := hb.two
 have f1 := hb.free 1
 have hC := count_any b s p w hb hp hs
 cases hc : cnt s p with
 | none =>
  have hr : rFit fits s p = .bad p := by unfold rFit; rw [hc]
  rw [hc] at hC
  have HC := Lib.hid hC
  rw [hr]
  clear hF hC hc hr
  go_enter Tryz.func76, Tryz.ntmps76
  go_wp2_with fail
  refine wp_scope_fwd 0 rfl ?_
  go_wp2_with fail
  (with_reducible refine HC.out.mono ?_)
  rintro e w1 ⟨rfl, o1⟩
  have hb1 := Bk.only hb o1 (by simp)
  have f1 := Bk.free hb1 1
  have c1 := (Rdb.two hb1).2
  have HB := Lib.hid hb1
  have HO := Lib.hid o1
  clear o1 hb1
  go_wp2_with fail
  refine wp_goto (And.intro rfl ?_)
  go_wp2_with fail
  try rw [Exit.last_ret]
  go_ret2
  exact ⟨rfl, Bk.set HB.out 1 _, (HO.out.more (by simp)).set (p := ⟨b, 1, none⟩) (.inl (by simp)) _⟩
 | some nq =>
  obtain ⟨n, q⟩ := nq
  rw [hc] at hC
  have HC := Lib.hid hC
  have HF := Lib.hid (fun w1 => hF n q w1 hc)
  have HQ := Lib.hid (cnt_bd hc).2.2
  have hr : rFit fits s p = if fits n q = true then .ok n q else .bad p := by unfold rFit; rw [hc]
  rw [hr]
  clear hF hC hc hr
  go_enter Tryz.func76, Tryz.ntmps76
  go_wp2_with fail
  refine wp_scope_fwd 0 rfl ?_
  go_wp2_with fail
  (with_reducible refine HC.out.mono ?_)
  rintro e w1 ⟨rfl, hb1, o1⟩
  have HB := Lib.hid hb1
  have HO := Lib.hid o1
  clear o1 hb1
  go_wp2_with fail
  (with_reducible refine ((HF.out _ HB.out HO.out)).mono ?_)
  rintro e w2 ⟨rfl, o2⟩
  have hb2 := Bk.only HB.out o2 (by simp)
  have f1 := Bk.free hb2 1
  have c1 := (Rdb.two hb2).2
  have HB2 := Lib.hid hb2
  have HO2 := Lib.hid (HO.out.trans (T := []) o2 (by simp))
  clear o2 hb2
  cases hf : fits n q with
  | true =>
   go_wp2_with fail
   try rw [Exit.jump_ret]
   go_ret2
   rw [if_pos hf]
   exact ⟨_, rfl, rfl, HB2.out, HO2.out, HQ.out⟩
  | false =>
   go_wp2_with fail
   refine wp_goto (And.intro rfl ?_)
   go_wp2_with fail
   try rw [Exit.last_ret]
   go_ret2
   rw [if_neg (by rw [hf]; decide)]
   exact ⟨rfl, Bk.set HB2.out 1 _, HO2.out.set (p := ⟨b, 1, none⟩) (.inl (by simp)) _⟩
theorem has_any (b : Nat) (s : ByteArray) (q n : Nat) (w : World) (hb : Rdb w b s q) (hq : q ≤ s.size) (hs : s.size ≤ 262144) :
 Calls Tryz.prog 77 #[.pointer (some ⟨b, 0, none⟩), .int .i64 n] w fun e w' => e = .returned (.bool (decide (n ≤ s.size - q))) ∧ Only [] w w' := by
 obtain ⟨c0, c1⟩ := hb.two
 have O := Lib.hid (fun m => (Only.refl [] w).drewN m)
 go_enter Tryz.func77, Tryz.ntmps77
 go_wp2_with fail
 go_quiet (fail)
 go_wp2_with fail
 go_ret
 exact ⟨ret_bool (by rw [Bool.eq_iff_iff, decide_eq_true_eq, decide_eq_true_eq]; omega), O.out _⟩
theorem oneOf1_any (most n m : Nat) (w : World) (hm : Bk w m 3 #[.int .i64 most]) : Calls Tryz.prog 92 #[.int .i64 n, .pointer (some ⟨m, 0, none⟩)] w fun e w' => e = .returned (.bool (decide (1 ≤ n ∧ n ≤ most))) ∧ Only [] w w' := by
 have c0 := hm.cell0 (i := 0) rfl
 have O := Lib.hid (Only.refl [] w)
 go_enter Tryz.func92, Tryz.ntmps92
 go_wp2_with fail
 all_goals
  go_ret
  exact ⟨ret_bool (by rw [Bool.eq_iff_iff]; simp; try omega), O.out⟩
theorem enter_one (args : Array Value) (w : World) : (callFunc 92 args).run Tryz.prog w = .ok (.enter 92 args) w := by kernel_rfl
theorem oneOf_any (b : Nat) (s : ByteArray) (p most : Nat) (w : World) (hb : Rdb w b s p) (hp : p ≤ s.size) (hs : s.size ≤ 262144) :
 Calls Tryz.prog 70 #[.pointer (some ⟨b, 0, none⟩), .int .i64 most] w fun e w' => RdE b s (.int .i64 0) RI (rOne most s p) w e w' := by
 have HB := Lib.hid (Bk.alloc hb (.cells #[.int .i64 most] 3))
 have HM := Lib.hid (Bk.made w 3 #[.int .i64 most])
 have HL := Lib.hid (Bk.lt hb)
 have HO := Lib.hid ((Only.refl [b] w).alloc (.cells #[.int .i64 most] 3))
 have HF := Lib.hid (fit_any 92 #[] #[.pointer (some ⟨w.heap.size, 0, none⟩)] (fun n _ => decide (1 ≤ n ∧ n ≤ most)) b s p _ HB.out hp hs enter_one
  (fun n q w1 _ hb1 o => oneOf1_any most n w.heap.size w1 (HM.out.only o (by simp; have := HL.out; omega))))
 show Calls Tryz.prog _ _ w fun e w' => RdE b s (.int .i64 0) RI (rFit (fun n _ => decide (1 ≤ n ∧ n ≤ most)) s p) w e w'
 generalize rFit (fun n _ => decide (1 ≤ n ∧ n ≤ most)) s p = r at HF ⊢
 go_enter Tryz.func70, Tryz.ntmps70
 go_wp2_with fail
 (with_reducible refine HF.out.mono ?_)
 intro e w1 h
 cases r with
 | ok x q =>
  obtain ⟨u, rfl, rfl, h3, h4, h5⟩ := h
  have H3 := Lib.hid h3
  have H4 := Lib.hid (HO.out.trans h4 (fun i hi => .inl hi))
  clear h3 h4
  go_wp2_with fail
  go_ret2
  exact ⟨_, rfl, rfl, H3.out, H4.out, h5⟩
 | bad q =>
  obtain ⟨rfl, h3, h4⟩ := h
  have H3 := Lib.hid h3
  have H4 := Lib.hid (HO.out.trans h4 (fun i hi => .inl hi))
  clear h3 h4
  go_wp2_with fail
  go_ret2
  exact ⟨rfl, H3.out, H4.out⟩
open Go.RowKit
theorem count_rd (b : Nat) (s : ByteArray) (p : Nat) (w : World) (hb : Rdb w b s p) (hp : p ≤ s.size) (hs : s.size ≤ 262144) :
 Calls Tryz.prog 45 #[.pointer (some ⟨b, 0, none⟩)] w fun e w' => RdE b s (.int .i64 0) RI (rCnt s p) w e w' := by
 refine (count_any b s p w hb hp hs).mono fun e w' h => ?_
 unfold rCnt
 cases hc : cnt s p with
 | none =>
  rw [hc] at h
  exact ⟨h.1, Bk.only hb h.2 (by simp), h.2.more (by simp)⟩
 | some nq =>
  obtain ⟨n, q⟩ := nq
  rw [hc] at h
  exact ⟨_, h.1, rfl, h.2.1, h.2.2, (cnt_bd hc).2.2⟩
theorem enter_has (args : Array Value) (w : World) : (callFunc 77 args).run Tryz.prog w = .ok (.enter 77 args) w := by kernel_rfl
theorem length_any (b : Nat) (s : ByteArray) (p : Nat) (w : World) (hb : Rdb w b s p) (hp : p ≤ s.size) (hs : s.size ≤ 262144) :
 Calls Tryz.prog 43 #[.pointer (some ⟨b, 0, none⟩)] w fun e w' => RdE b s (.int .i64 0) RI (rLen s p) w e w' := by
 have HF := Lib.hid (fit_any 77 #[.pointer (some ⟨b, 0, none⟩)] #[] (fun n q => decide (n ≤ s.size - q)) b s p w hb hp hs enter_has
  (fun n q w1 hc hb1 o => has_any b s q n w1 hb1 (cnt_bd hc).2.2 hs))
 show Calls Tryz.prog _ _ w fun e w' => RdE b s (.int .i64 0) RI (rFit (fun n q => decide (n ≤ s.size - q)) s p) w e w'
 generalize rFit (fun n q => decide (n ≤ s.size - q)) s p = r at HF ⊢
 go_enter Tryz.func43, Tryz.ntmps43
 go_wp2_with fail
 (with_reducible refine HF.out.mono ?_)
 intro e w1 h
 cases r with
 | ok x q =>
  obtain ⟨u, rfl, rfl, h3, h4, h5⟩ := h
  have H3 := Lib.hid h3
  have H4 := Lib.hid h4
  clear h3 h4
  go_wp2_with fail
  go_ret2
  exact ⟨_, rfl, rfl, H3.out, H4.out, h5⟩
 | bad q =>
  obtain ⟨rfl, h3, h4⟩ := h
  have H3 := Lib.hid h3
  have H4 := Lib.hid h4
  clear h3 h4
  go_wp2_with fail
  go_ret2
  exact ⟨rfl, H3.out, H4.out⟩
theorem ret_int {a b : Int} (h : a = b) : Ending.returned (.int .i64 a) = .returned (.int .i64 b) := by rw [h]
theorem signed_any (n : Nat) (w : World) (hn : n < 9223372036854775808) : Calls Tryz.prog 93 #[.int .i64 n] w fun e w' => e = .returned (.int .i64 (sgnd n)) ∧ w = w' := by
 by_cases h : n % 2 = 0
 ·have g : ((n : Int)).tmod 2 = 0 := by rw [Int.tmod_eq_emod_of_nonneg (by omega)]; omega
  have hv : sgnd n = ((n / 2 : Nat) : Int) := by unfold sgnd; rw [if_pos h]
  rw [hv]
  go_enter Tryz.func93, Tryz.ntmps93
  go_wp2_with fail
  all_goals
   go_ret
   exact ⟨ret_int (by omega), rfl⟩
 ·have g : ((n : Int)).tmod 2 = 1 := by rw [Int.tmod_eq_emod_of_nonneg (by omega)]; omega
  have hv : sgnd n = -((n / 2 : Nat) : Int) - 1 := by unfold sgnd; rw [if_neg h]
  rw [hv]
  go_enter Tryz.func93, Tryz.ntmps93
  go_wp2_with fail
  all_goals
   go_ret
   exact ⟨ret_int (by omega), rfl⟩
abbrev RZ (_ _ : World) (n : Int) (u : Value) : Prop := u = .int .i64 n
theorem number_any (b : Nat) (s : ByteArray) (p : Nat) (w : World) (hb : Rdb w b s p) (hp : p ≤ s.size) (hs : s.size ≤ 262144) :
 Calls Tryz.prog 71 #[.pointer (some ⟨b, 0, none⟩)] w fun e w' => RdE b s (.int .i64 0) RZ (rNum s p) w e w' := by
 have HF := Lib.hid (count_rd b s p w hb hp hs)
 have hbd : ∀ x q, rCnt s p = .ok x q → x < 9223372036854775808 := by
  intro x q h
  unfold rCnt at h
  split at h
  ·rename_i n q' hc
   injection h with h1 h2
   subst h1
   exact (cnt_bd hc).1
  ·cases h
 show Calls Tryz.prog _ _ w fun e w' => RdE b s (.int .i64 0) RZ ((rCnt s p).map sgnd) w e w'
 generalize rCnt s p = r at HF hbd ⊢
 go_enter Tryz.func71, Tryz.ntmps71
 go_wp2_with fail
 (with_reducible refine HF.out.mono ?_)
 intro e w1 h
 cases r with
 | ok x q =>
  obtain ⟨u, rfl, rfl, h3, h4, h5⟩ := h
  have H3 := Lib.hid h3
  have H4 := Lib.hid h4
  have HS := Lib.hid (fun w => signed_any x w (hbd x q rfl))
  clear h3 h4 hbd
  go_wp2_with fail
  (with_reducible refine (HS.out _).mono ?_)
  rintro e w2 ⟨rfl, rfl⟩
  go_wp2_with fail
  go_ret2
  exact ⟨_, rfl, rfl, H3.out, H4.out, h5⟩
 | bad q =>
  obtain ⟨rfl, h3, h4⟩ := h
  have H3 := Lib.hid h3
  have H4 := Lib.hid h4
  have HS := Lib.hid (fun w => (show Calls Tryz.prog 93 #[.int .i64 0] w fun e w' => e = .returned (.int .i64 0) ∧ w = w' from signed_any 0 w (by omega)))
  clear h3 h4 hbd
  go_wp2_with fail
  (with_reducible refine (HS.out _).mono ?_)
  rintro e w2 ⟨rfl, rfl⟩
  go_wp2_with fail
  go_ret2
  exact ⟨rfl, H3.out, H4.out⟩
abbrev RF (_ _ : World) (n : Int) (u : Value) : Prop := u = .float .f64 (floatOfInt .f64 n)
theorem enter_part (args : Array Value) (w : World) : (callFunc 107 args).run Tryz.prog w = .ok (.enter 107 args) w := by kernel_rfl
theorem part1_any (n : Nat) (w : World) (hn : n < 9223372036854775808) : Calls Tryz.prog 107 #[.int .i64 n] w fun e w' => e = .returned (.bool (decide (-1073741824 ≤ sgnd n ∧ sgnd n ≤ 1073741824))) ∧ Only [] w w' := by
 have O := Lib.hid (Only.refl [] w)
 have HS := Lib.hid (fun w => signed_any n w hn)
 generalize sgnd n = z at HS ⊢
 go_enter Tryz.func107, Tryz.ntmps107
 go_wp2_with fail
 (with_reducible refine (HS.out _).mono ?_)
 rintro e w2 ⟨rfl, rfl⟩
 by_cases h1 : -1073741824 ≤ z
 ·go_wp2_with fail
  (with_reducible refine (HS.out _).mono ?_)
  rintro e w2 ⟨rfl, rfl⟩
  go_wp2_with fail
  all_goals
   go_ret
   exact ⟨ret_bool (by rw [Bool.eq_iff_iff]; simp; try omega), O.out⟩
 ·go_wp2_with fail
  all_goals
   go_ret
   exact ⟨ret_bool (by rw [Bool.eq_iff_iff]; simp; try omega), O.out⟩
theorem part_any (b : Nat) (s : ByteArray) (p : Nat) (w : World) (hb : Rdb w b s p) (hp : p ≤ s.size) (hs : s.size ≤ 262144) :
 Calls Tryz.prog 94 #[.pointer (some ⟨b, 0, none⟩)] w fun e w' => RdE b s (.float .f64 0) RF (rPart s p) w e w' := by
 have HF := Lib.hid (fit_any 107 #[] #[] (fun n _ => decide (-1073741824 ≤ sgnd n ∧ sgnd n ≤ 1073741824)) b s p w hb hp hs enter_part
  (fun n q w1 hc hb1 o => part1_any n w1 (cnt_bd hc).1))
 have hbd : ∀ x q, rFit (fun n _ => decide (-1073741824 ≤ sgnd n ∧ sgnd n ≤ 1073741824)) s p = .ok x q → x < 9223372036854775808 := by
  intro x q h
  unfold rFit at h
  split at h
  ·rename_i n q' hc
   split at h
   ·injection h with h1 h2
    subst h1
    exact (cnt_bd hc).1
   ·cases h
  ·cases h
 show Calls Tryz.prog _ _ w fun e w' => RdE b s (.float .f64 0) RF ((rFit (fun n _ => decide (-1073741824 ≤ sgnd n ∧ sgnd n ≤ 1073741824)) s p).map sgnd) w e w'
 generalize rFit (fun n _ => decide (-1073741824 ≤ sgnd n ∧ sgnd n ≤ 1073741824)) s p = r at HF hbd ⊢
 go_enter Tryz.func94, Tryz.ntmps94
 go_wp2_with fail
 (with_reducible refine HF.out.mono ?_)
 intro e w1 h
 cases r with
 | ok x q =>
  obtain ⟨u, rfl, rfl, h3, h4, h5⟩ := h
  have H3 := Lib.hid h3
  have H4 := Lib.hid h4
  have HS := Lib.hid (fun w => signed_any x w (hbd x q rfl))
  clear h3 h4 hbd
  go_wp2_with fail
  (with_reducible refine (HS.out _).mono ?_)
  rintro e w2 ⟨rfl, rfl⟩
  go_wp2_with fail
  go_ret2
  exact ⟨_, rfl, rfl, H3.out, H4.out, h5⟩
 | bad q =>
  obtain ⟨rfl, h3, h4⟩ := h
  have H3 := Lib.hid h3
  have H4 := Lib.hid h4
  have HS := Lib.hid (fun w => (show Calls Tryz.prog 93 #[.int .i64 0] w fun e w' => e = .returned (.int .i64 0) ∧ w = w' from signed_any 0 w (by omega)))
  clear h3 h4 hbd
  go_wp2_with fail
  (with_reducible refine (HS.out _).mono ?_)
  rintro e w2 ⟨rfl, rfl⟩
  go_wp2_with fail
  go_ret2
  exact ⟨rfl, H3.out, H4.out⟩
open Go
inductive T where
 | zero | nil | bool (n : Int) | int (n : Int) | com (re im : Int) | atom (s : ByteArray) | pid (n g : Int) | ref (n : Int) | tup (k : Int) (l : List T)
def lst (s : ByteArray) : List UInt8 := s.data.toList
theorem lst_len (s : ByteArray) : (lst s).length = s.size := by simp only [lst, Array.length_toList]; rfl
theorem T.ind {P : T → Prop} (leaf : ∀ t, (∀ k l, t ≠ .tup k l) → P t) (tup : ∀ k l, (∀ t ∈ l, P t) → P (.tup k l)) (t : T) : P t :=
 T.rec (motive_1 := P) (motive_2 := fun l => ∀ t ∈ l, P t) (leaf _ (by simp)) (leaf _ (by simp)) (fun _ => leaf _ (by simp)) (fun _ => leaf _ (by simp)) (fun _ _ => leaf _ (by simp)) (fun _ => leaf _ (by simp)) (fun _ _ => leaf _ (by simp)) (fun _ => leaf _ (by simp))
  (fun k l h => tup k l h) (by simp) (fun t l h1 h2 => by
    intro u hu
    rcases List.mem_cons.1 hu with rfl | hu
    ·exact h1
    ·exact h2 u hu) t
abbrev tD (k n : Int) (x y : Nat) (S : ByteArray) (a b : Int) (d : D) : List D := [.v (.int .i64 k), .v (.int .i64 n), .v (.complex .f64 x y), .v (.string S), .v (.int .i64 a), .v (.int .i64 b), d]
abbrev noD : D := .v (.slice none 0 0)
mutual
def T.ds : T → List D
 | .zero => tD 0 0 0 0 ⟨#[]⟩ 0 0 noD
 | .nil => tD 1 0 0 0 ⟨#[]⟩ 0 0 noD
 | .bool n => tD 2 n 0 0 ⟨#[]⟩ 0 0 noD
 | .int n => tD 3 n 0 0 ⟨#[]⟩ 0 0 noD
 | .com re im => tD 4 0 (floatOfInt .f64 re) (floatOfInt .f64 im) ⟨#[]⟩ 0 0 noD
 | .atom s => tD 5 0 0 0 s 0 0 noD
 | .pid n g => tD 6 0 0 0 ⟨#[]⟩ n g noD
 | .ref n => tD 7 n 0 0 ⟨#[]⟩ 0 0 noD
 | .tup k l => tD k 0 0 0 ⟨#[]⟩ 0 0 (.sl l.length (T.dss l))
def T.dss : List T → List D
 | [] => []
 | t :: l => t.ds ++ T.dss l
end
theorem dss_flat : ∀ l : List T, T.dss l = l.flatMap T.ds
 | [] => by simp only [T.dss]; rfl
 | t :: l => by simp only [T.dss, List.flatMap_cons, dss_flat l]
theorem ds_len (t : T) : t.ds.length = 7 := by cases t <;> simp only [T.ds] <;> rfl
theorem ds_one (t : T) : ∀ d ∈ t.ds, d.One := by
 intro d hd
 cases t <;> simp only [T.ds, List.mem_cons, List.not_mem_nil, or_false] at hd <;> rcases hd with rfl | rfl | rfl | rfl | rfl | rfl | rfl <;> first | trivial | rfl
def rParts (s : ByteArray) (p : Nat) : Rs (Int × Int) := (rPart s p).bind fun a q => (rPart s q).bind fun c r => .ok (a, c) r
def rPid (s : ByteArray) (p : Nat) : Rs (Nat × Nat) := (rCnt s p).bind fun a q => (rCnt s q).bind fun c r => .ok (a, c) r
def rKind (one : Nat → Rs T) (s : ByteArray) (k q : Nat) : Rs T :=
 if k = 1 then .ok .nil q
 else if k = 2 then (rCnt s q).map fun (n : Nat) => T.bool (n : Int)
 else if k = 3 then (rNum s q).map .int
 else if k = 4 then (rParts s q).map fun x => .com x.1 x.2
 else if k = 5 then (rName s q).map .atom
 else if k = 6 then (rPid s q).map fun x => T.pid (x.1 : Int) (x.2 : Int)
 else if k = 7 then (rCnt s q).map fun (n : Nat) => T.ref (n : Int)
 else (rSome one s q).map (.tup k)
def rTerm (s : ByteArray) : Nat → Nat → Rs T
 | 0, p => .bad p
 | d + 1, p => (rOne 9 s p).bind fun k q => rKind (fun p => rTerm s d p) s k q
open Ieee
theorem fl_least : double.leastPlace = -1074 := by decide
theorem fl_binade : double.binade = 4503599627370496 := by decide
theorem fl_inf : double.infRung = 9218868437227405312 := by decide
theorem fl_sign : double.signWeight = 9223372036854775808 := by decide
theorem log2_bd {m : Nat} (h0 : 0 < m) (h : m < 9007199254740992) : m.log2 ≤ 52 := by
 have : m.log2 < 53 := (Nat.log2_lt (by omega)).2 h
 omega
theorem kept_bd {m : Nat} (h0 : 0 < m) (h : m < 9007199254740992) : 4503599627370496 ≤ m * 2 ^ (52 - m.log2) ∧ m * 2 ^ (52 - m.log2) < 9007199254740992 := by
 have hl := log2_bd h0 h
 have h1 : 2 ^ m.log2 ≤ m := Nat.log2_self_le (by omega)
 have h2 : m < 2 ^ (m.log2 + 1) := Nat.lt_log2_self
 have e1 : 2 ^ m.log2 * 2 ^ (52 - m.log2) = 4503599627370496 := by rw [← Nat.pow_add, show m.log2 + (52 - m.log2) = 52 by omega]
 have e2 : 2 ^ (m.log2 + 1) * 2 ^ (52 - m.log2) = 9007199254740992 := by rw [← Nat.pow_add, show m.log2 + 1 + (52 - m.log2) = 53 by omega]
 refine ⟨by rw [← e1]; exact Nat.mul_le_mul_right _ h1, by rw [← e2]; exact Nat.mul_lt_mul_of_pos_right h2 (Nat.pow_pos (by decide))⟩
theorem nearest_small (s : Bool) (m : Nat) (h0 : 0 < m) (h : m < 9007199254740992) :
 double.nearest s m 0 = double.word s ((m.log2 + 1022) * 4503599627370496 + m * 2 ^ (52 - m.log2)) := by
 have hl := log2_bd h0 h
 obtain ⟨k1, k2⟩ := kept_bd h0 h
 unfold Format.nearest
 rw [if_neg (by omega)]
 have e1 : max ((0 : Int) + (m.log2 : Int) - (double.fractionBits : Nat)) double.leastPlace = (m.log2 : Int) - 52 := by
  rw [fl_least]; show max ((0 : Int) + (m.log2 : Int) - (52 : Nat)) (-1074) = _; omega
 simp only [e1]
 have e2 : ((0 : Int) - ((m.log2 : Int) - 52)).toNat = 52 - m.log2 := by omega
 have e3 : ((m.log2 : Int) - 52 - 0).toNat = 0 := by omega
 have e4 : ((m.log2 : Int) - 52 - double.leastPlace).toNat = m.log2 + 1022 := by rw [fl_least]; omega
 rw [e2, e3, e4, fl_binade, fl_inf]
 have e5 : Toward.even.cut s (m <<< (52 - m.log2)) 0 = m * 2 ^ (52 - m.log2) := by
  unfold Toward.cut
  simp [Nat.shiftLeft_eq, Nat.mod_one]
 rw [e5, Nat.min_eq_left (by omega)]
theorem read_word (s : Bool) (L k : Nat) (hL : L ≤ 52) (h1 : 4503599627370496 ≤ k) (h2 : k < 9007199254740992) :
 double.read (double.word s ((L + 1022) * 4503599627370496 + k)) = .number s k ((L : Int) - 52) := by
 have hr : (L + 1022) * 4503599627370496 + k < 9218868437227405312 := by omega
 have w1 : (double.word s ((L + 1022) * 4503599627370496 + k)) / double.signWeight % 2 = if s then 1 else 0 := by
  unfold Format.word; rw [fl_sign]
  cases s
  ·simp; omega
  ·simp; omega
 have w2 : (double.word s ((L + 1022) * 4503599627370496 + k)) % double.signWeight = (L + 1022) * 4503599627370496 + k := by
  unfold Format.word; rw [fl_sign]
  cases s
  ·simp; omega
  ·simp; omega
 unfold Format.read
 simp only [w1, w2, fl_binade, fl_inf]
 rw [if_neg (by omega), if_pos hr, fl_least]
 congr 1
 ·cases s <;> rfl
 ·omega
 ·omega
theorem read_fl (n : Int) (h0 : n ≠ 0) (h : n.natAbs < 9007199254740992) :
 double.read (floatOfInt .f64 n) = .number (decide (n < 0)) (n.natAbs * 2 ^ (52 - n.natAbs.log2)) ((n.natAbs.log2 : Int) - 52) := by
 have hp : 0 < n.natAbs := by omega
 obtain ⟨k1, k2⟩ := kept_bd hp h
 show double.read (double.nearest (decide (n < 0)) n.natAbs 0) = _
 rw [nearest_small _ _ hp h, read_word _ _ _ (log2_bd hp h) k1 k2]
theorem read_fl0 : double.read (floatOfInt .f64 0) = .number false 0 (-1074) := by decide
def IsW (x : Nat) (n : Int) : Prop := ∃ k : Nat, double.read x = .number (decide (n < 0)) (n.natAbs * 2 ^ k) (-(k : Int))
theorem zero_shift (k : Nat) : Datum.number false 0 (-(k : Int)) = .number (decide ((0 : Int) < 0)) ((0 : Int).natAbs * 2 ^ k) (-(k : Int)) := by simp
theorem isW_0 : IsW (floatOfInt .f64 0) 0 := ⟨1074, read_fl0.trans (zero_shift 1074)⟩
theorem isW_fl (n : Int) (h : n.natAbs < 9007199254740992) : IsW (floatOfInt .f64 n) n := by
 by_cases h0 : n = 0
 ·subst h0
  exact isW_0
 ·refine ⟨52 - n.natAbs.log2, ?_⟩
  rw [read_fl n h0 h]
  have := log2_bd (by omega) h
  congr 1
  omega
theorem signed_w (n : Int) (k up : Nat) : signed (decide (n < 0)) (n.natAbs * 2 ^ k) up = n * 2 ^ (k + up) := by
 unfold signed
 rw [Nat.shiftLeft_eq, Nat.mul_assoc, ← Nat.pow_add]
 by_cases h : n < 0
 ·rw [if_pos (by simpa using h)]
  have : (n.natAbs : Int) = -n := by omega
  push_cast
  rw [this]
  simp [Int.neg_mul]
 ·rw [if_neg (by simpa using h)]
  have : (n.natAbs : Int) = n := by omega
  push_cast
  rw [this]
theorem compare_mul (a b : Int) (k : Nat) : compare (a * 2 ^ k) (b * 2 ^ k) = compare a b := by
 have hp : (0 : Int) < 2 ^ k := Int.pow_pos (by decide)
 rw [Int.compare_eq_ite_lt, Int.compare_eq_ite_lt]
 have e1 : (a * 2 ^ k < b * 2 ^ k) = (a < b) := propext ⟨fun h => Int.lt_of_mul_lt_mul_right h (Int.le_of_lt hp), fun h => Int.mul_lt_mul_of_pos_right h hp⟩
 have e2 : (b * 2 ^ k < a * 2 ^ k) = (b < a) := propext ⟨fun h => Int.lt_of_mul_lt_mul_right h (Int.le_of_lt hp), fun h => Int.mul_lt_mul_of_pos_right h hp⟩
 simp only [e1, e2]
theorem order_w {x y : Nat} {a b : Int} (hx : IsW x a) (hy : IsW y b) : FloatKind.f64.format.order x y = some (compare a b) := by
 obtain ⟨k, hk⟩ := hx
 obtain ⟨j, hj⟩ := hy
 show (double.read x).order (double.read y) = _
 rw [hk, hj]
 unfold Datum.order
 simp only [signed_w]
 have e : k + (-(k : Int) - min (-(k : Int)) (-(j : Int))).toNat = j + (-(j : Int) - min (-(k : Int)) (-(j : Int))).toNat := by omega
 rw [e, compare_mul]
theorem integral_w {x : Nat} {n : Int} (h : IsW x n) : (double.read x).integral .zero = .number (decide (n < 0)) n.natAbs 0 := by
 obtain ⟨k, hk⟩ := h
 rw [hk]
 unfold Datum.integral
 simp only
 congr 1
 have e1 : (-(k : Int)).toNat = 0 := by omega
 have e2 : (-(-(k : Int))).toNat = k := by omega
 rw [e1, e2]
 unfold Toward.cut
 simp only [Bool.toNat_false, Nat.add_zero, Nat.shiftLeft_eq, Nat.one_mul, Nat.pow_zero, Nat.mul_one]
 by_cases h0 : n.natAbs = 0
 ·rw [h0]; simp
 ·have hlog : k ≤ (n.natAbs * 2 ^ k).log2 + 2 := by
   have : 2 ^ k ≤ n.natAbs * 2 ^ k := by
    have := Nat.mul_le_mul_right (2 ^ k) (show 1 ≤ n.natAbs by omega)
    simpa using this
   have := (Nat.le_log2 (by have : 0 < n.natAbs * 2 ^ k := Nat.mul_pos (by omega) (Nat.pow_pos (by decide)); omega)).2 this
   omega
  rw [Nat.min_eq_left hlog, Nat.mul_div_cancel _ (Nat.pow_pos (by decide))]
theorem trunc_fl (P : Program) (n : Int) (h : n.natAbs < 9007199254740992) (w : World) :
 (Extern.MathFloor.toIntegral "math.archTrunc" .zero #[.float .f64 (floatOfInt .f64 n)]).run P w = .ok (.float .f64 (floatOfInt .f64 n)) w := by
 have hw := isW_fl n h
 have hi := integral_w hw
 obtain ⟨k, hk⟩ := hw
 rw [hk] at hi
 show (match double.read (floatOfInt .f64 n) with | .nan s t => _ | d => (pure (Value.float .f64 (FloatKind.f64.encode (d.integral .zero))) : Sem Value)).run P w = _
 rw [hk]
 simp only [hi]
 rfl
theorem toInt_fl (n : Int) (h : n.natAbs < 9007199254740992) : floatToIntVal .f64 (floatOfInt .f64 n) .i64 = some n := by
 have hi := integral_w (isW_fl n h)
 unfold floatToIntVal Datum.toInt
 simp only [FloatKind.decode, FloatKind.format]
 rw [hi]
 have e : signed (decide (n < 0)) n.natAbs 0 = n := by
  have := signed_w n 0 0
  simpa using this
 simp only [e]
 rw [if_pos (by rw [show IntKind.i64.min = -9223372036854775808 by decide, show IntKind.i64.max = 9223372036854775807 by decide]; omega)]
theorem fl_lo : floatOfInt .f64 (-1073741824) = 13965662444475908096 := by decide
theorem fl_hi : floatOfInt .f64 1073741824 = 4742290407621132288 := by decide
theorem fl_0 : floatOfInt .f64 0 = 0 := by decide
end Go.Proofs.YtcdefnbehlcgeaaGreatDoor
