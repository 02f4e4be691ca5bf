/- Which terms may be, the terms in them aside: the document's one.. Terms in memory: where a term's terms lie; which trees may be.. -/
import Derived.Test.YtcdefnbehlcgeaaGreatDoorWc
set_option maxHeartbeats 4000000
namespace Go.Proofs.YtcdefnbehlcgeaaGreatDoor
open Go.RowKit
theorem Bk.madeAt {w : World} {t : TypeId} {cs : Array Value} {b : Nat} (h : b = w.heap.size) : Bk (w.alloc (.cells cs t)) b t cs := by
 subst h
 exact Bk.made _ _ _
theorem Bk.seven {w : World} {b : Nat} {t : TypeId} {v0 v1 v2 v3 v4 v5 v6 : Value} (h : Bk w b t #[v0, v1, v2, v3, v4, v5, v6]) :
 w.cell? ⟨b, 0, none⟩ = some v0 ∧ w.cell? ⟨b, 1, none⟩ = some v1 ∧ w.cell? ⟨b, 2, none⟩ = some v2 ∧ w.cell? ⟨b, 3, none⟩ = some v3 ∧ w.cell? ⟨b, 4, none⟩ = some v4 ∧ w.cell? ⟨b, 5, none⟩ = some v5 ∧ w.cell? ⟨b, 6, none⟩ = some v6 :=
 ⟨h.cell0 rfl, h.cell0 rfl, h.cell0 rfl, h.cell0 rfl, h.cell0 rfl, h.cell0 rfl, h.cell0 rfl⟩
theorem rpid (a b : Int) (w : World) : Calls Tryz.prog 115 #[.agg #[.int .i64 a, .int .i64 b]] w fun e w' => e = .returned (.bool (okPid a b)) ∧ Only [] w w' := by
 go_enter Tryz.func115, Tryz.ntmps115
 go_wp2_with fail
 all_goals
  go_ret
  exact ⟨ret_bool (by rw [Bool.eq_iff_iff]; simp [okPid]; omega), (Only.refl _ _).alloc _⟩
theorem rzero (x y : Nat) (w : World) (r : Bool) (hr : ((FloatKind.f64.format.order x 0 == some .eq) && (FloatKind.f64.format.order y 0 == some .eq)) = r) : Calls Tryz.prog 116 #[.complex .f64 x y] w fun e w' => e = .returned (.bool r) ∧ w = w' := by
 go_enter Tryz.func116, Tryz.ntmps116
 go_wp2_with fail
 go_ret
 exact ⟨rfl, rfl⟩
theorem rwhole (n : Int) (w : World) (h : okPart n = true) : Calls Tryz.prog 113 #[.float .f64 (floatOfInt .f64 n)] w fun e w' => e = .returned (.bool true) ∧ w = w' := by
 have e1 := part_me h
 have hb := okPart_bd h
 have hc := fun w => run_convert_float_int (P := Tryz.prog) w 118 3 .f64 .i64 (floatOfInt .f64 n) n (by kernel_rfl) Tryz.underlying3 (toInt_fl n (by omega))
 by_cases h0 : n = 0
 ·subst h0
  have z0 : FloatKind.f64.format.order 0 0 = some .eq := by decide
  have z1 : FloatKind.f64.format.order 0 13965662444475908096 = some .gt := by decide
  have z2 : FloatKind.f64.format.order 0 4742290407621132288 = some .lt := by decide
  have zf := fl_0
  rw [fl_0] at hc ⊢
  have zd : ∀ (w : World) (t : TypeId), (binOp .quo t (.float .f64 4607182418800017408) (.float .f64 0)).run Tryz.prog w = .ok (.float .f64 9218868437227405312) w := fun w t => run_float_arith w .quo t .f64 4607182418800017408 0 9218868437227405312 (by decide)
  have z3 : FloatKind.f64.format.order 9218868437227405312 0 = some .gt := by decide
  clear h e1
  go_enter Tryz.func113, Tryz.ntmps113
  go_wp2_with fail
  go_ret
  exact ⟨rfl, rfl⟩
 ·have h2 := part_lo h
  have h3 := part_hi h
  have h4 := part_no h h0
  clear h h0 hb
  rcases h2 with h2 | h2 <;> rcases h3 with h3 | h3 <;> rcases h4 with h4 | h4
  all_goals
   go_enter Tryz.func113, Tryz.ntmps113
   go_wp2_with fail
   go_ret
   exact ⟨rfl, rfl⟩
theorem store_com (w : World) (a : Addr) (m : Mode) (k : FloatKind) (x y : Nat) : (store a (.complex k x y) m).run Tryz.prog w = stored Tryz.prog w a (.complex k x y) m := run_store Tryz.prog w a _ m rfl
theorem rzero0 (w : World) : Calls Tryz.prog 116 #[.complex .f64 0 0] w fun e w' => e = .returned (.bool true) ∧ w = w' := rzero 0 0 w true (by decide)
theorem one_nil (w : World) : Calls Tryz.prog 101 #[.agg (tcs 1 0 0 0 ⟨#[]⟩ 0 0 (.slice none 0 0))] w fun e w' => e = .returned (.bool true) ∧ Only [] w w' := by
 have e0 := eqPid 0 0 0 0
 have rs := store_com
 go_enter Tryz.func101, Tryz.ntmps101
 go_wp2_with fail
 (with_reducible refine (rzero0 _).mono ?_)
 rintro e w' ⟨rfl, rfl⟩
 go_wp2_with fail
 go_ret
 exact ⟨rfl, ((Only.refl _ _).alloc _).alloc _⟩
theorem one_bool1 (n : Int) (w : World) (hn : n = 0 ∨ n = 1) : Calls Tryz.prog 101 #[.agg (tcs 2 n 0 0 ⟨#[]⟩ 0 0 (.slice none 0 0))] w fun e w' => e = .returned (.bool true) ∧ Only [] w w' := by
 have e0 := eqPid 0 0 0 0
 have rs := store_com
 rcases hn with rfl | rfl
 all_goals
  go_enter Tryz.func101, Tryz.ntmps101
  go_wp2_with fail
  (with_reducible refine (rzero0 _).mono ?_)
  rintro e w' ⟨rfl, rfl⟩
  go_wp2_with fail
  go_ret
  exact ⟨rfl, ((Only.refl _ _).alloc _).alloc _⟩
theorem one_bool (n : Int) (r : Bool) (w : World) (hr : okBool n = r) : Calls Tryz.prog 101 #[.agg (tcs 2 n 0 0 ⟨#[]⟩ 0 0 (.slice none 0 0))] w fun e w' => e = .returned (.bool r) ∧ Only [] w w' := by
 by_cases hn : n = 0 ∨ n = 1
 ·rw [← hr, show okBool n = true from decide_eq_true hn]
  exact one_bool1 n w hn
 ·rw [← hr, show okBool n = false from decide_eq_false hn]
  have e0 := eqPid 0 0 0 0
  have rs := store_com
  have n0 : ¬ n = 0 := fun h => hn (.inl h)
  have n1 : ¬ n = 1 := fun h => hn (.inr h)
  clear hn hr
  go_enter Tryz.func101, Tryz.ntmps101
  go_wp2_with fail
  go_ret
  exact ⟨rfl, by repeat (first | exact Only.refl _ _ | refine Only.alloc ?_ _)⟩
theorem one_int (n : Int) (r : Bool) (w : World) (hr : OkI n = r) : Calls Tryz.prog 101 #[.agg (tcs 3 n 0 0 ⟨#[]⟩ 0 0 (.slice none 0 0))] w fun e w' => e = .returned (.bool r) ∧ Only [] w w' := by
 have e0 := eqPid 0 0 0 0
 have rs := store_com
 cases h1 : decide (-4611686018427387903 ≤ n) with
 | false =>
  have R := Lib.hid (show OkI n = false by simp only [OkI, h1]; rfl)
  subst hr
  go_enter Tryz.func101, Tryz.ntmps101
  go_wp2_with fail
  go_ret
  exact ⟨ret_bool R.out.symm, ((Only.refl _ _).alloc _).alloc _⟩
 | true =>
  cases h2 : decide (n ≤ 4611686018427387903) with
  | false =>
   have R := Lib.hid (show OkI n = false by simp only [OkI, h1, h2]; rfl)
   subst hr
   go_enter Tryz.func101, Tryz.ntmps101
   go_wp2_with fail
   go_ret
   exact ⟨ret_bool R.out.symm, ((Only.refl _ _).alloc _).alloc _⟩
  | true =>
   have R := Lib.hid (show OkI n = true by simp only [OkI, h1, h2]; rfl)
   subst hr
   go_enter Tryz.func101, Tryz.ntmps101
   go_wp2_with fail
   (with_reducible refine (rzero0 _).mono ?_)
   rintro e w' ⟨rfl, rfl⟩
   go_wp2_with fail
   go_ret
   exact ⟨ret_bool R.out.symm, ((Only.refl _ _).alloc _).alloc _⟩
theorem one_ref (n : Int) (r : Bool) (w : World) (hr : okCnt n = r) : Calls Tryz.prog 101 #[.agg (tcs 7 n 0 0 ⟨#[]⟩ 0 0 (.slice none 0 0))] w fun e w' => e = .returned (.bool r) ∧ Only [] w w' := by
 have e0 := eqPid 0 0 0 0
 have rs := store_com
 cases h1 : decide (1 ≤ n) with
 | false =>
  have R := Lib.hid (show okCnt n = false by simp only [okCnt, h1]; rfl)
  subst hr
  go_enter Tryz.func101, Tryz.ntmps101
  go_wp2_with fail
  go_ret
  exact ⟨ret_bool R.out.symm, ((Only.refl _ _).alloc _).alloc _⟩
 | true =>
  cases h2 : decide (n ≤ 4611686018427387903) with
  | false =>
   have R := Lib.hid (show okCnt n = false by simp only [okCnt, h1, h2]; rfl)
   subst hr
   go_enter Tryz.func101, Tryz.ntmps101
   go_wp2_with fail
   go_ret
   exact ⟨ret_bool R.out.symm, ((Only.refl _ _).alloc _).alloc _⟩
  | true =>
   have R := Lib.hid (show okCnt n = true by simp only [okCnt, h1, h2]; rfl)
   subst hr
   go_enter Tryz.func101, Tryz.ntmps101
   go_wp2_with fail
   (with_reducible refine (rzero0 _).mono ?_)
   rintro e w' ⟨rfl, rfl⟩
   go_wp2_with fail
   go_ret
   exact ⟨ret_bool R.out.symm, ((Only.refl _ _).alloc _).alloc _⟩
theorem one_atom (s : ByteArray) (r : Bool) (w : World) (hs : s.size ≤ 262144) (hr : atomOk (lst s) = r) : Calls Tryz.prog 101 #[.agg (tcs 5 0 0 0 s 0 0 (.slice none 0 0))] w fun e w' => e = .returned (.bool r) ∧ Only [] w w' := by
 have e0 := eqPid 0 0 0 0
 have rs := store_com
 have HA := Lib.hid (fun w => ratom s w hs)
 rw [hr] at HA
 clear hr
 cases r with
 | false =>
  go_enter Tryz.func101, Tryz.ntmps101
  go_wp2_with fail
  (with_reducible refine (HA.out _).mono ?_)
  rintro e w' ⟨rfl, rfl⟩
  go_wp2_with fail
  go_ret
  exact ⟨rfl, ((Only.refl _ _).alloc _).alloc _⟩
 | true =>
  go_enter Tryz.func101, Tryz.ntmps101
  go_wp2_with fail
  (with_reducible refine (HA.out _).mono ?_)
  rintro e w' ⟨rfl, rfl⟩
  go_wp2_with fail
  (with_reducible refine (rzero0 _).mono ?_)
  rintro e w' ⟨rfl, rfl⟩
  go_wp2_with fail
  go_ret
  exact ⟨rfl, ((Only.refl _ _).alloc _).alloc _⟩
theorem one_com (a b : Int) (w : World) (ha : okPart a = true) (hb : okPart b = true) : Calls Tryz.prog 101 #[.agg (tcs 4 0 (floatOfInt .f64 a) (floatOfInt .f64 b) ⟨#[]⟩ 0 0 (.slice none 0 0))] w fun e w' => e = .returned (.bool true) ∧ Only [] w w' := by
 have e0 := eqPid 0 0 0 0
 have rs := store_com
 have HA := Lib.hid (fun w => rwhole a w ha)
 have HB := Lib.hid (fun w => rwhole b w hb)
 clear ha hb
 generalize floatOfInt .f64 a = x at HA ⊢
 generalize floatOfInt .f64 b = y at HB ⊢
 go_enter Tryz.func101, Tryz.ntmps101
 go_wp2_with fail
 (with_reducible refine (HA.out _).mono ?_)
 rintro e w' ⟨rfl, rfl⟩
 go_wp2_with fail
 (with_reducible refine (HB.out _).mono ?_)
 rintro e w' ⟨rfl, rfl⟩
 go_wp2_with fail
 go_ret
 exact ⟨rfl, ((Only.refl _ _).alloc _).alloc _⟩
theorem one_pid (a b : Int) (r : Bool) (w : World) (hr : okPid a b = r) : Calls Tryz.prog 101 #[.agg (tcs 6 0 0 0 ⟨#[]⟩ a b (.slice none 0 0))] w fun e w' => e = .returned (.bool r) ∧ Only [] w w' := by
 have e0 := eqPid 0 0 0 0
 have rs := store_com
 have e1 := fun w => eqPid a b a b w
 simp only [beq_self_eq_true, Bool.and_self] at e1
 have HP := Lib.hid (fun w => rpid a b w)
 rw [hr] at HP
 have B1 := Lib.hid ((Bk.made w 52 (tcs 6 0 0 0 ⟨#[]⟩ a b (.slice none 0 0))).alloc (.cells (tcs 6 0 0 0 ⟨#[]⟩ a b (.slice none 0 0)) 52))
 have B2 := Lib.hid (Bk.madeAt (w := w.alloc (.cells (tcs 6 0 0 0 ⟨#[]⟩ a b (.slice none 0 0)) 52)) (t := 52) (cs := tcs 6 0 0 0 ⟨#[]⟩ a b (.slice none 0 0)) (b := w.heap.size + 1) (by simp))
 clear hr
 cases r with
 | false =>
  go_enter Tryz.func101, Tryz.ntmps101
  go_wp2_with fail
  (with_reducible refine (HP.out _).mono ?_)
  rintro e w1 ⟨rfl, o1⟩
  have O1 := Lib.hid ((((Only.refl [] w).alloc (.cells (tcs 6 0 0 0 ⟨#[]⟩ a b (.slice none 0 0)) 52)).alloc (.cells (tcs 6 0 0 0 ⟨#[]⟩ a b (.slice none 0 0)) 52)).trans o1 (by simp))
  obtain ⟨q0, q1, q2, q3, q4, q5, q6⟩ := (B1.out.only o1 (by simp)).seven
  obtain ⟨p0, p1, p2, p3, p4, p5, p6⟩ := (B2.out.only o1 (by simp)).seven
  clear o1
  go_wp2_with fail
  go_ret
  exact ⟨rfl, O1.out⟩
 | true =>
  go_enter Tryz.func101, Tryz.ntmps101
  go_wp2_with fail
  (with_reducible refine (HP.out _).mono ?_)
  rintro e w1 ⟨rfl, o1⟩
  have O1 := Lib.hid ((((Only.refl [] w).alloc (.cells (tcs 6 0 0 0 ⟨#[]⟩ a b (.slice none 0 0)) 52)).alloc (.cells (tcs 6 0 0 0 ⟨#[]⟩ a b (.slice none 0 0)) 52)).trans o1 (by simp))
  obtain ⟨q0, q1, q2, q3, q4, q5, q6⟩ := (B1.out.only o1 (by simp)).seven
  obtain ⟨p0, p1, p2, p3, p4, p5, p6⟩ := (B2.out.only o1 (by simp)).seven
  clear o1
  go_wp2_with fail
  (with_reducible refine (rzero0 _).mono ?_)
  rintro e w' ⟨rfl, rfl⟩
  go_wp2_with fail
  go_ret
  exact ⟨rfl, O1.out⟩
theorem one_tup (k : Int) (hk : k = 8 ∨ k = 9) (A : Option Addr) (n c : Nat) (w : World) : Calls Tryz.prog 101 #[.agg (tcs k 0 0 0 ⟨#[]⟩ 0 0 (.slice A n c))] w fun e w' => e = .returned (.bool true) ∧ Only [] w w' := by
 have e0 := eqPid 0 0 0 0
 have rs := store_com
 rcases hk with rfl | rfl
 all_goals
  go_enter Tryz.func101, Tryz.ntmps101
  go_wp2_with fail
  (with_reducible refine (rzero0 _).mono ?_)
  rintro e w' ⟨rfl, rfl⟩
  go_wp2_with fail
  go_ret
  exact ⟨rfl, ((Only.refl _ _).alloc _).alloc _⟩
open Go.RowKit
mutual
def TV (w : World) (F : Nat → Prop) : T → Value → Prop
 | .tup _ l, sl => ∃ (A : Option Addr) (cap : Nat), sl = .slice A l.length cap ∧ l.length ≤ cap ∧ cap ≤ 9223372036854775807 ∧ (l = [] ∨ ∃ bl off, A = some ⟨bl, off, none⟩ ∧ bl < w.heap.size ∧ F bl ∧ TVs w F l bl off)
 | .zero, sl => sl = .slice none 0 0
 | .nil, sl => sl = .slice none 0 0
 | .bool _, sl => sl = .slice none 0 0
 | .int _, sl => sl = .slice none 0 0
 | .com _ _, sl => sl = .slice none 0 0
 | .atom _, sl => sl = .slice none 0 0
 | .pid _ _, sl => sl = .slice none 0 0
 | .ref _, sl => sl = .slice none 0 0
def TVs (w : World) (F : Nat → Prop) : List T → Nat → Nat → Prop
 | [], _, _ => True
 | t :: l, bl, off => (∃ sl, TV w F t sl ∧ ∀ j u, (t.cs sl)[j]? = some u → w.cell? ⟨bl, off + j, none⟩ = some u) ∧ TVs w F l bl (off + 7)
end
theorem TV.leaf {w : World} {F : Nat → Prop} {t : T} {sl : Value} (ht : ∀ k l, t ≠ .tup k l) : TV w F t sl ↔ sl = .slice none 0 0 := by
 cases t <;> first | exact absurd rfl (ht _ _) | simp only [TV]
theorem TVs.iff {w : World} {F : Nat → Prop} {l : List T} : ∀ {bl off : Nat}, TVs w F l bl off ↔ ∀ i t, l[i]? = some t → ∃ sl, TV w F t sl ∧ ∀ j u, (t.cs sl)[j]? = some u → w.cell? ⟨bl, off + 7 * i + j, none⟩ = some u := by
 induction l with
 | nil => intro bl off; simp [TVs]
 | cons t l ih =>
  intro bl off
  simp only [TVs]
  rw [ih]
  constructor
  ·rintro ⟨h1, h2⟩ i u hu
   cases i with
   | zero =>
    simp at hu
    subst hu
    simpa using h1
   | succ i =>
    obtain ⟨sl, h3, h4⟩ := h2 i u (by simpa using hu)
    exact ⟨sl, h3, fun j v hv => by rw [show off + 7 * (i + 1) + j = off + 7 + 7 * i + j by omega]; exact h4 j v hv⟩
  ·intro h
   refine ⟨by simpa using h 0 t rfl, fun i u hu => ?_⟩
   obtain ⟨sl, h3, h4⟩ := h (i + 1) u (by simpa using hu)
   exact ⟨sl, h3, fun j v hv => by rw [show off + 7 + 7 * i + j = off + 7 * (i + 1) + j by omega]; exact h4 j v hv⟩
theorem TV.only {S : List Nat} {w w' : World} {F F' : Nat → Prop} (o : Only S w w') (hS : ∀ b ∈ S, ¬ F b) (hF : ∀ b, F b → F' b) (t : T) : ∀ sl, TV w F t sl → TV w' F' t sl := by
 refine T.ind (P := fun t => ∀ sl, TV w F t sl → TV w' F' t sl) (fun t ht sl h => (TV.leaf ht).2 ((TV.leaf ht).1 h)) (fun k l ih sl h => ?_) t
 simp only [TV] at h ⊢
 obtain ⟨A, cap, h1, h2, h3, h4⟩ := h
 refine ⟨A, cap, h1, h2, h3, ?_⟩
 rcases h4 with h4 | ⟨bl, off, h5, h6, h7, h8⟩
 ·exact .inl h4
 ·refine .inr ⟨bl, off, h5, Nat.lt_of_lt_of_le h6 o.size, hF _ h7, ?_⟩
  rw [TVs.iff] at h8 ⊢
  intro i u hu
  obtain ⟨sl', h9, h10⟩ := h8 i u hu
  exact ⟨sl', ih u (List.mem_of_getElem? hu) sl' h9, fun j v hv => (o.cell (p := ⟨bl, off + 7 * i + j, none⟩) h6 (fun hm => hS _ hm h7)).trans (h10 j v hv)⟩
theorem TV.same {w w' : World} {F : Nat → Prop} (o : Only [] w w') {t : T} {sl : Value} (h : TV w F t sl) : TV w' F t sl := TV.only o (by simp) (fun _ h => h) t sl h
mutual
def T.Good : T → Prop
 | .tup k l => (k = 8 ∨ k = 9) ∧ Goods l
 | .zero => False
 | .com a b => okPart a = true ∧ okPart b = true
 | .atom s => s.size ≤ 262144
 | _ => True
def Goods : List T → Prop
 | [] => True
 | t :: l => t.Good ∧ Goods l
end
theorem Goods.iff {l : List T} : Goods l ↔ ∀ t ∈ l, t.Good := by
 induction l with
 | nil => simp [Goods]
 | cons t l ih => simp [Goods, ih]
mutual
def thr : T → Nat → Nat → Nat × Int
 | .tup _ l, met, deep => if 1024 ≤ met ∨ 64 ≤ deep then (met, 34) else thrs l (met + 1) (deep + 1)
 | .zero, met, deep => if 1024 ≤ met ∨ 64 ≤ deep then (met, 34) else (met, 30)
 | .nil, met, deep => if 1024 ≤ met ∨ 64 ≤ deep then (met, 34) else (met + 1, 0)
 | .bool n, met, deep => if 1024 ≤ met ∨ 64 ≤ deep then (met, 34) else if okBool n = true then (met + 1, 0) else (met, 30)
 | .int n, met, deep => if 1024 ≤ met ∨ 64 ≤ deep then (met, 34) else if OkI n = true then (met + 1, 0) else (met, 30)
 | .com _ _, met, deep => if 1024 ≤ met ∨ 64 ≤ deep then (met, 34) else (met + 1, 0)
 | .atom s, met, deep => if 1024 ≤ met ∨ 64 ≤ deep then (met, 34) else if atomOk (lst s) = true then (met + 1, 0) else (met, 30)
 | .pid n g, met, deep => if 1024 ≤ met ∨ 64 ≤ deep then (met, 34) else if okPid n g = true then (met + 1, 0) else (met, 30)
 | .ref n, met, deep => if 1024 ≤ met ∨ 64 ≤ deep then (met, 34) else if okCnt n = true then (met + 1, 0) else (met, 30)
def thrs : List T → Nat → Nat → Nat × Int
 | [], met, _ => (met, 0)
 | t :: l, met, deep => if (thr t met deep).2 = 0 then thrs l (thr t met deep).1 deep else thr t met deep
end
theorem ite_ok {c : Prop} [Decidable c] {α : Type} {a b d : α} {x : Bool} (hx : x = true) : (if c then a else b) = if c then a else if x = true then b else d := by rw [if_pos hx]
theorem okT_com {a b : Int} (hg : (T.com a b).Good) : okT (.com a b) = true := by
 have h1 : okPart a = true := hg.1
 have h2 : okPart b = true := hg.2
 show (okPart a && okPart b) = true
 rw [h1, h2]
 rfl
theorem thr_leaf {t : T} (ht : ∀ k l, t ≠ .tup k l) (hg : t.Good) (met deep : Nat) : thr t met deep = if 1024 ≤ met ∨ 64 ≤ deep then (met, 34) else if okT t = true then (met + 1, 0) else (met, 30) := by
 cases t with
 | zero => exact hg.elim
 | tup k l => exact absurd rfl (ht _ _)
 | nil => simp only [thr]; exact ite_ok rfl
 | bool n => simp only [thr]; rfl
 | int n => simp only [thr]; rfl
 | com a b => simp only [thr]; exact ite_ok (okT_com hg)
 | atom s => simp only [thr]; rfl
 | pid n g => simp only [thr]; rfl
 | ref n => simp only [thr]; rfl
theorem thr_tup (k : Int) (l : List T) (met deep : Nat) : thr (.tup k l) met deep = if 1024 ≤ met ∨ 64 ≤ deep then (met, 34) else thrs l (met + 1) (deep + 1) := by simp only [thr]
theorem thrs_nil (met deep : Nat) : thrs [] met deep = (met, 0) := by simp only [thrs]
theorem thrs_cons (t : T) (l : List T) (met deep : Nat) : thrs (t :: l) met deep = if (thr t met deep).2 = 0 then thrs l (thr t met deep).1 deep else thr t met deep := by simp only [thrs]
theorem thr_met (t : T) : ∀ met deep, (thr t met deep).2 = 0 → (thr t met deep).1 ≤ 1024 := by
 refine T.ind (P := fun t => ∀ met deep, (thr t met deep).2 = 0 → (thr t met deep).1 ≤ 1024) (fun t ht met deep h => ?_) (fun k l ih met deep h => ?_) t
 ·by_cases hc : 1024 ≤ met ∨ 64 ≤ deep
  ·exfalso
   cases t <;> first | exact absurd rfl (ht _ _) | (simp only [thr] at h; rw [if_pos hc] at h; simp at h)
  ·have hm : met < 1024 := by omega
   cases t <;> first | exact absurd rfl (ht _ _) | (simp only [thr] at h ⊢; rw [if_neg hc] at h ⊢; first | (simp at h; done) | (simp; omega) | (split at h; (rename_i hk; rw [if_pos hk]; simp; omega); (simp at h)))
 ·rw [thr_tup] at h ⊢
  by_cases hc : 1024 ≤ met ∨ 64 ≤ deep
  ·rw [if_pos hc] at h; simp at h
  ·rw [if_neg hc] at h ⊢
   have hm : met + 1 ≤ 1024 := by omega
   clear hc
   generalize met + 1 = m at h hm ⊢
   clear met
   induction l generalizing m with
   | nil => rw [thrs_nil]; exact hm
   | cons t l ihl =>
    rw [thrs_cons] at h ⊢
    by_cases h2 : (thr t m (deep + 1)).2 = 0
    ·rw [if_pos h2] at h ⊢
     exact ihl (fun u hu => ih u (by simp [hu])) _ h (ih t (by simp) m (deep + 1) h2)
    ·rw [if_neg h2] at h
     exact absurd h h2
def chk (t : T) : Int := (thr t 0 0).2
theorem may_any (t : T) (hg : t.Good) (sl : Value) (F : Nat → Prop) (w : World) (h : TV w F t sl) : Calls Tryz.prog 91 #[.agg (tcs t.k t.n t.x t.y t.S t.a t.b sl)] w fun e w' => e = .returned (.bool (okT t)) ∧ Only [] w w' := by
 cases t with
 | zero => exact hg.elim
 | nil => obtain rfl := (TV.leaf (by simp)).1 h; exact may_nil w
 | bool b => obtain rfl := (TV.leaf (by simp)).1 h; exact may_bool b _ w rfl
 | int n => obtain rfl := (TV.leaf (by simp)).1 h; exact may_int n _ w rfl
 | com a b => obtain rfl := (TV.leaf (by simp)).1 h; exact (may_com a b w hg.1 hg.2).mono fun _ _ ⟨he, ho⟩ => ⟨by rw [he, okT_com hg], ho⟩
 | atom s => obtain rfl := (TV.leaf (by simp)).1 h; exact may_atom s _ w hg rfl
 | pid n g => obtain rfl := (TV.leaf (by simp)).1 h; exact may_pid n g _ w rfl
 | ref n => obtain rfl := (TV.leaf (by simp)).1 h; exact may_ref n _ w rfl
 | tup k l =>
  simp only [TV] at h
  obtain ⟨A, cap, rfl, _⟩ := h
  exact may_tup k hg.1 A _ _ w
theorem one_any (t : T) (hg : t.Good) (sl : Value) (F : Nat → Prop) (w : World) (h : TV w F t sl) : Calls Tryz.prog 101 #[.agg (tcs t.k t.n t.x t.y t.S t.a t.b sl)] w fun e w' => e = .returned (.bool (okT t)) ∧ Only [] w w' := by
 cases t with
 | zero => exact hg.elim
 | nil => obtain rfl := (TV.leaf (by simp)).1 h; exact one_nil w
 | bool b => obtain rfl := (TV.leaf (by simp)).1 h; exact one_bool b _ w rfl
 | int n => obtain rfl := (TV.leaf (by simp)).1 h; exact one_int n _ w rfl
 | com a b => obtain rfl := (TV.leaf (by simp)).1 h; exact (one_com a b w hg.1 hg.2).mono fun _ _ ⟨he, ho⟩ => ⟨by rw [he, okT_com hg], ho⟩
 | atom s => obtain rfl := (TV.leaf (by simp)).1 h; exact one_atom s _ w hg rfl
 | pid n g => obtain rfl := (TV.leaf (by simp)).1 h; exact one_pid n g _ w rfl
 | ref n => obtain rfl := (TV.leaf (by simp)).1 h; exact one_ref n _ w rfl
 | tup k l =>
  simp only [TV] at h
  obtain ⟨A, cap, rfl, _⟩ := h
  exact one_tup k hg.1 A _ _ w
end Go.Proofs.YtcdefnbehlcgeaaGreatDoor
