/- The document's reader of a pattern (one). -/
import Derived.Test.YtcdefnbehlcgeaaGreatDoorWbp
set_option maxHeartbeats 16000000
set_option maxRecDepth 20000
set_option linter.unusedSimpArgs false
set_option linter.unusedVariables false
namespace Go.Proofs.YtcdefnbehlcgeaaGreatDoor
open Go.RowKit
noncomputable def KPt : DK where
 e := 88
 t := 86
 k := 11
 by' := 152
 i := (Tryz.prog.info? 88).getD default
 z := .agg ZQ
 ht := Tryz.underlying86
 hi := by kernel_rfl
 hz := by kernel_rfl
 hk := by kernel_rfl
 hb := by kernel_rfl
 hzs := by kernel_rfl
 h0 := by decide
 hb1 := by decide
theorem qD_dvs {w : World} {F : Nat → Prop} (k n : Int) {td : List D} {a b : D} {t0 t1 t2 t3 t4 t5 t6 u v : Value} (ht : DVs w F td [t0, t1, t2, t3, t4, t5, t6]) (h : DV w F a u) (h' : DV w F b v) : DVs w F (qD k n td a b) [.int .i64 k, .int .i64 n, t0, t1, t2, t3, t4, t5, t6, u, v] :=
 DVs.app (l' := [a, b]) (vs := [u, v]) (l := [.v (.int .i64 k), .v (.int .i64 n)] ++ td) (us := [.int .i64 k, .int .i64 n, t0, t1, t2, t3, t4, t5, t6]) ⟨_, _, rfl, h, _, _, rfl, h', rfl⟩ (DVs.app (l := [.v (.int .i64 k), .v (.int .i64 n)]) (us := [.int .i64 k, .int .i64 n]) ht ⟨_, _, rfl, DV.v.2 rfl, _, _, rfl, DV.v.2 rfl, rfl⟩)
theorem qD_one (k n : Int) {td : List D} {a b : D} (ht : ∀ d ∈ td, d.One) (h : a.One) (h' : b.One) : ∀ d ∈ qD k n td a b, d.One := by
 intro d hd
 simp only [List.mem_append, List.mem_cons, List.not_mem_nil, or_false] at hd
 rcases hd with ((rfl | rfl) | hd) | rfl | rfl
 ·rfl
 ·rfl
 ·exact ht d hd
 ·exact h
 ·exact h'
theorem qD_len (k n : Int) {td : List D} (a b : D) (h : td.length = 7) : (qD k n td a b).length = 11 := by simp [h]
theorem zt_one : ∀ d ∈ T.zero.ds, d.One := ds_one _
theorem no_one : D.One noD := rfl
theorem zt_len : T.zero.ds.length = 7 := ds_len _
def DPatOk (s : ByteArray) (d : Nat) : Prop := ∀ (b p v : Nat) (w : World), v + d = 64 → Rdc w b s p (-1) → p ≤ s.size → s.size ≤ 262144 →
 Calls Tryz.prog 55 #[.pointer (some ⟨b, 0, none⟩), .int .i64 v] w fun e w' => DS b s 11 QT.ds (rPat s d p) w e w'
abbrev DP := DSt 88 ZQ
theorem rRest_bad {α : Type} {one : Nat → Rs α} {s : ByteArray} {p t : Nat} (h : rLen s p = .bad t) : rRest one s p = .bad t := by
 unfold rRest
 unfold rLen at h
 rw [rFit_of] at h ⊢
 cases hc : rCnt s p with
 | bad u =>
  rw [hc] at h
  injection h with h
  subst h
  rfl
 | ok n q =>
  rw [hc] at h
  simp only [Rs.bind] at h ⊢
  by_cases hn : n ≤ s.size - q
  ·rw [decide_eq_true hn, if_pos rfl] at h
   cases h
  ·rw [decide_eq_false hn, if_neg (by decide)] at h
   rw [decide_eq_false (fun h => hn h.2), if_neg (by decide)]
   injection h with h
   subst h
   rfl
theorem rRest_ok {α : Type} {one : Nat → Rs α} {s : ByteArray} {p n q : Nat} (h : rLen s p = .ok n q) : rRest one s p = if n ≤ 1 then (if n = 0 then .ok [] q else (one q).map fun x => [x]) else .bad p := by
 unfold rRest
 unfold rLen at h
 rw [rFit_of] at h ⊢
 cases hc : rCnt s p with
 | bad u =>
  rw [hc] at h
  cases h
 | ok n' q' =>
  rw [hc] at h
  simp only [Rs.bind] at h ⊢
  by_cases hn : n' ≤ s.size - q'
  ·rw [decide_eq_true hn, if_pos rfl] at h
   injection h with h1 h2
   subst h1 h2
   by_cases h1 : n' ≤ 1
   ·rw [decide_eq_true ⟨h1, hn⟩, if_pos rfl, if_pos h1]
   ·rw [decide_eq_false (fun h => h1 h.1), if_neg (by decide), if_neg h1]
  ·rw [decide_eq_false hn, if_neg (by decide)] at h
   cases h
def DPLp (s : ByteArray) (b m : Nat) (w : World) (kd n : Nat) (one : Nat → Rs QT) (R : Rs (List QT)) (iv : Value) (wr : World) : Prop :=
 ∃ (cs : List (Ck 11)) (lv : Value) (p : Nat) (bad : Int), iv = .int .i64 cs.length ∧ cs.length ≤ n ∧ Fr2 wr m 88 ZQ #[.int .i64 kd, .int .i64 0, .int .i64 0, .int .i64 0, .complex .f64 0 0, .string ⟨#[]⟩, .int .i64 0, .int .i64 0, .slice none 0 0, lv, .slice none 0 0] ∧ Rdc wr b s p bad ∧ Only [b] w wr ∧ OwnC KPt wr (m + 2) lv cs ∧
  ((bad = -1 ∧ p ≤ s.size ∧ ∃ xs : List QT, xs.length = cs.length ∧ cs.flatMap (fun c => c.1) = xs.flatMap QT.ds ∧ (rMany one (n - cs.length) p).map (fun l => xs ++ l) = R) ∨ ∃ t : Nat, bad = (t : Int) ∧ R = .bad t)
theorem dpat_goa (s : ByteArray) (d0 : Nat) (ih : ∀ d, d0 = d + 1 → DPatOk s d) (b p v : Nat) (w : World) (hv : v + d0 = 64) (hb : Rdc w b s p (-1)) (hp : p ≤ s.size) (hs : s.size ≤ 262144) (t : Nat) (h1 : rCnt s p = .bad t) :
 Calls Tryz.prog 55 #[.pointer (some ⟨b, 0, none⟩), .int .i64 v] w fun e w' => DS b s 11 QT.ds (rPat s d0 p) w e w' := by
 have hbl := Bk.lt hb
 have KS0 : Hid (DP s b w.heap.size w ((w.alloc (.cells ZQ 88)).alloc (.cells ZQ 88)) p (-1) (qD 0 0 T.zero.ds noD noD) ZQ) := Lib.hid (DSt.made hb (qD_dvs _ _ (ZT7 _ _) (DV.v.2 rfl) (DV.v.2 rfl)))
 obtain ⟨R, hR⟩ : ∃ R, rPat s d0 p = R := ⟨_, rfl⟩
 rw [hR]
 obtain ⟨b0, b1, b2⟩ := Rdc.three KS0.out.rd
 have HK := Lib.hid (dcount_any b s p _ KS0.out.rd hp hs)
 have hre : R = .bad t := by
  rw [← hR]
  cases d0 with
  | zero => rw [rCnt_bad h1]; rfl
  | succ d => simp only [rPat, rOne_bad h1, Rs.bind]
 have HRE := Lib.hid hre
 rw [h1] at HK
 clear hR hre h1 ih
 go_enter Tryz.func55, Tryz.ntmps55
 go_wp2_with fail
 clear b0 b1 b2
 (with_reducible refine HK.out.mono ?_)
 rintro e w1 ⟨rfl, ⟨p2, g3⟩, g4⟩
 have KC := Lib.hid (KS0.out.call g4 g3 hbl)
 have KN := Lib.hid (KC.out.put (l' := qD 0 0 T.zero.ds noD noD) (us' := #[.int .i64 0, .int .i64 0, .int .i64 0, .int .i64 0, .complex .f64 0 0, .string ⟨#[]⟩, .int .i64 0, .int .i64 0, .slice none 0 0, .slice none 0 0, .slice none 0 0]) rfl hbl 0 (.int .i64 0) rfl (qD_dvs _ _ (ZT7 _ _) (DV.v.2 rfl) (DV.v.2 rfl)))
 obtain ⟨x0, x1, x2, x3, x4, x5, x6, x7, x8, x9, x10⟩ := Bk.eleven KC.out.fr.t
 obtain ⟨c0, c1, c2⟩ := Rdc.three KC.out.rd
 have k0 := KC.out.fr.t.free 0
 have k1 := KC.out.fr.t.free 1
 have k2 := KC.out.fr.t.free 2
 have k3 := KC.out.fr.t.free 3
 have k4 := KC.out.fr.t.free 4
 have k5 := KC.out.fr.t.free 5
 have k6 := KC.out.fr.t.free 6
 have k7 := KC.out.fr.t.free 7
 have k8 := KC.out.fr.t.free 8
 have k9 := KC.out.fr.t.free 9
 have k10 := KC.out.fr.t.free 10
 clear g3 g4 HK KS0
 have hone : (#[.int .i64 0, .int .i64 0, .int .i64 0, .int .i64 0, .complex .f64 0 0, .string ⟨#[]⟩, .int .i64 0, .int .i64 0, .slice none 0 0, .slice none 0 0, .slice none 0 0] : Array Value).all (·.oneCell') = true := by simp [Value.oneCell']
 have HE := Lib.hid (fun W' => DSt.fin (w' := W') KN.out rfl hbl)
 go_wp2_with (first
  | (refine wpList_load_row (by rfl) 88 _ (by rfl) (w.heap.size + 1) (by rfl) 88 #[.int .i64 0, .int .i64 0, .int .i64 0, .int .i64 0, .complex .f64 0 0, .string ⟨#[]⟩, .int .i64 0, .int .i64 0, .slice none 0 0, .slice none 0 0, .slice none 0 0] (0, 0) _ KN.out.fr.t Tryz.underlying88 (by rfl) (by rw [size11]; rfl) ?_)
  | (refine wpList_store_row (by rfl) _ _ _ (by rfl) w.heap.size #[.int .i64 0, .int .i64 0, .int .i64 0, .int .i64 0, .complex .f64 0 0, .string ⟨#[]⟩, .int .i64 0, .int .i64 0, .slice none 0 0, .slice none 0 0, .slice none 0 0] (by rfl) (by rfl) 88 ZQ KN.out.fr.o (by rw [size11]; rfl) (by rfl) hone ?_; have HE2 := HE.out _ rfl; generalize World.setRow _ _ _ = W5 at HE2 ⊢; clear HE; obtain ⟨e1, e2⟩ := HE2; have E2 := Lib.hid e2; obtain ⟨z0, z1, z2, z3, z4, z5, z6, z7, z8, z9, z10⟩ := Bk.eleven e1; clear e1 e2))
 refine bodyPost_ret (v := .agg #[.int .i64 0, .int .i64 0, .int .i64 0, .int .i64 0, .complex .f64 0 0, .string ⟨#[]⟩, .int .i64 0, .int .i64 0, .slice none 0 0, .slice none 0 0, .slice none 0 0]) (by simp [results, Tryz.results55, go_sem, z0, z1, z2, z3, z4, z5, z6, z7, z8, z9, z10]) rfl ?_
 rw [HRE.out]
 exact ⟨#[.int .i64 0, .int .i64 0, .int .i64 0, .int .i64 0, .complex .f64 0 0, .string ⟨#[]⟩, .int .i64 0, .int .i64 0, .slice none 0 0, .slice none 0 0, .slice none 0 0], _, _, _, rfl, rfl, qD_len _ _ _ _ zt_len, qD_one _ _ zt_one no_one no_one, E2.out.1, E2.out.2.1, E2.out.2.2, rfl⟩
theorem dpat_gob (s : ByteArray) (d0 : Nat) (ih : ∀ d, d0 = d + 1 → DPatOk s d) (b p v : Nat) (w : World) (hv : v + d0 = 64) (hb : Rdc w b s p (-1)) (hp : p ≤ s.size) (hs : s.size ≤ 262144) (k q : Nat) (h1 : rCnt s p = .ok k q) (hin : ¬ ((1 ≤ k ∧ k ≤ 6) ∧ 0 < d0)) :
 Calls Tryz.prog 55 #[.pointer (some ⟨b, 0, none⟩), .int .i64 v] w fun e w' => DS b s 11 QT.ds (rPat s d0 p) w e w' := by
 have hbl := Bk.lt hb
 have KS0 : Hid (DP s b w.heap.size w ((w.alloc (.cells ZQ 88)).alloc (.cells ZQ 88)) p (-1) (qD 0 0 T.zero.ds noD noD) ZQ) := Lib.hid (DSt.made hb (qD_dvs _ _ (ZT7 _ _) (DV.v.2 rfl) (DV.v.2 rfl)))
 obtain ⟨R, hR⟩ : ∃ R, rPat s d0 p = R := ⟨_, rfl⟩
 rw [hR]
 obtain ⟨b0, b1, b2⟩ := Rdc.three KS0.out.rd
 have HK := Lib.hid (dcount_any b s p _ KS0.out.rd hp hs)
 rw [h1] at HK
 have hre : R = .bad p := by
  rw [← hR]
  cases d0 with
  | zero => rfl
  | succ d => simp only [rPat, rOne_no h1 (fun h => hin ⟨h, by omega⟩), Rs.bind]
 have HRE := Lib.hid hre
 have HW := Lib.hid (fun w1 (h : Rdc w1 b s q (-1)) => wrong_any b s q p w1 h)
 clear hR hre h1 ih
 have hcase : (k : Int) < 1 ∨ (¬ (k : Int) < 1 ∧ (6 : Int) < (k : Int)) ∨ (¬ (k : Int) < 1 ∧ ¬ (6 : Int) < (k : Int) ∧ (64 : Int) ≤ (v : Int)) := by omega
 clear hin
 rcases hcase with n1 | ⟨n1, n9⟩ | ⟨n1, n9, n64⟩
 all_goals
  go_enter Tryz.func55, Tryz.ntmps55
  go_wp2_with fail
  clear b0 b1 b2
  (with_reducible refine HK.out.mono ?_)
  rintro e w1 ⟨rfl, g3, g4, hq⟩
  have KC := Lib.hid (KS0.out.call g4 g3 hbl)
  have KA := Lib.hid (KC.out.put (l' := qD (k : Int) 0 T.zero.ds noD noD) (us' := #[.int .i64 k, .int .i64 0, .int .i64 0, .int .i64 0, .complex .f64 0 0, .string ⟨#[]⟩, .int .i64 0, .int .i64 0, .slice none 0 0, .slice none 0 0, .slice none 0 0]) rfl hbl 0 (.int .i64 k) rfl (qD_dvs _ _ (ZT7 _ _) (DV.v.2 rfl) (DV.v.2 rfl)))
  obtain ⟨x0, x1, x2, x3, x4, x5, x6, x7, x8, x9, x10⟩ := Bk.eleven KC.out.fr.t
  obtain ⟨c0, c1, c2⟩ := Rdc.three KC.out.rd
  have k0 := KC.out.fr.t.free 0
  have k1 := KC.out.fr.t.free 1
  have k2 := KC.out.fr.t.free 2
  have k3 := KC.out.fr.t.free 3
  have k4 := KC.out.fr.t.free 4
  have k5 := KC.out.fr.t.free 5
  have k6 := KC.out.fr.t.free 6
  have k7 := KC.out.fr.t.free 7
  have k8 := KC.out.fr.t.free 8
  have k9 := KC.out.fr.t.free 9
  have k10 := KC.out.fr.t.free 10
  clear g3 g4 HK KS0
  go_wp2_with fail
  clear x0 x1 x2 x3 x4 x5 x6 x7 x8 x9 x10 c0 c1 c2 k0 k1 k2 k3 k4 k5 k6 k7 k8 k9 k10
  (with_reducible refine (HW.out _ KA.out.rd).mono ?_)
  rintro e w2 ⟨rfl, g3, g4⟩
  have KN := Lib.hid (KA.out.call g4 g3 hbl)
  obtain ⟨x0, x1, x2, x3, x4, x5, x6, x7, x8, x9, x10⟩ := Bk.eleven KN.out.fr.t
  obtain ⟨c0, c1, c2⟩ := Rdc.three KN.out.rd
  have k0 := KN.out.fr.t.free 0
  have k1 := KN.out.fr.t.free 1
  have k2 := KN.out.fr.t.free 2
  have k3 := KN.out.fr.t.free 3
  have k4 := KN.out.fr.t.free 4
  have k5 := KN.out.fr.t.free 5
  have k6 := KN.out.fr.t.free 6
  have k7 := KN.out.fr.t.free 7
  have k8 := KN.out.fr.t.free 8
  have k9 := KN.out.fr.t.free 9
  have k10 := KN.out.fr.t.free 10
  clear g3 g4 HW KC KA
  have hone : (#[.int .i64 k, .int .i64 0, .int .i64 0, .int .i64 0, .complex .f64 0 0, .string ⟨#[]⟩, .int .i64 0, .int .i64 0, .slice none 0 0, .slice none 0 0, .slice none 0 0] : Array Value).all (·.oneCell') = true := by simp [Value.oneCell']
  have HE := Lib.hid (fun W' => DSt.fin (w' := W') KN.out rfl hbl)
  go_wp2_with (first
   | (refine wpList_load_row (by rfl) 88 _ (by rfl) (w.heap.size + 1) (by rfl) 88 #[.int .i64 k, .int .i64 0, .int .i64 0, .int .i64 0, .complex .f64 0 0, .string ⟨#[]⟩, .int .i64 0, .int .i64 0, .slice none 0 0, .slice none 0 0, .slice none 0 0] (0, 0) _ KN.out.fr.t Tryz.underlying88 (by rfl) (by rw [size11]; rfl) ?_)
   | (refine wpList_store_row (by rfl) _ _ _ (by rfl) w.heap.size #[.int .i64 k, .int .i64 0, .int .i64 0, .int .i64 0, .complex .f64 0 0, .string ⟨#[]⟩, .int .i64 0, .int .i64 0, .slice none 0 0, .slice none 0 0, .slice none 0 0] (by rfl) (by rfl) 88 ZQ KN.out.fr.o (by rw [size11]; rfl) (by rfl) hone ?_; have HE2 := HE.out _ rfl; generalize World.setRow _ _ _ = W5 at HE2 ⊢; clear HE; obtain ⟨e1, e2⟩ := HE2; have E2 := Lib.hid e2; obtain ⟨z0, z1, z2, z3, z4, z5, z6, z7, z8, z9, z10⟩ := Bk.eleven e1; clear e1 e2))
  refine bodyPost_ret (v := .agg #[.int .i64 k, .int .i64 0, .int .i64 0, .int .i64 0, .complex .f64 0 0, .string ⟨#[]⟩, .int .i64 0, .int .i64 0, .slice none 0 0, .slice none 0 0, .slice none 0 0]) (by simp [results, Tryz.results55, go_sem, z0, z1, z2, z3, z4, z5, z6, z7, z8, z9, z10]) rfl ?_
  rw [HRE.out]
  exact ⟨#[.int .i64 k, .int .i64 0, .int .i64 0, .int .i64 0, .complex .f64 0 0, .string ⟨#[]⟩, .int .i64 0, .int .i64 0, .slice none 0 0, .slice none 0 0, .slice none 0 0], _, _, _, rfl, rfl, qD_len _ _ _ _ zt_len, qD_one _ _ zt_one no_one no_one, E2.out.1, E2.out.2.1, E2.out.2.2, rfl⟩
theorem dpat_go1 (s : ByteArray) (d0 : Nat) (ih : ∀ d, d0 = d + 1 → DPatOk s d) (b p v : Nat) (w : World) (hv : v + d0 = 64) (hb : Rdc w b s p (-1)) (hp : p ≤ s.size) (hs : s.size ≤ 262144) (q d : Nat) (hd : d0 = d + 1) (h1 : rCnt s p = .ok 1 q) :
 Calls Tryz.prog 55 #[.pointer (some ⟨b, 0, none⟩), .int .i64 v] w fun e w' => DS b s 11 QT.ds (rPat s d0 p) w e w' := by
 have hbl := Bk.lt hb
 have KS0 : Hid (DP s b w.heap.size w ((w.alloc (.cells ZQ 88)).alloc (.cells ZQ 88)) p (-1) (qD 0 0 T.zero.ds noD noD) ZQ) := Lib.hid (DSt.made hb (qD_dvs _ _ (ZT7 _ _) (DV.v.2 rfl) (DV.v.2 rfl)))
 obtain ⟨R, hR⟩ : ∃ R, rPat s d0 p = R := ⟨_, rfl⟩
 rw [hR]
 obtain ⟨b0, b1, b2⟩ := Rdc.three KS0.out.rd
 have HK := Lib.hid (dcount_any b s p _ KS0.out.rd hp hs)
 subst hd
 rw [h1] at HK
 have HIH := Lib.hid (ih d rfl)
 have HR : Hid (rPK (fun p => rPat s d p) s 1 q = R) := Lib.hid (by rw [← hR]; simp only [rPat, rOne_ok h1 (by omega : 1 ≤ 1 ∧ 1 ≤ 6), Rs.bind])
 have n64 : ¬ (64 : Int) ≤ (v : Int) := by omega
 clear hR h1 ih
 go_enter Tryz.func55, Tryz.ntmps55
 go_wp2_with fail
 clear b0 b1 b2
 (with_reducible refine HK.out.mono ?_)
 rintro e w1 ⟨rfl, g3, g4, hq⟩
 have KC := Lib.hid (KS0.out.call g4 g3 hbl)
 have KA := Lib.hid (KC.out.put (l' := qD 1 0 T.zero.ds noD noD) (us' := #[.int .i64 1, .int .i64 0, .int .i64 0, .int .i64 0, .complex .f64 0 0, .string ⟨#[]⟩, .int .i64 0, .int .i64 0, .slice none 0 0, .slice none 0 0, .slice none 0 0]) rfl hbl 0 (.int .i64 1) rfl (qD_dvs _ _ (ZT7 _ _) (DV.v.2 rfl) (DV.v.2 rfl)))
 obtain ⟨x0, x1, x2, x3, x4, x5, x6, x7, x8, x9, x10⟩ := Bk.eleven KC.out.fr.t
 obtain ⟨c0, c1, c2⟩ := Rdc.three KC.out.rd
 have k0 := KC.out.fr.t.free 0
 have k1 := KC.out.fr.t.free 1
 have k2 := KC.out.fr.t.free 2
 have k3 := KC.out.fr.t.free 3
 have k4 := KC.out.fr.t.free 4
 have k5 := KC.out.fr.t.free 5
 have k6 := KC.out.fr.t.free 6
 have k7 := KC.out.fr.t.free 7
 have k8 := KC.out.fr.t.free 8
 have k9 := KC.out.fr.t.free 9
 have k10 := KC.out.fr.t.free 10
 clear g3 g4 HK KS0
 have hre : R = .ok .any q := by rw [← HR.out]; rfl
 have HRE := Lib.hid hre
 have KN := KA
 clear HR hre
 have hone : (#[.int .i64 1, .int .i64 0, .int .i64 0, .int .i64 0, .complex .f64 0 0, .string ⟨#[]⟩, .int .i64 0, .int .i64 0, .slice none 0 0, .slice none 0 0, .slice none 0 0] : Array Value).all (·.oneCell') = true := by simp [Value.oneCell']
 have HE := Lib.hid (fun W' => DSt.fin (w' := W') KN.out rfl hbl)
 go_wp2_with (first
  | (refine wpList_load_row (by rfl) 88 _ (by rfl) (w.heap.size + 1) (by rfl) 88 #[.int .i64 1, .int .i64 0, .int .i64 0, .int .i64 0, .complex .f64 0 0, .string ⟨#[]⟩, .int .i64 0, .int .i64 0, .slice none 0 0, .slice none 0 0, .slice none 0 0] (0, 0) _ KN.out.fr.t Tryz.underlying88 (by rfl) (by rw [size11]; rfl) ?_)
  | (refine wpList_store_row (by rfl) _ _ _ (by rfl) w.heap.size #[.int .i64 1, .int .i64 0, .int .i64 0, .int .i64 0, .complex .f64 0 0, .string ⟨#[]⟩, .int .i64 0, .int .i64 0, .slice none 0 0, .slice none 0 0, .slice none 0 0] (by rfl) (by rfl) 88 ZQ KN.out.fr.o (by rw [size11]; rfl) (by rfl) hone ?_; have HE2 := HE.out _ rfl; generalize World.setRow _ _ _ = W5 at HE2 ⊢; clear HE; obtain ⟨e1, e2⟩ := HE2; have E2 := Lib.hid e2; obtain ⟨z0, z1, z2, z3, z4, z5, z6, z7, z8, z9, z10⟩ := Bk.eleven e1; clear e1 e2))
 refine bodyPost_ret (v := .agg #[.int .i64 1, .int .i64 0, .int .i64 0, .int .i64 0, .complex .f64 0 0, .string ⟨#[]⟩, .int .i64 0, .int .i64 0, .slice none 0 0, .slice none 0 0, .slice none 0 0]) (by simp [results, Tryz.results55, go_sem, z0, z1, z2, z3, z4, z5, z6, z7, z8, z9, z10]) rfl ?_
 rw [HRE.out]
 exact ⟨#[.int .i64 1, .int .i64 0, .int .i64 0, .int .i64 0, .complex .f64 0 0, .string ⟨#[]⟩, .int .i64 0, .int .i64 0, .slice none 0 0, .slice none 0 0, .slice none 0 0], _, _, _, rfl, rfl, qD_len _ _ _ _ zt_len, qD_one _ _ zt_one no_one no_one, E2.out.1, E2.out.2.1, E2.out.2.2, ⟨by simp only [QT.ds], rfl, rfl, hq⟩⟩
theorem dpat_go2 (s : ByteArray) (d0 : Nat) (ih : ∀ d, d0 = d + 1 → DPatOk s d) (b p v : Nat) (w : World) (hv : v + d0 = 64) (hb : Rdc w b s p (-1)) (hp : p ≤ s.size) (hs : s.size ≤ 262144) (q d : Nat) (hd : d0 = d + 1) (h1 : rCnt s p = .ok 2 q) :
 Calls Tryz.prog 55 #[.pointer (some ⟨b, 0, none⟩), .int .i64 v] w fun e w' => DS b s 11 QT.ds (rPat s d0 p) w e w' := by
 have hbl := Bk.lt hb
 have KS0 : Hid (DP s b w.heap.size w ((w.alloc (.cells ZQ 88)).alloc (.cells ZQ 88)) p (-1) (qD 0 0 T.zero.ds noD noD) ZQ) := Lib.hid (DSt.made hb (qD_dvs _ _ (ZT7 _ _) (DV.v.2 rfl) (DV.v.2 rfl)))
 obtain ⟨R, hR⟩ : ∃ R, rPat s d0 p = R := ⟨_, rfl⟩
 rw [hR]
 obtain ⟨b0, b1, b2⟩ := Rdc.three KS0.out.rd
 have HK := Lib.hid (dcount_any b s p _ KS0.out.rd hp hs)
 subst hd
 rw [h1] at HK
 have HIH := Lib.hid (ih d rfl)
 have HR : Hid (rPK (fun p => rPat s d p) s 2 q = R) := Lib.hid (by rw [← hR]; simp only [rPat, rOne_ok h1 (by omega : 1 ≤ 2 ∧ 2 ≤ 6), Rs.bind])
 have n64 : ¬ (64 : Int) ≤ (v : Int) := by omega
 clear hR h1 ih
 go_enter Tryz.func55, Tryz.ntmps55
 go_wp2_with fail
 clear b0 b1 b2
 (with_reducible refine HK.out.mono ?_)
 rintro e w1 ⟨rfl, g3, g4, hq⟩
 have KC := Lib.hid (KS0.out.call g4 g3 hbl)
 have KA := Lib.hid (KC.out.put (l' := qD 2 0 T.zero.ds noD noD) (us' := #[.int .i64 2, .int .i64 0, .int .i64 0, .int .i64 0, .complex .f64 0 0, .string ⟨#[]⟩, .int .i64 0, .int .i64 0, .slice none 0 0, .slice none 0 0, .slice none 0 0]) rfl hbl 0 (.int .i64 2) rfl (qD_dvs _ _ (ZT7 _ _) (DV.v.2 rfl) (DV.v.2 rfl)))
 obtain ⟨x0, x1, x2, x3, x4, x5, x6, x7, x8, x9, x10⟩ := Bk.eleven KC.out.fr.t
 obtain ⟨c0, c1, c2⟩ := Rdc.three KC.out.rd
 have k0 := KC.out.fr.t.free 0
 have k1 := KC.out.fr.t.free 1
 have k2 := KC.out.fr.t.free 2
 have k3 := KC.out.fr.t.free 3
 have k4 := KC.out.fr.t.free 4
 have k5 := KC.out.fr.t.free 5
 have k6 := KC.out.fr.t.free 6
 have k7 := KC.out.fr.t.free 7
 have k8 := KC.out.fr.t.free 8
 have k9 := KC.out.fr.t.free 9
 have k10 := KC.out.fr.t.free 10
 clear g3 g4 HK KS0
 have HK := Lib.hid (dcount_any b s q _ KA.out.rd hq hs)
 cases hr : rCnt s q with
 | bad t =>
  have hre : R = .bad t := by rw [← HR.out]; simp [rPK, hr, Rs.map, Rs.bind]
  have HRE := Lib.hid hre
  rw [hr] at HK
  clear HR hr hre
  go_wp2_with fail
  clear x0 x1 x2 x3 x4 x5 x6 x7 x8 x9 x10 c0 c1 c2 k0 k1 k2 k3 k4 k5 k6 k7 k8 k9 k10
  (with_reducible refine HK.out.mono ?_)
  rintro e w2 ⟨rfl, ⟨p2, g3⟩, g4⟩
  have KC := Lib.hid (KA.out.call g4 g3 hbl)
  have KN := Lib.hid (KC.out.put (l' := qD 2 0 T.zero.ds noD noD) (us' := #[.int .i64 2, .int .i64 0, .int .i64 0, .int .i64 0, .complex .f64 0 0, .string ⟨#[]⟩, .int .i64 0, .int .i64 0, .slice none 0 0, .slice none 0 0, .slice none 0 0]) rfl hbl 1 (.int .i64 0) rfl (qD_dvs _ _ (ZT7 _ _) (DV.v.2 rfl) (DV.v.2 rfl)))
  obtain ⟨x0, x1, x2, x3, x4, x5, x6, x7, x8, x9, x10⟩ := Bk.eleven KC.out.fr.t
  obtain ⟨c0, c1, c2⟩ := Rdc.three KC.out.rd
  have k0 := KC.out.fr.t.free 0
  have k1 := KC.out.fr.t.free 1
  have k2 := KC.out.fr.t.free 2
  have k3 := KC.out.fr.t.free 3
  have k4 := KC.out.fr.t.free 4
  have k5 := KC.out.fr.t.free 5
  have k6 := KC.out.fr.t.free 6
  have k7 := KC.out.fr.t.free 7
  have k8 := KC.out.fr.t.free 8
  have k9 := KC.out.fr.t.free 9
  have k10 := KC.out.fr.t.free 10
  clear g3 g4 HK
  have hone : (#[.int .i64 2, .int .i64 0, .int .i64 0, .int .i64 0, .complex .f64 0 0, .string ⟨#[]⟩, .int .i64 0, .int .i64 0, .slice none 0 0, .slice none 0 0, .slice none 0 0] : Array Value).all (·.oneCell') = true := by simp [Value.oneCell']
  have HE := Lib.hid (fun W' => DSt.fin (w' := W') KN.out rfl hbl)
  go_wp2_with (first
   | (refine wpList_load_row (by rfl) 88 _ (by rfl) (w.heap.size + 1) (by rfl) 88 #[.int .i64 2, .int .i64 0, .int .i64 0, .int .i64 0, .complex .f64 0 0, .string ⟨#[]⟩, .int .i64 0, .int .i64 0, .slice none 0 0, .slice none 0 0, .slice none 0 0] (0, 0) _ KN.out.fr.t Tryz.underlying88 (by rfl) (by rw [size11]; rfl) ?_)
   | (refine wpList_store_row (by rfl) _ _ _ (by rfl) w.heap.size #[.int .i64 2, .int .i64 0, .int .i64 0, .int .i64 0, .complex .f64 0 0, .string ⟨#[]⟩, .int .i64 0, .int .i64 0, .slice none 0 0, .slice none 0 0, .slice none 0 0] (by rfl) (by rfl) 88 ZQ KN.out.fr.o (by rw [size11]; rfl) (by rfl) hone ?_; have HE2 := HE.out _ rfl; generalize World.setRow _ _ _ = W5 at HE2 ⊢; clear HE; obtain ⟨e1, e2⟩ := HE2; have E2 := Lib.hid e2; obtain ⟨z0, z1, z2, z3, z4, z5, z6, z7, z8, z9, z10⟩ := Bk.eleven e1; clear e1 e2))
  refine bodyPost_ret (v := .agg #[.int .i64 2, .int .i64 0, .int .i64 0, .int .i64 0, .complex .f64 0 0, .string ⟨#[]⟩, .int .i64 0, .int .i64 0, .slice none 0 0, .slice none 0 0, .slice none 0 0]) (by simp [results, Tryz.results55, go_sem, z0, z1, z2, z3, z4, z5, z6, z7, z8, z9, z10]) rfl ?_
  rw [HRE.out]
  exact ⟨#[.int .i64 2, .int .i64 0, .int .i64 0, .int .i64 0, .complex .f64 0 0, .string ⟨#[]⟩, .int .i64 0, .int .i64 0, .slice none 0 0, .slice none 0 0, .slice none 0 0], _, _, _, rfl, rfl, qD_len _ _ _ _ zt_len, qD_one _ _ zt_one no_one no_one, E2.out.1, E2.out.2.1, E2.out.2.2, rfl⟩
 | ok y t =>
  have hre : R = .ok (.var (y : Int)) t := by rw [← HR.out]; simp [rPK, hr, Rs.map, Rs.bind]
  have HRE := Lib.hid hre
  rw [hr] at HK
  clear HR hr hre
  go_wp2_with fail
  clear x0 x1 x2 x3 x4 x5 x6 x7 x8 x9 x10 c0 c1 c2 k0 k1 k2 k3 k4 k5 k6 k7 k8 k9 k10
  (with_reducible refine HK.out.mono ?_)
  rintro e w2 ⟨rfl, g3, g4, g5⟩
  have KC := Lib.hid (KA.out.call g4 g3 hbl)
  have KN := Lib.hid (KC.out.put (l' := qD 2 (y : Int) T.zero.ds noD noD) (us' := #[.int .i64 2, .int .i64 y, .int .i64 0, .int .i64 0, .complex .f64 0 0, .string ⟨#[]⟩, .int .i64 0, .int .i64 0, .slice none 0 0, .slice none 0 0, .slice none 0 0]) rfl hbl 1 (.int .i64 y) rfl (qD_dvs _ _ (ZT7 _ _) (DV.v.2 rfl) (DV.v.2 rfl)))
  obtain ⟨x0, x1, x2, x3, x4, x5, x6, x7, x8, x9, x10⟩ := Bk.eleven KC.out.fr.t
  obtain ⟨c0, c1, c2⟩ := Rdc.three KC.out.rd
  have k0 := KC.out.fr.t.free 0
  have k1 := KC.out.fr.t.free 1
  have k2 := KC.out.fr.t.free 2
  have k3 := KC.out.fr.t.free 3
  have k4 := KC.out.fr.t.free 4
  have k5 := KC.out.fr.t.free 5
  have k6 := KC.out.fr.t.free 6
  have k7 := KC.out.fr.t.free 7
  have k8 := KC.out.fr.t.free 8
  have k9 := KC.out.fr.t.free 9
  have k10 := KC.out.fr.t.free 10
  clear g3 g4 HK
  have hone : (#[.int .i64 2, .int .i64 y, .int .i64 0, .int .i64 0, .complex .f64 0 0, .string ⟨#[]⟩, .int .i64 0, .int .i64 0, .slice none 0 0, .slice none 0 0, .slice none 0 0] : Array Value).all (·.oneCell') = true := by simp [Value.oneCell']
  have HE := Lib.hid (fun W' => DSt.fin (w' := W') KN.out rfl hbl)
  go_wp2_with (first
   | (refine wpList_load_row (by rfl) 88 _ (by rfl) (w.heap.size + 1) (by rfl) 88 #[.int .i64 2, .int .i64 y, .int .i64 0, .int .i64 0, .complex .f64 0 0, .string ⟨#[]⟩, .int .i64 0, .int .i64 0, .slice none 0 0, .slice none 0 0, .slice none 0 0] (0, 0) _ KN.out.fr.t Tryz.underlying88 (by rfl) (by rw [size11]; rfl) ?_)
   | (refine wpList_store_row (by rfl) _ _ _ (by rfl) w.heap.size #[.int .i64 2, .int .i64 y, .int .i64 0, .int .i64 0, .complex .f64 0 0, .string ⟨#[]⟩, .int .i64 0, .int .i64 0, .slice none 0 0, .slice none 0 0, .slice none 0 0] (by rfl) (by rfl) 88 ZQ KN.out.fr.o (by rw [size11]; rfl) (by rfl) hone ?_; have HE2 := HE.out _ rfl; generalize World.setRow _ _ _ = W5 at HE2 ⊢; clear HE; obtain ⟨e1, e2⟩ := HE2; have E2 := Lib.hid e2; obtain ⟨z0, z1, z2, z3, z4, z5, z6, z7, z8, z9, z10⟩ := Bk.eleven e1; clear e1 e2))
  refine bodyPost_ret (v := .agg #[.int .i64 2, .int .i64 y, .int .i64 0, .int .i64 0, .complex .f64 0 0, .string ⟨#[]⟩, .int .i64 0, .int .i64 0, .slice none 0 0, .slice none 0 0, .slice none 0 0]) (by simp [results, Tryz.results55, go_sem, z0, z1, z2, z3, z4, z5, z6, z7, z8, z9, z10]) rfl ?_
  rw [HRE.out]
  exact ⟨#[.int .i64 2, .int .i64 y, .int .i64 0, .int .i64 0, .complex .f64 0 0, .string ⟨#[]⟩, .int .i64 0, .int .i64 0, .slice none 0 0, .slice none 0 0, .slice none 0 0], _, _, _, rfl, rfl, qD_len _ _ _ _ zt_len, qD_one _ _ zt_one no_one no_one, E2.out.1, E2.out.2.1, E2.out.2.2, ⟨by simp only [QT.ds], rfl, rfl, g5⟩⟩
theorem dpat_go3 (s : ByteArray) (d0 : Nat) (ih : ∀ d, d0 = d + 1 → DPatOk s d) (b p v : Nat) (w : World) (hv : v + d0 = 64) (hb : Rdc w b s p (-1)) (hp : p ≤ s.size) (hs : s.size ≤ 262144) (q d : Nat) (hd : d0 = d + 1) (h1 : rCnt s p = .ok 3 q) :
 Calls Tryz.prog 55 #[.pointer (some ⟨b, 0, none⟩), .int .i64 v] w fun e w' => DS b s 11 QT.ds (rPat s d0 p) w e w' := by
 have hbl := Bk.lt hb
 have KS0 : Hid (DP s b w.heap.size w ((w.alloc (.cells ZQ 88)).alloc (.cells ZQ 88)) p (-1) (qD 0 0 T.zero.ds noD noD) ZQ) := Lib.hid (DSt.made hb (qD_dvs _ _ (ZT7 _ _) (DV.v.2 rfl) (DV.v.2 rfl)))
 obtain ⟨R, hR⟩ : ∃ R, rPat s d0 p = R := ⟨_, rfl⟩
 rw [hR]
 obtain ⟨b0, b1, b2⟩ := Rdc.three KS0.out.rd
 have HK := Lib.hid (dcount_any b s p _ KS0.out.rd hp hs)
 subst hd
 rw [h1] at HK
 have HIH := Lib.hid (ih d rfl)
 have HR : Hid (rPK (fun p => rPat s d p) s 3 q = R) := Lib.hid (by rw [← hR]; simp only [rPat, rOne_ok h1 (by omega : 1 ≤ 3 ∧ 3 ≤ 6), Rs.bind])
 have n64 : ¬ (64 : Int) ≤ (v : Int) := by omega
 clear hR h1 ih
 go_enter Tryz.func55, Tryz.ntmps55
 go_wp2_with fail
 clear b0 b1 b2
 (with_reducible refine HK.out.mono ?_)
 rintro e w1 ⟨rfl, g3, g4, hq⟩
 have KC := Lib.hid (KS0.out.call g4 g3 hbl)
 have KA := Lib.hid (KC.out.put (l' := qD 3 0 T.zero.ds noD noD) (us' := #[.int .i64 3, .int .i64 0, .int .i64 0, .int .i64 0, .complex .f64 0 0, .string ⟨#[]⟩, .int .i64 0, .int .i64 0, .slice none 0 0, .slice none 0 0, .slice none 0 0]) rfl hbl 0 (.int .i64 3) rfl (qD_dvs _ _ (ZT7 _ _) (DV.v.2 rfl) (DV.v.2 rfl)))
 obtain ⟨x0, x1, x2, x3, x4, x5, x6, x7, x8, x9, x10⟩ := Bk.eleven KC.out.fr.t
 obtain ⟨c0, c1, c2⟩ := Rdc.three KC.out.rd
 have k0 := KC.out.fr.t.free 0
 have k1 := KC.out.fr.t.free 1
 have k2 := KC.out.fr.t.free 2
 have k3 := KC.out.fr.t.free 3
 have k4 := KC.out.fr.t.free 4
 have k5 := KC.out.fr.t.free 5
 have k6 := KC.out.fr.t.free 6
 have k7 := KC.out.fr.t.free 7
 have k8 := KC.out.fr.t.free 8
 have k9 := KC.out.fr.t.free 9
 have k10 := KC.out.fr.t.free 10
 clear g3 g4 HK KS0
 have HK := Lib.hid (show Calls Tryz.prog _ #[.pointer (some ⟨b, 0, none⟩), .int .i64 0] _ fun e w' => DS b s 7 T.ds (rTerm s 64 q) _ e w' from dterm_any s 64 b q 0 _ rfl KA.out.rd hq hs)
 go_wp2_with fail
 clear x0 x1 x2 x3 x4 x5 x6 x7 x8 x9 x10 c0 c1 c2 k0 k1 k2 k3 k4 k5 k6 k7 k8 k9 k10
 (with_reducible refine HK.out.mono ?_)
 rintro e w3 ⟨us, l3, p3, bd3, rfl, hus, hl3, ho3, hd3, hr3, on3, hst3⟩
 cases hr : rTerm s 64 q with
 | bad t =>
  have hre : R = .bad t := by rw [← HR.out]; simp [rPK, hr, Rs.map, Rs.bind]
  have HRE := Lib.hid hre
  rw [hr] at hst3
  have hst4 : bd3 = (t : Int) := hst3
  subst hst4
  clear HR hr hre HK
  have HD := Lib.hid hd3
  have hu := DVs.one hd3 ho3
  obtain ⟨v0, v1, v2, v3, v4, v5, v6, rfl⟩ := seven_of hus
  have hu1 : (#[v0, v1, v2, v3, v4, v5, v6] : Array Value).all (·.oneCell') = true := by
   rw [Array.all_eq_true']
   intro v hv
   exact hu v (Array.mem_toList_iff.2 hv)
  have KC := Lib.hid (KA.out.call on3 hr3 hbl)
  have sz1 := Bk.lt KA.out.fr.t
  have hd2 := DVs.more (F' := fun g => w.heap.size + 1 < g) (fun g hg => by omega) hd3
  have hth : w3.there (w.heap.size + 1) 2 7 := fun j hj => by
   obtain rfl | rfl | rfl | rfl | rfl | rfl | rfl : j = 0 ∨ j = 1 ∨ j = 2 ∨ j = 3 ∨ j = 4 ∨ j = 5 ∨ j = 6 := by omega
   all_goals exact ⟨by rw [Bk.cell KC.out.fr.t]; rfl, Bk.free KC.out.fr.t _⟩
  have K0 := Lib.hid (KC.out.puts (l' := qD 3 0 l3 noD noD) (us' := #[.int .i64 3, .int .i64 0, v0, v1, v2, v3, v4, v5, v6, .slice none 0 0, .slice none 0 0]) rfl hbl 2 [v0, v1, v2, v3, v4, v5, v6] (by simp) (qD_dvs _ _ hd2 (DV.v.2 rfl) (DV.v.2 rfl)))
  have hone0 : ∀ u ∈ (#[.int .i64 3, .int .i64 0, v0, v1, v2, v3, v4, v5, v6, .slice none 0 0, .slice none 0 0] : Array Value), u.oneCell' = true := by
   intro v hv
   simp only [List.mem_toArray, List.mem_cons, List.not_mem_nil, or_false] at hv
   rcases hv with rfl | rfl | rfl | rfl | rfl | rfl | rfl | rfl | rfl | rfl | rfl <;> first | rfl | exact hu _ (by simp)
  clear hd3 hr3 on3 hst3 hd2 hu
  have hone : (#[.int .i64 3, .int .i64 0, v0, v1, v2, v3, v4, v5, v6, .slice none 0 0, .slice none 0 0] : Array Value).all (·.oneCell') = true := by rw [Array.all_eq_true']; exact hone0
  go_wp2_with (first
   | (refine wpList_store_mid (by rfl) _ _ _ (by rfl) (w.heap.size + 1) 2 #[v0, v1, v2, v3, v4, v5, v6] (by rfl) (by rfl) hth (by rw [size7]; rfl) hu1 ?_; have key2 := K0.out; generalize World.setCells _ _ _ _ = W3 at key2 ⊢; clear K0; have KN := Lib.hid key2; have HE := Lib.hid (fun W' => DSt.fin (w' := W') key2 rfl hbl); clear key2)
   | (refine wpList_load_row (by rfl) 88 _ (by rfl) (w.heap.size + 1) (by rfl) 88 #[.int .i64 3, .int .i64 0, v0, v1, v2, v3, v4, v5, v6, .slice none 0 0, .slice none 0 0] (0, 0) _ KN.out.fr.t Tryz.underlying88 (by rfl) (by rw [size11]; rfl) ?_)
   | (refine wpList_store_row (by rfl) _ _ _ (by rfl) w.heap.size #[.int .i64 3, .int .i64 0, v0, v1, v2, v3, v4, v5, v6, .slice none 0 0, .slice none 0 0] (by rfl) (by rfl) 88 ZQ KN.out.fr.o (by rw [size11]; rfl) (by rfl) hone ?_; have HE2 := HE.out _ rfl; generalize World.setRow _ _ _ = W5 at HE2 ⊢; clear HE; obtain ⟨e1, e2⟩ := HE2; have E2 := Lib.hid e2; obtain ⟨z0, z1, z2, z3, z4, z5, z6, z7, z8, z9, z10⟩ := Bk.eleven e1; clear e1 e2))
  refine bodyPost_ret (v := .agg #[.int .i64 3, .int .i64 0, v0, v1, v2, v3, v4, v5, v6, .slice none 0 0, .slice none 0 0]) (by simp [results, Tryz.results55, go_sem, z0, z1, z2, z3, z4, z5, z6, z7, z8, z9, z10]) rfl ?_
  rw [HRE.out]
  exact ⟨#[.int .i64 3, .int .i64 0, v0, v1, v2, v3, v4, v5, v6, .slice none 0 0, .slice none 0 0], _, _, _, rfl, rfl, qD_len _ _ _ _ hl3, qD_one _ _ ho3 no_one no_one, E2.out.1, E2.out.2.1, E2.out.2.2, rfl⟩
 | ok y t =>
  have hre : R = .ok (.term y) t := by rw [← HR.out]; simp [rPK, hr, Rs.map, Rs.bind]
  have HRE := Lib.hid hre
  rw [hr] at hst3
  obtain ⟨hly, rfl, rfl, hps⟩ := hst3
  have hst3 := hly
  clear HR hr hre HK
  have HD := Lib.hid hd3
  have hu := DVs.one hd3 ho3
  obtain ⟨v0, v1, v2, v3, v4, v5, v6, rfl⟩ := seven_of hus
  have hu1 : (#[v0, v1, v2, v3, v4, v5, v6] : Array Value).all (·.oneCell') = true := by
   rw [Array.all_eq_true']
   intro v hv
   exact hu v (Array.mem_toList_iff.2 hv)
  have KC := Lib.hid (KA.out.call on3 hr3 hbl)
  have sz1 := Bk.lt KA.out.fr.t
  have hd2 := DVs.more (F' := fun g => w.heap.size + 1 < g) (fun g hg => by omega) hd3
  have hth : w3.there (w.heap.size + 1) 2 7 := fun j hj => by
   obtain rfl | rfl | rfl | rfl | rfl | rfl | rfl : j = 0 ∨ j = 1 ∨ j = 2 ∨ j = 3 ∨ j = 4 ∨ j = 5 ∨ j = 6 := by omega
   all_goals exact ⟨by rw [Bk.cell KC.out.fr.t]; rfl, Bk.free KC.out.fr.t _⟩
  have K0 := Lib.hid (KC.out.puts (l' := qD 3 0 l3 noD noD) (us' := #[.int .i64 3, .int .i64 0, v0, v1, v2, v3, v4, v5, v6, .slice none 0 0, .slice none 0 0]) rfl hbl 2 [v0, v1, v2, v3, v4, v5, v6] (by simp) (qD_dvs _ _ hd2 (DV.v.2 rfl) (DV.v.2 rfl)))
  have hone0 : ∀ u ∈ (#[.int .i64 3, .int .i64 0, v0, v1, v2, v3, v4, v5, v6, .slice none 0 0, .slice none 0 0] : Array Value), u.oneCell' = true := by
   intro v hv
   simp only [List.mem_toArray, List.mem_cons, List.not_mem_nil, or_false] at hv
   rcases hv with rfl | rfl | rfl | rfl | rfl | rfl | rfl | rfl | rfl | rfl | rfl <;> first | rfl | exact hu _ (by simp)
  clear hd3 hr3 on3 hst3 hd2 hu
  have hone : (#[.int .i64 3, .int .i64 0, v0, v1, v2, v3, v4, v5, v6, .slice none 0 0, .slice none 0 0] : Array Value).all (·.oneCell') = true := by rw [Array.all_eq_true']; exact hone0
  go_wp2_with (first
   | (refine wpList_store_mid (by rfl) _ _ _ (by rfl) (w.heap.size + 1) 2 #[v0, v1, v2, v3, v4, v5, v6] (by rfl) (by rfl) hth (by rw [size7]; rfl) hu1 ?_; have key2 := K0.out; generalize World.setCells _ _ _ _ = W3 at key2 ⊢; clear K0; have KN := Lib.hid key2; have HE := Lib.hid (fun W' => DSt.fin (w' := W') key2 rfl hbl); clear key2)
   | (refine wpList_load_row (by rfl) 88 _ (by rfl) (w.heap.size + 1) (by rfl) 88 #[.int .i64 3, .int .i64 0, v0, v1, v2, v3, v4, v5, v6, .slice none 0 0, .slice none 0 0] (0, 0) _ KN.out.fr.t Tryz.underlying88 (by rfl) (by rw [size11]; rfl) ?_)
   | (refine wpList_store_row (by rfl) _ _ _ (by rfl) w.heap.size #[.int .i64 3, .int .i64 0, v0, v1, v2, v3, v4, v5, v6, .slice none 0 0, .slice none 0 0] (by rfl) (by rfl) 88 ZQ KN.out.fr.o (by rw [size11]; rfl) (by rfl) hone ?_; have HE2 := HE.out _ rfl; generalize World.setRow _ _ _ = W5 at HE2 ⊢; clear HE; obtain ⟨e1, e2⟩ := HE2; have E2 := Lib.hid e2; obtain ⟨z0, z1, z2, z3, z4, z5, z6, z7, z8, z9, z10⟩ := Bk.eleven e1; clear e1 e2))
  refine bodyPost_ret (v := .agg #[.int .i64 3, .int .i64 0, v0, v1, v2, v3, v4, v5, v6, .slice none 0 0, .slice none 0 0]) (by simp [results, Tryz.results55, go_sem, z0, z1, z2, z3, z4, z5, z6, z7, z8, z9, z10]) rfl ?_
  rw [HRE.out]
  exact ⟨#[.int .i64 3, .int .i64 0, v0, v1, v2, v3, v4, v5, v6, .slice none 0 0, .slice none 0 0], _, _, _, rfl, rfl, qD_len _ _ _ _ hl3, qD_one _ _ ho3 no_one no_one, E2.out.1, E2.out.2.1, E2.out.2.2, ⟨by simp only [QT.ds, hly], rfl, rfl, hps⟩⟩
theorem dpat_go4 (s : ByteArray) (d0 : Nat) (ih : ∀ d, d0 = d + 1 → DPatOk s d) (b p v : Nat) (w : World) (hv : v + d0 = 64) (hb : Rdc w b s p (-1)) (hp : p ≤ s.size) (hs : s.size ≤ 262144) (q d : Nat) (hd : d0 = d + 1) (h1 : rCnt s p = .ok 4 q) :
 Calls Tryz.prog 55 #[.pointer (some ⟨b, 0, none⟩), .int .i64 v] w fun e w' => DS b s 11 QT.ds (rPat s d0 p) w e w' := by
 have hbl := Bk.lt hb
 have KS0 : Hid (DP s b w.heap.size w ((w.alloc (.cells ZQ 88)).alloc (.cells ZQ 88)) p (-1) (qD 0 0 T.zero.ds noD noD) ZQ) := Lib.hid (DSt.made hb (qD_dvs _ _ (ZT7 _ _) (DV.v.2 rfl) (DV.v.2 rfl)))
 obtain ⟨R, hR⟩ : ∃ R, rPat s d0 p = R := ⟨_, rfl⟩
 rw [hR]
 obtain ⟨b0, b1, b2⟩ := Rdc.three KS0.out.rd
 have HK := Lib.hid (dcount_any b s p _ KS0.out.rd hp hs)
 subst hd
 rw [h1] at HK
 have HIH := Lib.hid (ih d rfl)
 have HR : Hid (rPK (fun p => rPat s d p) s 4 q = R) := Lib.hid (by rw [← hR]; simp only [rPat, rOne_ok h1 (by omega : 1 ≤ 4 ∧ 4 ≤ 6), Rs.bind])
 have n64 : ¬ (64 : Int) ≤ (v : Int) := by omega
 clear hR h1 ih
 go_enter Tryz.func55, Tryz.ntmps55
 go_wp2_with fail
 clear b0 b1 b2
 (with_reducible refine HK.out.mono ?_)
 rintro e w1 ⟨rfl, g3, g4, hq⟩
 have KC := Lib.hid (KS0.out.call g4 g3 hbl)
 have KA := Lib.hid (KC.out.put (l' := qD 4 0 T.zero.ds noD noD) (us' := #[.int .i64 4, .int .i64 0, .int .i64 0, .int .i64 0, .complex .f64 0 0, .string ⟨#[]⟩, .int .i64 0, .int .i64 0, .slice none 0 0, .slice none 0 0, .slice none 0 0]) rfl hbl 0 (.int .i64 4) rfl (qD_dvs _ _ (ZT7 _ _) (DV.v.2 rfl) (DV.v.2 rfl)))
 obtain ⟨x0, x1, x2, x3, x4, x5, x6, x7, x8, x9, x10⟩ := Bk.eleven KC.out.fr.t
 obtain ⟨c0, c1, c2⟩ := Rdc.three KC.out.rd
 have k0 := KC.out.fr.t.free 0
 have k1 := KC.out.fr.t.free 1
 have k2 := KC.out.fr.t.free 2
 have k3 := KC.out.fr.t.free 3
 have k4 := KC.out.fr.t.free 4
 have k5 := KC.out.fr.t.free 5
 have k6 := KC.out.fr.t.free 6
 have k7 := KC.out.fr.t.free 7
 have k8 := KC.out.fr.t.free 8
 have k9 := KC.out.fr.t.free 9
 have k10 := KC.out.fr.t.free 10
 clear g3 g4 HK KS0
 have HK := Lib.hid (dcount_any b s q _ KA.out.rd hq hs)
 cases hr : rCnt s q with
 | bad t =>
  have hre : R = .bad t := by rw [← HR.out]; simp [rPK, hr, Rs.map, Rs.bind]
  have HRE := Lib.hid hre
  rw [hr] at HK
  clear HR hr hre
  go_wp2_with fail
  clear x0 x1 x2 x3 x4 x5 x6 x7 x8 x9 x10 c0 c1 c2 k0 k1 k2 k3 k4 k5 k6 k7 k8 k9 k10
  (with_reducible refine HK.out.mono ?_)
  rintro e w2 ⟨rfl, ⟨p2, g3⟩, g4⟩
  have KC := Lib.hid (KA.out.call g4 g3 hbl)
  have KN := Lib.hid (KC.out.put (l' := qD 4 0 T.zero.ds noD noD) (us' := #[.int .i64 4, .int .i64 0, .int .i64 0, .int .i64 0, .complex .f64 0 0, .string ⟨#[]⟩, .int .i64 0, .int .i64 0, .slice none 0 0, .slice none 0 0, .slice none 0 0]) rfl hbl 1 (.int .i64 0) rfl (qD_dvs _ _ (ZT7 _ _) (DV.v.2 rfl) (DV.v.2 rfl)))
  obtain ⟨x0, x1, x2, x3, x4, x5, x6, x7, x8, x9, x10⟩ := Bk.eleven KC.out.fr.t
  obtain ⟨c0, c1, c2⟩ := Rdc.three KC.out.rd
  have k0 := KC.out.fr.t.free 0
  have k1 := KC.out.fr.t.free 1
  have k2 := KC.out.fr.t.free 2
  have k3 := KC.out.fr.t.free 3
  have k4 := KC.out.fr.t.free 4
  have k5 := KC.out.fr.t.free 5
  have k6 := KC.out.fr.t.free 6
  have k7 := KC.out.fr.t.free 7
  have k8 := KC.out.fr.t.free 8
  have k9 := KC.out.fr.t.free 9
  have k10 := KC.out.fr.t.free 10
  clear g3 g4 HK
  have hone : (#[.int .i64 4, .int .i64 0, .int .i64 0, .int .i64 0, .complex .f64 0 0, .string ⟨#[]⟩, .int .i64 0, .int .i64 0, .slice none 0 0, .slice none 0 0, .slice none 0 0] : Array Value).all (·.oneCell') = true := by simp [Value.oneCell']
  have HE := Lib.hid (fun W' => DSt.fin (w' := W') KN.out rfl hbl)
  go_wp2_with (first
   | (refine wpList_load_row (by rfl) 88 _ (by rfl) (w.heap.size + 1) (by rfl) 88 #[.int .i64 4, .int .i64 0, .int .i64 0, .int .i64 0, .complex .f64 0 0, .string ⟨#[]⟩, .int .i64 0, .int .i64 0, .slice none 0 0, .slice none 0 0, .slice none 0 0] (0, 0) _ KN.out.fr.t Tryz.underlying88 (by rfl) (by rw [size11]; rfl) ?_)
   | (refine wpList_store_row (by rfl) _ _ _ (by rfl) w.heap.size #[.int .i64 4, .int .i64 0, .int .i64 0, .int .i64 0, .complex .f64 0 0, .string ⟨#[]⟩, .int .i64 0, .int .i64 0, .slice none 0 0, .slice none 0 0, .slice none 0 0] (by rfl) (by rfl) 88 ZQ KN.out.fr.o (by rw [size11]; rfl) (by rfl) hone ?_; have HE2 := HE.out _ rfl; generalize World.setRow _ _ _ = W5 at HE2 ⊢; clear HE; obtain ⟨e1, e2⟩ := HE2; have E2 := Lib.hid e2; obtain ⟨z0, z1, z2, z3, z4, z5, z6, z7, z8, z9, z10⟩ := Bk.eleven e1; clear e1 e2))
  refine bodyPost_ret (v := .agg #[.int .i64 4, .int .i64 0, .int .i64 0, .int .i64 0, .complex .f64 0 0, .string ⟨#[]⟩, .int .i64 0, .int .i64 0, .slice none 0 0, .slice none 0 0, .slice none 0 0]) (by simp [results, Tryz.results55, go_sem, z0, z1, z2, z3, z4, z5, z6, z7, z8, z9, z10]) rfl ?_
  rw [HRE.out]
  exact ⟨#[.int .i64 4, .int .i64 0, .int .i64 0, .int .i64 0, .complex .f64 0 0, .string ⟨#[]⟩, .int .i64 0, .int .i64 0, .slice none 0 0, .slice none 0 0, .slice none 0 0], _, _, _, rfl, rfl, qD_len _ _ _ _ zt_len, qD_one _ _ zt_one no_one no_one, E2.out.1, E2.out.2.1, E2.out.2.2, rfl⟩
 | ok y t =>
  have hre : R = .ok (.kind (y : Int)) t := by rw [← HR.out]; simp [rPK, hr, Rs.map, Rs.bind]
  have HRE := Lib.hid hre
  rw [hr] at HK
  clear HR hr hre
  go_wp2_with fail
  clear x0 x1 x2 x3 x4 x5 x6 x7 x8 x9 x10 c0 c1 c2 k0 k1 k2 k3 k4 k5 k6 k7 k8 k9 k10
  (with_reducible refine HK.out.mono ?_)
  rintro e w2 ⟨rfl, g3, g4, g5⟩
  have KC := Lib.hid (KA.out.call g4 g3 hbl)
  have KN := Lib.hid (KC.out.put (l' := qD 4 (y : Int) T.zero.ds noD noD) (us' := #[.int .i64 4, .int .i64 y, .int .i64 0, .int .i64 0, .complex .f64 0 0, .string ⟨#[]⟩, .int .i64 0, .int .i64 0, .slice none 0 0, .slice none 0 0, .slice none 0 0]) rfl hbl 1 (.int .i64 y) rfl (qD_dvs _ _ (ZT7 _ _) (DV.v.2 rfl) (DV.v.2 rfl)))
  obtain ⟨x0, x1, x2, x3, x4, x5, x6, x7, x8, x9, x10⟩ := Bk.eleven KC.out.fr.t
  obtain ⟨c0, c1, c2⟩ := Rdc.three KC.out.rd
  have k0 := KC.out.fr.t.free 0
  have k1 := KC.out.fr.t.free 1
  have k2 := KC.out.fr.t.free 2
  have k3 := KC.out.fr.t.free 3
  have k4 := KC.out.fr.t.free 4
  have k5 := KC.out.fr.t.free 5
  have k6 := KC.out.fr.t.free 6
  have k7 := KC.out.fr.t.free 7
  have k8 := KC.out.fr.t.free 8
  have k9 := KC.out.fr.t.free 9
  have k10 := KC.out.fr.t.free 10
  clear g3 g4 HK
  have hone : (#[.int .i64 4, .int .i64 y, .int .i64 0, .int .i64 0, .complex .f64 0 0, .string ⟨#[]⟩, .int .i64 0, .int .i64 0, .slice none 0 0, .slice none 0 0, .slice none 0 0] : Array Value).all (·.oneCell') = true := by simp [Value.oneCell']
  have HE := Lib.hid (fun W' => DSt.fin (w' := W') KN.out rfl hbl)
  go_wp2_with (first
   | (refine wpList_load_row (by rfl) 88 _ (by rfl) (w.heap.size + 1) (by rfl) 88 #[.int .i64 4, .int .i64 y, .int .i64 0, .int .i64 0, .complex .f64 0 0, .string ⟨#[]⟩, .int .i64 0, .int .i64 0, .slice none 0 0, .slice none 0 0, .slice none 0 0] (0, 0) _ KN.out.fr.t Tryz.underlying88 (by rfl) (by rw [size11]; rfl) ?_)
   | (refine wpList_store_row (by rfl) _ _ _ (by rfl) w.heap.size #[.int .i64 4, .int .i64 y, .int .i64 0, .int .i64 0, .complex .f64 0 0, .string ⟨#[]⟩, .int .i64 0, .int .i64 0, .slice none 0 0, .slice none 0 0, .slice none 0 0] (by rfl) (by rfl) 88 ZQ KN.out.fr.o (by rw [size11]; rfl) (by rfl) hone ?_; have HE2 := HE.out _ rfl; generalize World.setRow _ _ _ = W5 at HE2 ⊢; clear HE; obtain ⟨e1, e2⟩ := HE2; have E2 := Lib.hid e2; obtain ⟨z0, z1, z2, z3, z4, z5, z6, z7, z8, z9, z10⟩ := Bk.eleven e1; clear e1 e2))
  refine bodyPost_ret (v := .agg #[.int .i64 4, .int .i64 y, .int .i64 0, .int .i64 0, .complex .f64 0 0, .string ⟨#[]⟩, .int .i64 0, .int .i64 0, .slice none 0 0, .slice none 0 0, .slice none 0 0]) (by simp [results, Tryz.results55, go_sem, z0, z1, z2, z3, z4, z5, z6, z7, z8, z9, z10]) rfl ?_
  rw [HRE.out]
  exact ⟨#[.int .i64 4, .int .i64 y, .int .i64 0, .int .i64 0, .complex .f64 0 0, .string ⟨#[]⟩, .int .i64 0, .int .i64 0, .slice none 0 0, .slice none 0 0, .slice none 0 0], _, _, _, rfl, rfl, qD_len _ _ _ _ zt_len, qD_one _ _ zt_one no_one no_one, E2.out.1, E2.out.2.1, E2.out.2.2, ⟨by simp only [QT.ds], rfl, rfl, g5⟩⟩
end Go.Proofs.YtcdefnbehlcgeaaGreatDoor
