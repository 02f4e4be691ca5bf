/- The document's reader of a term. -/
import Derived.Test.YtcdefnbehlcgeaaGreatDoorWbo
set_option maxHeartbeats 16000000
set_option maxRecDepth 20000
set_option linter.unusedSimpArgs false
set_option linter.unusedVariables false
namespace Go.Proofs.YtcdefnbehlcgeaaGreatDoor
open Go.RowKit
noncomputable def KTm : DK where
 e := 52
 t := 50
 k := 7
 by' := 88
 i := (Tryz.prog.info? 52).getD default
 z := .agg ZT
 ht := Tryz.underlying50
 hi := by kernel_rfl
 hz := by kernel_rfl
 hk := by kernel_rfl
 hb := by kernel_rfl
 hzs := by kernel_rfl
 h0 := by decide
 hb1 := by decide
theorem tD_dvs {w : World} {F : Nat → Prop} (k n : Int) (x y : Nat) (S : ByteArray) (a b : Int) {d : D} {u : Value} (h : DV w F d u) : DVs w F (tD k n x y S a b d) [.int .i64 k, .int .i64 n, .complex .f64 x y, .string S, .int .i64 a, .int .i64 b, u] :=
 ⟨_, _, rfl, DV.v.2 rfl, _, _, rfl, DV.v.2 rfl, _, _, rfl, DV.v.2 rfl, _, _, rfl, DV.v.2 rfl, _, _, rfl, DV.v.2 rfl, _, _, rfl, DV.v.2 rfl, _, _, rfl, h, rfl⟩
theorem tD_one (k n : Int) (x y : Nat) (S : ByteArray) (a b : Int) {d : D} (h : d.One) : ∀ d' ∈ tD k n x y S a b d, d'.One := by
 intro d' hd
 simp only [List.mem_cons, List.not_mem_nil, or_false] at hd
 rcases hd with rfl | rfl | rfl | rfl | rfl | rfl | rfl <;> first | exact h | rfl
theorem rOne_ok {m : Nat} {s : ByteArray} {p k q : Nat} (h : rCnt s p = .ok k q) (h1 : 1 ≤ k ∧ k ≤ m) : rOne m s p = .ok k q := by
 unfold rOne
 rw [rFit_of, h]
 simp only [Rs.bind, decide_eq_true h1, if_true]
theorem rOne_no {m : Nat} {s : ByteArray} {p k q : Nat} (h : rCnt s p = .ok k q) (h1 : ¬ (1 ≤ k ∧ k ≤ m)) : rOne m s p = .bad p := by
 unfold rOne
 rw [rFit_of, h]
 simp only [Rs.bind, decide_eq_false h1]
 rfl
theorem rOne_bad {m : Nat} {s : ByteArray} {p t : Nat} (h : rCnt s p = .bad t) : rOne m s p = .bad t := by
 unfold rOne
 rw [rFit_of, h]
 rfl
def DTermOk (s : ByteArray) (d : Nat) : Prop := ∀ (b p v : Nat) (w : World), v + d = 64 → Rdc w b s p (-1) → p ≤ s.size → s.size ≤ 262144 →
 Calls Tryz.prog 53 #[.pointer (some ⟨b, 0, none⟩), .int .i64 v] w fun e w' => DS b s 7 T.ds (rTerm s d p) w e w'
abbrev DT := DSt 52 ZT
def DTLp (s : ByteArray) (b m : Nat) (w : World) (kd n : Nat) (one : Nat → Rs T) (R : Rs (List T)) (iv : Value) (wr : World) : Prop :=
 ∃ (cs : List (Ck 7)) (lv : Value) (p : Nat) (bad : Int), iv = .int .i64 cs.length ∧ cs.length ≤ n ∧ Fr2 wr m 52 ZT #[.int .i64 kd, .int .i64 0, .complex .f64 0 0, .string ⟨#[]⟩, .int .i64 0, .int .i64 0, lv] ∧ Rdc wr b s p bad ∧ Only [b] w wr ∧ OwnC KTm wr (m + 2) lv cs ∧
  ((bad = -1 ∧ p ≤ s.size ∧ ∃ xs : List T, xs.length = cs.length ∧ cs.flatMap (fun c => c.1) = xs.flatMap T.ds ∧ (rMany one (n - cs.length) p).map (fun l => xs ++ l) = R) ∨ ∃ t : Nat, bad = (t : Int) ∧ R = .bad t)
theorem dterm_go (s : ByteArray) (d0 : Nat) (ih : ∀ d, d0 = d + 1 → DTermOk s d) : DTermOk s d0 := by
 intro b p v w hv hb hp hs
 have hbl := Bk.lt hb
 have KS0 : Hid (DT s b w.heap.size w ((w.alloc (.cells ZT 52)).alloc (.cells ZT 52)) p (-1) (tD 0 0 0 0 ⟨#[]⟩ 0 0 noD) ZT) := Lib.hid (DSt.made hb (tD_dvs _ _ _ _ _ _ _ (DV.v.2 rfl)))
 obtain ⟨R, hR⟩ : ∃ R, rTerm s d0 p = R := ⟨_, rfl⟩
 rw [hR]
 obtain ⟨b0, b1, b2⟩ := Rdc.three KS0.out.rd
 have HK := Lib.hid (dcount_any b s p _ KS0.out.rd hp hs)
 cases h1 : rCnt s p with
 | bad t =>
  have hre : R = .bad t := by
   rw [← hR]
   cases d0 with
   | zero => rw [rCnt_bad h1]; rfl
   | succ d => simp only [rTerm, rOne_bad h1, Rs.bind]
  have HRE := Lib.hid hre
  rw [h1] at HK
  clear hR hre h1 ih
  go_enter Tryz.func53, Tryz.ntmps53
  go_wp2_with fail
  clear b0 b1 b2
  (with_reducible refine HK.out.mono ?_)
  rintro e w1 ⟨rfl, ⟨p2, g3⟩, g4⟩
  have KC := Lib.hid (KS0.out.call g4 g3 hbl)
  have KN := Lib.hid (KC.out.put (l' := tD 0 0 0 0 ⟨#[]⟩ 0 0 noD) (us' := #[.int .i64 0, .int .i64 0, .complex .f64 0 0, .string ⟨#[]⟩, .int .i64 0, .int .i64 0, .slice none 0 0]) rfl hbl 0 (.int .i64 0) rfl (tD_dvs _ _ _ _ _ _ _ (DV.v.2 rfl)))
  obtain ⟨x0, x1, x2, x3, x4, x5, x6⟩ := Bk.seven KC.out.fr.t
  obtain ⟨c0, c1, c2⟩ := Rdc.three KC.out.rd
  have k0 := KC.out.fr.t.free 0
  have k1 := KC.out.fr.t.free 1
  have k2 := KC.out.fr.t.free 2
  have k3 := KC.out.fr.t.free 3
  have k4 := KC.out.fr.t.free 4
  have k5 := KC.out.fr.t.free 5
  have k6 := KC.out.fr.t.free 6
  clear g3 g4 HK KS0
  have hone : (#[.int .i64 0, .int .i64 0, .complex .f64 0 0, .string ⟨#[]⟩, .int .i64 0, .int .i64 0, .slice none 0 0] : Array Value).all (·.oneCell') = true := by simp [Value.oneCell']
  have HE := Lib.hid (fun W' => DSt.fin (w' := W') KN.out rfl hbl)
  go_wp2_with (first
   | (refine wpList_load_row (by rfl) 52 _ (by rfl) (w.heap.size + 1) (by rfl) 52 #[.int .i64 0, .int .i64 0, .complex .f64 0 0, .string ⟨#[]⟩, .int .i64 0, .int .i64 0, .slice none 0 0] (0, 0) _ KN.out.fr.t Tryz.underlying52 (by rfl) (by rw [size7]; rfl) ?_)
   | (refine wpList_store_row (by rfl) _ _ _ (by rfl) w.heap.size #[.int .i64 0, .int .i64 0, .complex .f64 0 0, .string ⟨#[]⟩, .int .i64 0, .int .i64 0, .slice none 0 0] (by rfl) (by rfl) 52 ZT KN.out.fr.o (by rw [size7]; rfl) (by rfl) hone ?_; have HE2 := HE.out _ rfl; generalize World.setRow _ _ _ = W5 at HE2 ⊢; clear HE; obtain ⟨e1, e2⟩ := HE2; have E2 := Lib.hid e2; obtain ⟨z0, z1, z2, z3, z4, z5, z6⟩ := Bk.seven e1; clear e1 e2))
  refine bodyPost_ret (v := .agg #[.int .i64 0, .int .i64 0, .complex .f64 0 0, .string ⟨#[]⟩, .int .i64 0, .int .i64 0, .slice none 0 0]) (by simp [results, Tryz.results53, go_sem, z0, z1, z2, z3, z4, z5, z6]) rfl ?_
  rw [HRE.out]
  exact ⟨#[.int .i64 0, .int .i64 0, .complex .f64 0 0, .string ⟨#[]⟩, .int .i64 0, .int .i64 0, .slice none 0 0], _, _, _, rfl, rfl, rfl, tD_one _ _ _ _ _ _ _ (show D.One noD from rfl), E2.out.1, E2.out.2.1, E2.out.2.2, rfl⟩
 | ok k q =>
  rw [h1] at HK
  by_cases hin : (1 ≤ k ∧ k ≤ 9) ∧ 0 < d0
  ·obtain ⟨⟨hk1, hk9⟩, hd0⟩ := hin
   obtain ⟨d, rfl⟩ : ∃ d, d0 = d + 1 := ⟨d0 - 1, by omega⟩
   have HIH := Lib.hid (ih d rfl)
   have HR : Hid (rKind (fun p => rTerm s d p) s k q = R) := Lib.hid (by rw [← hR]; simp only [rTerm, rOne_ok h1 ⟨hk1, hk9⟩, Rs.bind])
   have n1 : ¬ (k : Int) < 1 := by omega
   have n9 : ¬ (9 : Int) < (k : Int) := by omega
   have n64 : ¬ (64 : Int) ≤ (v : Int) := by omega
   clear hR h1 ih
   go_enter Tryz.func53, Tryz.ntmps53
   go_wp2_with fail
   clear b0 b1 b2
   (with_reducible refine HK.out.mono ?_)
   rintro e w1 ⟨rfl, g3, g4, hq⟩
   have KC := Lib.hid (KS0.out.call g4 g3 hbl)
   have KA := Lib.hid (KC.out.put (l' := tD (k : Int) 0 0 0 ⟨#[]⟩ 0 0 noD) (us' := #[.int .i64 (k : Int), .int .i64 0, .complex .f64 0 0, .string ⟨#[]⟩, .int .i64 0, .int .i64 0, .slice none 0 0]) rfl hbl 0 (.int .i64 k) rfl (tD_dvs _ _ _ _ _ _ _ (DV.v.2 rfl)))
   obtain ⟨x0, x1, x2, x3, x4, x5, x6⟩ := Bk.seven KC.out.fr.t
   obtain ⟨c0, c1, c2⟩ := Rdc.three KC.out.rd
   have k0 := KC.out.fr.t.free 0
   have k1 := KC.out.fr.t.free 1
   have k2 := KC.out.fr.t.free 2
   have k3 := KC.out.fr.t.free 3
   have k4 := KC.out.fr.t.free 4
   have k5 := KC.out.fr.t.free 5
   have k6 := KC.out.fr.t.free 6
   clear g3 g4 HK KS0
   rcases (by omega : k = 1 ∨ k = 2 ∨ k = 3 ∨ k = 4 ∨ k = 5 ∨ k = 6 ∨ k = 7 ∨ k = 8 ∨ k = 9) with rfl | rfl | rfl | rfl | rfl | rfl | rfl | rfl | rfl
   ·have KA : Hid (DT s b w.heap.size w (w1.setCell ⟨w.heap.size + 1, 0, none⟩ (.int .i64 1)) q (-1) (tD 1 0 0 0 ⟨#[]⟩ 0 0 noD) #[.int .i64 1, .int .i64 0, .complex .f64 0 0, .string ⟨#[]⟩, .int .i64 0, .int .i64 0, .slice none 0 0]) := KA
    have hre : R = .ok .nil q := by rw [← HR.out]; rfl
    have HRE := Lib.hid hre
    have KN := KA
    clear HR hre
    have hone : (#[.int .i64 1, .int .i64 0, .complex .f64 0 0, .string ⟨#[]⟩, .int .i64 0, .int .i64 0, .slice none 0 0] : Array Value).all (·.oneCell') = true := by simp [Value.oneCell']
    have HE := Lib.hid (fun W' => DSt.fin (w' := W') KN.out rfl hbl)
    go_wp2_with (first
     | (refine wpList_load_row (by rfl) 52 _ (by rfl) (w.heap.size + 1) (by rfl) 52 #[.int .i64 1, .int .i64 0, .complex .f64 0 0, .string ⟨#[]⟩, .int .i64 0, .int .i64 0, .slice none 0 0] (0, 0) _ KN.out.fr.t Tryz.underlying52 (by rfl) (by rw [size7]; rfl) ?_)
     | (refine wpList_store_row (by rfl) _ _ _ (by rfl) w.heap.size #[.int .i64 1, .int .i64 0, .complex .f64 0 0, .string ⟨#[]⟩, .int .i64 0, .int .i64 0, .slice none 0 0] (by rfl) (by rfl) 52 ZT KN.out.fr.o (by rw [size7]; rfl) (by rfl) hone ?_; have HE2 := HE.out _ rfl; generalize World.setRow _ _ _ = W5 at HE2 ⊢; clear HE; obtain ⟨e1, e2⟩ := HE2; have E2 := Lib.hid e2; obtain ⟨z0, z1, z2, z3, z4, z5, z6⟩ := Bk.seven e1; clear e1 e2))
    refine bodyPost_ret (v := .agg #[.int .i64 1, .int .i64 0, .complex .f64 0 0, .string ⟨#[]⟩, .int .i64 0, .int .i64 0, .slice none 0 0]) (by simp [results, Tryz.results53, go_sem, z0, z1, z2, z3, z4, z5, z6]) rfl ?_
    rw [HRE.out]
    exact ⟨#[.int .i64 1, .int .i64 0, .complex .f64 0 0, .string ⟨#[]⟩, .int .i64 0, .int .i64 0, .slice none 0 0], _, _, _, rfl, rfl, rfl, tD_one _ _ _ _ _ _ _ (show D.One noD from rfl), E2.out.1, E2.out.2.1, E2.out.2.2, ⟨by simp only [T.ds], rfl, rfl, hq⟩⟩
   ·have KA : Hid (DT s b w.heap.size w (w1.setCell ⟨w.heap.size + 1, 0, none⟩ (.int .i64 2)) q (-1) (tD 2 0 0 0 ⟨#[]⟩ 0 0 noD) #[.int .i64 2, .int .i64 0, .complex .f64 0 0, .string ⟨#[]⟩, .int .i64 0, .int .i64 0, .slice none 0 0]) := KA
    have HK := Lib.hid (dcount_any b s q _ KA.out.rd hq hs)
    cases hr : rCnt s q with
    | bad t =>
     have hre : R = .bad t := by rw [← HR.out]; simp [rKind, hr, Rs.map, Rs.bind]
     have HRE := Lib.hid hre
     rw [hr] at HK
     clear HR hr hre
     go_wp2_with fail
     clear x0 x1 x2 x3 x4 x5 x6 c0 c1 c2 k0 k1 k2 k3 k4 k5 k6
     (with_reducible refine HK.out.mono ?_)
     rintro e w2 ⟨rfl, ⟨p2, g3⟩, g4⟩
     have KC := Lib.hid (KA.out.call g4 g3 hbl)
     have KN := Lib.hid (KC.out.put (l' := tD 2 0 0 0 ⟨#[]⟩ 0 0 noD) (us' := #[.int .i64 2, .int .i64 0, .complex .f64 0 0, .string ⟨#[]⟩, .int .i64 0, .int .i64 0, .slice none 0 0]) rfl hbl 1 (.int .i64 0) rfl (tD_dvs _ _ _ _ _ _ _ (DV.v.2 rfl)))
     obtain ⟨x0, x1, x2, x3, x4, x5, x6⟩ := Bk.seven KC.out.fr.t
     obtain ⟨c0, c1, c2⟩ := Rdc.three KC.out.rd
     have k0 := KC.out.fr.t.free 0
     have k1 := KC.out.fr.t.free 1
     have k2 := KC.out.fr.t.free 2
     have k3 := KC.out.fr.t.free 3
     have k4 := KC.out.fr.t.free 4
     have k5 := KC.out.fr.t.free 5
     have k6 := KC.out.fr.t.free 6
     clear g3 g4 HK
     have hone : (#[.int .i64 2, .int .i64 0, .complex .f64 0 0, .string ⟨#[]⟩, .int .i64 0, .int .i64 0, .slice none 0 0] : Array Value).all (·.oneCell') = true := by simp [Value.oneCell']
     have HE := Lib.hid (fun W' => DSt.fin (w' := W') KN.out rfl hbl)
     go_wp2_with (first
      | (refine wpList_load_row (by rfl) 52 _ (by rfl) (w.heap.size + 1) (by rfl) 52 #[.int .i64 2, .int .i64 0, .complex .f64 0 0, .string ⟨#[]⟩, .int .i64 0, .int .i64 0, .slice none 0 0] (0, 0) _ KN.out.fr.t Tryz.underlying52 (by rfl) (by rw [size7]; rfl) ?_)
      | (refine wpList_store_row (by rfl) _ _ _ (by rfl) w.heap.size #[.int .i64 2, .int .i64 0, .complex .f64 0 0, .string ⟨#[]⟩, .int .i64 0, .int .i64 0, .slice none 0 0] (by rfl) (by rfl) 52 ZT KN.out.fr.o (by rw [size7]; rfl) (by rfl) hone ?_; have HE2 := HE.out _ rfl; generalize World.setRow _ _ _ = W5 at HE2 ⊢; clear HE; obtain ⟨e1, e2⟩ := HE2; have E2 := Lib.hid e2; obtain ⟨z0, z1, z2, z3, z4, z5, z6⟩ := Bk.seven e1; clear e1 e2))
     refine bodyPost_ret (v := .agg #[.int .i64 2, .int .i64 0, .complex .f64 0 0, .string ⟨#[]⟩, .int .i64 0, .int .i64 0, .slice none 0 0]) (by simp [results, Tryz.results53, go_sem, z0, z1, z2, z3, z4, z5, z6]) rfl ?_
     rw [HRE.out]
     exact ⟨#[.int .i64 2, .int .i64 0, .complex .f64 0 0, .string ⟨#[]⟩, .int .i64 0, .int .i64 0, .slice none 0 0], _, _, _, rfl, rfl, rfl, tD_one _ _ _ _ _ _ _ (show D.One noD from rfl), E2.out.1, E2.out.2.1, E2.out.2.2, rfl⟩
    | ok y t =>
     have hre : R = .ok (.bool (y : Int)) t := by rw [← HR.out]; simp [rKind, hr, Rs.map, Rs.bind]
     have HRE := Lib.hid hre
     rw [hr] at HK
     clear HR hr hre
     go_wp2_with fail
     clear x0 x1 x2 x3 x4 x5 x6 c0 c1 c2 k0 k1 k2 k3 k4 k5 k6
     (with_reducible refine HK.out.mono ?_)
     rintro e w2 ⟨rfl, g3, g4, g5⟩
     have KC := Lib.hid (KA.out.call g4 g3 hbl)
     have KN := Lib.hid (KC.out.put (l' := tD 2 (y : Int) 0 0 ⟨#[]⟩ 0 0 noD) (us' := #[.int .i64 2, .int .i64 (y : Int), .complex .f64 0 0, .string ⟨#[]⟩, .int .i64 0, .int .i64 0, .slice none 0 0]) rfl hbl 1 (.int .i64 y) rfl (tD_dvs _ _ _ _ _ _ _ (DV.v.2 rfl)))
     obtain ⟨x0, x1, x2, x3, x4, x5, x6⟩ := Bk.seven KC.out.fr.t
     obtain ⟨c0, c1, c2⟩ := Rdc.three KC.out.rd
     have k0 := KC.out.fr.t.free 0
     have k1 := KC.out.fr.t.free 1
     have k2 := KC.out.fr.t.free 2
     have k3 := KC.out.fr.t.free 3
     have k4 := KC.out.fr.t.free 4
     have k5 := KC.out.fr.t.free 5
     have k6 := KC.out.fr.t.free 6
     clear g3 g4 HK
     have hone : (#[.int .i64 2, .int .i64 y, .complex .f64 0 0, .string ⟨#[]⟩, .int .i64 0, .int .i64 0, .slice none 0 0] : Array Value).all (·.oneCell') = true := by simp [Value.oneCell']
     have HE := Lib.hid (fun W' => DSt.fin (w' := W') KN.out rfl hbl)
     go_wp2_with (first
      | (refine wpList_load_row (by rfl) 52 _ (by rfl) (w.heap.size + 1) (by rfl) 52 #[.int .i64 2, .int .i64 y, .complex .f64 0 0, .string ⟨#[]⟩, .int .i64 0, .int .i64 0, .slice none 0 0] (0, 0) _ KN.out.fr.t Tryz.underlying52 (by rfl) (by rw [size7]; rfl) ?_)
      | (refine wpList_store_row (by rfl) _ _ _ (by rfl) w.heap.size #[.int .i64 2, .int .i64 y, .complex .f64 0 0, .string ⟨#[]⟩, .int .i64 0, .int .i64 0, .slice none 0 0] (by rfl) (by rfl) 52 ZT KN.out.fr.o (by rw [size7]; rfl) (by rfl) hone ?_; have HE2 := HE.out _ rfl; generalize World.setRow _ _ _ = W5 at HE2 ⊢; clear HE; obtain ⟨e1, e2⟩ := HE2; have E2 := Lib.hid e2; obtain ⟨z0, z1, z2, z3, z4, z5, z6⟩ := Bk.seven e1; clear e1 e2))
     refine bodyPost_ret (v := .agg #[.int .i64 2, .int .i64 y, .complex .f64 0 0, .string ⟨#[]⟩, .int .i64 0, .int .i64 0, .slice none 0 0]) (by simp [results, Tryz.results53, go_sem, z0, z1, z2, z3, z4, z5, z6]) rfl ?_
     rw [HRE.out]
     exact ⟨#[.int .i64 2, .int .i64 y, .complex .f64 0 0, .string ⟨#[]⟩, .int .i64 0, .int .i64 0, .slice none 0 0], _, _, _, rfl, rfl, rfl, tD_one _ _ _ _ _ _ _ (show D.One noD from rfl), E2.out.1, E2.out.2.1, E2.out.2.2, ⟨by simp only [T.ds], rfl, rfl, g5⟩⟩
   ·have KA : Hid (DT s b w.heap.size w (w1.setCell ⟨w.heap.size + 1, 0, none⟩ (.int .i64 3)) q (-1) (tD 3 0 0 0 ⟨#[]⟩ 0 0 noD) #[.int .i64 3, .int .i64 0, .complex .f64 0 0, .string ⟨#[]⟩, .int .i64 0, .int .i64 0, .slice none 0 0]) := KA
    have HK := Lib.hid (dnum_any b s q _ KA.out.rd hq hs)
    cases hr : rNum s q with
    | bad t =>
     have hre : R = .bad t := by rw [← HR.out]; simp [rKind, hr, Rs.map, Rs.bind]
     have HRE := Lib.hid hre
     rw [hr] at HK
     clear HR hr hre
     go_wp2_with fail
     clear x0 x1 x2 x3 x4 x5 x6 c0 c1 c2 k0 k1 k2 k3 k4 k5 k6
     (with_reducible refine HK.out.mono ?_)
     rintro e w2 ⟨rfl, ⟨p2, g3⟩, g4⟩
     have KC := Lib.hid (KA.out.call g4 g3 hbl)
     have KN := Lib.hid (KC.out.put (l' := tD 3 0 0 0 ⟨#[]⟩ 0 0 noD) (us' := #[.int .i64 3, .int .i64 0, .complex .f64 0 0, .string ⟨#[]⟩, .int .i64 0, .int .i64 0, .slice none 0 0]) rfl hbl 1 (.int .i64 0) rfl (tD_dvs _ _ _ _ _ _ _ (DV.v.2 rfl)))
     obtain ⟨x0, x1, x2, x3, x4, x5, x6⟩ := Bk.seven KC.out.fr.t
     obtain ⟨c0, c1, c2⟩ := Rdc.three KC.out.rd
     have k0 := KC.out.fr.t.free 0
     have k1 := KC.out.fr.t.free 1
     have k2 := KC.out.fr.t.free 2
     have k3 := KC.out.fr.t.free 3
     have k4 := KC.out.fr.t.free 4
     have k5 := KC.out.fr.t.free 5
     have k6 := KC.out.fr.t.free 6
     clear g3 g4 HK
     have hone : (#[.int .i64 3, .int .i64 0, .complex .f64 0 0, .string ⟨#[]⟩, .int .i64 0, .int .i64 0, .slice none 0 0] : Array Value).all (·.oneCell') = true := by simp [Value.oneCell']
     have HE := Lib.hid (fun W' => DSt.fin (w' := W') KN.out rfl hbl)
     go_wp2_with (first
      | (refine wpList_load_row (by rfl) 52 _ (by rfl) (w.heap.size + 1) (by rfl) 52 #[.int .i64 3, .int .i64 0, .complex .f64 0 0, .string ⟨#[]⟩, .int .i64 0, .int .i64 0, .slice none 0 0] (0, 0) _ KN.out.fr.t Tryz.underlying52 (by rfl) (by rw [size7]; rfl) ?_)
      | (refine wpList_store_row (by rfl) _ _ _ (by rfl) w.heap.size #[.int .i64 3, .int .i64 0, .complex .f64 0 0, .string ⟨#[]⟩, .int .i64 0, .int .i64 0, .slice none 0 0] (by rfl) (by rfl) 52 ZT KN.out.fr.o (by rw [size7]; rfl) (by rfl) hone ?_; have HE2 := HE.out _ rfl; generalize World.setRow _ _ _ = W5 at HE2 ⊢; clear HE; obtain ⟨e1, e2⟩ := HE2; have E2 := Lib.hid e2; obtain ⟨z0, z1, z2, z3, z4, z5, z6⟩ := Bk.seven e1; clear e1 e2))
     refine bodyPost_ret (v := .agg #[.int .i64 3, .int .i64 0, .complex .f64 0 0, .string ⟨#[]⟩, .int .i64 0, .int .i64 0, .slice none 0 0]) (by simp [results, Tryz.results53, go_sem, z0, z1, z2, z3, z4, z5, z6]) rfl ?_
     rw [HRE.out]
     exact ⟨#[.int .i64 3, .int .i64 0, .complex .f64 0 0, .string ⟨#[]⟩, .int .i64 0, .int .i64 0, .slice none 0 0], _, _, _, rfl, rfl, rfl, tD_one _ _ _ _ _ _ _ (show D.One noD from rfl), E2.out.1, E2.out.2.1, E2.out.2.2, rfl⟩
    | ok y t =>
     have hre : R = .ok (.int y) t := by rw [← HR.out]; simp [rKind, hr, Rs.map, Rs.bind]
     have HRE := Lib.hid hre
     rw [hr] at HK
     clear HR hr hre
     go_wp2_with fail
     clear x0 x1 x2 x3 x4 x5 x6 c0 c1 c2 k0 k1 k2 k3 k4 k5 k6
     (with_reducible refine HK.out.mono ?_)
     rintro e w2 ⟨rfl, g3, g4, g5⟩
     have KC := Lib.hid (KA.out.call g4 g3 hbl)
     have KN := Lib.hid (KC.out.put (l' := tD 3 y 0 0 ⟨#[]⟩ 0 0 noD) (us' := #[.int .i64 3, .int .i64 y, .complex .f64 0 0, .string ⟨#[]⟩, .int .i64 0, .int .i64 0, .slice none 0 0]) rfl hbl 1 (.int .i64 y) rfl (tD_dvs _ _ _ _ _ _ _ (DV.v.2 rfl)))
     obtain ⟨x0, x1, x2, x3, x4, x5, x6⟩ := Bk.seven KC.out.fr.t
     obtain ⟨c0, c1, c2⟩ := Rdc.three KC.out.rd
     have k0 := KC.out.fr.t.free 0
     have k1 := KC.out.fr.t.free 1
     have k2 := KC.out.fr.t.free 2
     have k3 := KC.out.fr.t.free 3
     have k4 := KC.out.fr.t.free 4
     have k5 := KC.out.fr.t.free 5
     have k6 := KC.out.fr.t.free 6
     clear g3 g4 HK
     have hone : (#[.int .i64 3, .int .i64 y, .complex .f64 0 0, .string ⟨#[]⟩, .int .i64 0, .int .i64 0, .slice none 0 0] : Array Value).all (·.oneCell') = true := by simp [Value.oneCell']
     have HE := Lib.hid (fun W' => DSt.fin (w' := W') KN.out rfl hbl)
     go_wp2_with (first
      | (refine wpList_load_row (by rfl) 52 _ (by rfl) (w.heap.size + 1) (by rfl) 52 #[.int .i64 3, .int .i64 y, .complex .f64 0 0, .string ⟨#[]⟩, .int .i64 0, .int .i64 0, .slice none 0 0] (0, 0) _ KN.out.fr.t Tryz.underlying52 (by rfl) (by rw [size7]; rfl) ?_)
      | (refine wpList_store_row (by rfl) _ _ _ (by rfl) w.heap.size #[.int .i64 3, .int .i64 y, .complex .f64 0 0, .string ⟨#[]⟩, .int .i64 0, .int .i64 0, .slice none 0 0] (by rfl) (by rfl) 52 ZT KN.out.fr.o (by rw [size7]; rfl) (by rfl) hone ?_; have HE2 := HE.out _ rfl; generalize World.setRow _ _ _ = W5 at HE2 ⊢; clear HE; obtain ⟨e1, e2⟩ := HE2; have E2 := Lib.hid e2; obtain ⟨z0, z1, z2, z3, z4, z5, z6⟩ := Bk.seven e1; clear e1 e2))
     refine bodyPost_ret (v := .agg #[.int .i64 3, .int .i64 y, .complex .f64 0 0, .string ⟨#[]⟩, .int .i64 0, .int .i64 0, .slice none 0 0]) (by simp [results, Tryz.results53, go_sem, z0, z1, z2, z3, z4, z5, z6]) rfl ?_
     rw [HRE.out]
     exact ⟨#[.int .i64 3, .int .i64 y, .complex .f64 0 0, .string ⟨#[]⟩, .int .i64 0, .int .i64 0, .slice none 0 0], _, _, _, rfl, rfl, rfl, tD_one _ _ _ _ _ _ _ (show D.One noD from rfl), E2.out.1, E2.out.2.1, E2.out.2.2, ⟨by simp only [T.ds], rfl, rfl, g5⟩⟩
   ·have KA : Hid (DT s b w.heap.size w (w1.setCell ⟨w.heap.size + 1, 0, none⟩ (.int .i64 4)) q (-1) (tD 4 0 0 0 ⟨#[]⟩ 0 0 noD) #[.int .i64 4, .int .i64 0, .complex .f64 0 0, .string ⟨#[]⟩, .int .i64 0, .int .i64 0, .slice none 0 0]) := KA
    have HK := Lib.hid (dpart_any b s q _ KA.out.rd hq hs)
    cases hr : rPart s q with
    | bad t =>
     have hre : R = .bad t := by rw [← HR.out]; simp [rKind, rParts, hr, Rs.map, Rs.bind]
     have HRE := Lib.hid hre
     rw [hr] at HK
     clear HR hr hre
     go_wp2_with fail
     clear x0 x1 x2 x3 x4 x5 x6 c0 c1 c2 k0 k1 k2 k3 k4 k5 k6
     (with_reducible refine HK.out.mono ?_)
     rintro e w2 ⟨rfl, ⟨p2, g3⟩, g4⟩
     have KC := Lib.hid (KA.out.call g4 g3 hbl)
     obtain ⟨x0, x1, x2, x3, x4, x5, x6⟩ := Bk.seven KC.out.fr.t
     obtain ⟨c0, c1, c2⟩ := Rdc.three KC.out.rd
     have k0 := KC.out.fr.t.free 0
     have k1 := KC.out.fr.t.free 1
     have k2 := KC.out.fr.t.free 2
     have k3 := KC.out.fr.t.free 3
     have k4 := KC.out.fr.t.free 4
     have k5 := KC.out.fr.t.free 5
     have k6 := KC.out.fr.t.free 6
     have HK2 := Lib.hid (dpart_bad b s p2 t _ KC.out.rd)
     clear g3 g4 HK
     go_wp2_with fail
     (with_reducible refine HK2.out.mono ?_)
     rintro e w3 ⟨rfl, rfl⟩
     have KN := Lib.hid (KC.out.put (l' := tD 4 0 (floatOfInt .f64 0) (floatOfInt .f64 0) ⟨#[]⟩ 0 0 noD) (us' := #[.int .i64 4, .int .i64 0, .complex .f64 (floatOfInt .f64 0) (floatOfInt .f64 0), .string ⟨#[]⟩, .int .i64 0, .int .i64 0, .slice none 0 0]) rfl hbl 2 (.complex .f64 (floatOfInt .f64 0) (floatOfInt .f64 0)) rfl (tD_dvs _ _ _ _ _ _ _ (DV.v.2 rfl)))
     have hst := fun x y => store_cx (x := x) (y := y) x2 k2
     clear HK2
     have hone : (#[.int .i64 4, .int .i64 0, .complex .f64 (floatOfInt .f64 0) (floatOfInt .f64 0), .string ⟨#[]⟩, .int .i64 0, .int .i64 0, .slice none 0 0] : Array Value).all (·.oneCell') = true := by simp [Value.oneCell']
     have HE := Lib.hid (fun W' => DSt.fin (w' := W') KN.out rfl hbl)
     go_wp2_with (first
      | (refine wpList_load_row (by rfl) 52 _ (by rfl) (w.heap.size + 1) (by rfl) 52 #[.int .i64 4, .int .i64 0, .complex .f64 (floatOfInt .f64 0) (floatOfInt .f64 0), .string ⟨#[]⟩, .int .i64 0, .int .i64 0, .slice none 0 0] (0, 0) _ KN.out.fr.t Tryz.underlying52 (by rfl) (by rw [size7]; rfl) ?_)
      | (refine wpList_store_row (by rfl) _ _ _ (by rfl) w.heap.size #[.int .i64 4, .int .i64 0, .complex .f64 (floatOfInt .f64 0) (floatOfInt .f64 0), .string ⟨#[]⟩, .int .i64 0, .int .i64 0, .slice none 0 0] (by rfl) (by rfl) 52 ZT KN.out.fr.o (by rw [size7]; rfl) (by rfl) hone ?_; have HE2 := HE.out _ rfl; generalize World.setRow _ _ _ = W5 at HE2 ⊢; clear HE; obtain ⟨e1, e2⟩ := HE2; have E2 := Lib.hid e2; obtain ⟨z0, z1, z2, z3, z4, z5, z6⟩ := Bk.seven e1; clear e1 e2))
     refine bodyPost_ret (v := .agg #[.int .i64 4, .int .i64 0, .complex .f64 (floatOfInt .f64 0) (floatOfInt .f64 0), .string ⟨#[]⟩, .int .i64 0, .int .i64 0, .slice none 0 0]) (by simp [results, Tryz.results53, go_sem, z0, z1, z2, z3, z4, z5, z6]) rfl ?_
     rw [HRE.out]
     exact ⟨#[.int .i64 4, .int .i64 0, .complex .f64 (floatOfInt .f64 0) (floatOfInt .f64 0), .string ⟨#[]⟩, .int .i64 0, .int .i64 0, .slice none 0 0], _, _, _, rfl, rfl, rfl, tD_one _ _ _ _ _ _ _ (show D.One noD from rfl), E2.out.1, E2.out.2.1, E2.out.2.2, rfl⟩
    | ok y t =>
     rw [hr] at HK
     have HK2 := Lib.hid (fun W h1 => dpart_any b s t W h1)
     cases hr2 : rPart s t with
     | bad t2 =>
      have hre : R = .bad t2 := by rw [← HR.out]; simp [rKind, rParts, hr, hr2, Rs.map, Rs.bind]
      have HRE := Lib.hid hre
      rw [hr2] at HK2
      clear HR hr hr2 hre
      go_wp2_with fail
      clear x0 x1 x2 x3 x4 x5 x6 c0 c1 c2 k0 k1 k2 k3 k4 k5 k6
      (with_reducible refine HK.out.mono ?_)
      rintro e w2 ⟨rfl, g3, g4, g5⟩
      have KC := Lib.hid (KA.out.call g4 g3 hbl)
      clear g3 g4 HK
      go_wp2_with fail
      (with_reducible refine (HK2.out _ KC.out.rd g5 hs).mono ?_)
      rintro e w3 ⟨rfl, ⟨p2, g3⟩, g4⟩
      have KF := Lib.hid (KC.out.call g4 g3 hbl)
      have KN := Lib.hid (KF.out.put (l' := tD 4 0 (floatOfInt .f64 y) (floatOfInt .f64 0) ⟨#[]⟩ 0 0 noD) (us' := #[.int .i64 4, .int .i64 0, .complex .f64 (floatOfInt .f64 y) (floatOfInt .f64 0), .string ⟨#[]⟩, .int .i64 0, .int .i64 0, .slice none 0 0]) rfl hbl 2 (.complex .f64 (floatOfInt .f64 y) (floatOfInt .f64 0)) rfl (tD_dvs _ _ _ _ _ _ _ (DV.v.2 rfl)))
      obtain ⟨x0, x1, x2, x3, x4, x5, x6⟩ := Bk.seven KF.out.fr.t
      obtain ⟨c0, c1, c2⟩ := Rdc.three KF.out.rd
      have k0 := KF.out.fr.t.free 0
      have k1 := KF.out.fr.t.free 1
      have k2 := KF.out.fr.t.free 2
      have k3 := KF.out.fr.t.free 3
      have k4 := KF.out.fr.t.free 4
      have k5 := KF.out.fr.t.free 5
      have k6 := KF.out.fr.t.free 6
      have hst := fun x y => store_cx (x := x) (y := y) x2 k2
      clear g3 g4 HK2
      have hone : (#[.int .i64 4, .int .i64 0, .complex .f64 (floatOfInt .f64 y) (floatOfInt .f64 0), .string ⟨#[]⟩, .int .i64 0, .int .i64 0, .slice none 0 0] : Array Value).all (·.oneCell') = true := by simp [Value.oneCell']
      have HE := Lib.hid (fun W' => DSt.fin (w' := W') KN.out rfl hbl)
      go_wp2_with (first
       | (refine wpList_load_row (by rfl) 52 _ (by rfl) (w.heap.size + 1) (by rfl) 52 #[.int .i64 4, .int .i64 0, .complex .f64 (floatOfInt .f64 y) (floatOfInt .f64 0), .string ⟨#[]⟩, .int .i64 0, .int .i64 0, .slice none 0 0] (0, 0) _ KN.out.fr.t Tryz.underlying52 (by rfl) (by rw [size7]; rfl) ?_)
       | (refine wpList_store_row (by rfl) _ _ _ (by rfl) w.heap.size #[.int .i64 4, .int .i64 0, .complex .f64 (floatOfInt .f64 y) (floatOfInt .f64 0), .string ⟨#[]⟩, .int .i64 0, .int .i64 0, .slice none 0 0] (by rfl) (by rfl) 52 ZT KN.out.fr.o (by rw [size7]; rfl) (by rfl) hone ?_; have HE2 := HE.out _ rfl; generalize World.setRow _ _ _ = W5 at HE2 ⊢; clear HE; obtain ⟨e1, e2⟩ := HE2; have E2 := Lib.hid e2; obtain ⟨z0, z1, z2, z3, z4, z5, z6⟩ := Bk.seven e1; clear e1 e2))
      refine bodyPost_ret (v := .agg #[.int .i64 4, .int .i64 0, .complex .f64 (floatOfInt .f64 y) (floatOfInt .f64 0), .string ⟨#[]⟩, .int .i64 0, .int .i64 0, .slice none 0 0]) (by simp [results, Tryz.results53, go_sem, z0, z1, z2, z3, z4, z5, z6]) rfl ?_
      rw [HRE.out]
      exact ⟨#[.int .i64 4, .int .i64 0, .complex .f64 (floatOfInt .f64 y) (floatOfInt .f64 0), .string ⟨#[]⟩, .int .i64 0, .int .i64 0, .slice none 0 0], _, _, _, rfl, rfl, rfl, tD_one _ _ _ _ _ _ _ (show D.One noD from rfl), E2.out.1, E2.out.2.1, E2.out.2.2, rfl⟩
     | ok y2 t2 =>
      have hre : R = .ok (.com y y2) t2 := by rw [← HR.out]; simp [rKind, rParts, hr, hr2, Rs.map, Rs.bind]
      have HRE := Lib.hid hre
      rw [hr2] at HK2
      clear HR hr hr2 hre
      go_wp2_with fail
      clear x0 x1 x2 x3 x4 x5 x6 c0 c1 c2 k0 k1 k2 k3 k4 k5 k6
      (with_reducible refine HK.out.mono ?_)
      rintro e w2 ⟨rfl, g3, g4, g5⟩
      have KC := Lib.hid (KA.out.call g4 g3 hbl)
      clear g3 g4 HK
      go_wp2_with fail
      (with_reducible refine (HK2.out _ KC.out.rd g5 hs).mono ?_)
      rintro e w3 ⟨rfl, g3, g4, g6⟩
      have KF := Lib.hid (KC.out.call g4 g3 hbl)
      have KN := Lib.hid (KF.out.put (l' := tD 4 0 (floatOfInt .f64 y) (floatOfInt .f64 y2) ⟨#[]⟩ 0 0 noD) (us' := #[.int .i64 4, .int .i64 0, .complex .f64 (floatOfInt .f64 y) (floatOfInt .f64 y2), .string ⟨#[]⟩, .int .i64 0, .int .i64 0, .slice none 0 0]) rfl hbl 2 (.complex .f64 (floatOfInt .f64 y) (floatOfInt .f64 y2)) rfl (tD_dvs _ _ _ _ _ _ _ (DV.v.2 rfl)))
      obtain ⟨x0, x1, x2, x3, x4, x5, x6⟩ := Bk.seven KF.out.fr.t
      obtain ⟨c0, c1, c2⟩ := Rdc.three KF.out.rd
      have k0 := KF.out.fr.t.free 0
      have k1 := KF.out.fr.t.free 1
      have k2 := KF.out.fr.t.free 2
      have k3 := KF.out.fr.t.free 3
      have k4 := KF.out.fr.t.free 4
      have k5 := KF.out.fr.t.free 5
      have k6 := KF.out.fr.t.free 6
      have hst := fun x y => store_cx (x := x) (y := y) x2 k2
      clear g3 g4 HK2
      have hone : (#[.int .i64 4, .int .i64 0, .complex .f64 (floatOfInt .f64 y) (floatOfInt .f64 y2), .string ⟨#[]⟩, .int .i64 0, .int .i64 0, .slice none 0 0] : Array Value).all (·.oneCell') = true := by simp [Value.oneCell']
      have HE := Lib.hid (fun W' => DSt.fin (w' := W') KN.out rfl hbl)
      go_wp2_with (first
       | (refine wpList_load_row (by rfl) 52 _ (by rfl) (w.heap.size + 1) (by rfl) 52 #[.int .i64 4, .int .i64 0, .complex .f64 (floatOfInt .f64 y) (floatOfInt .f64 y2), .string ⟨#[]⟩, .int .i64 0, .int .i64 0, .slice none 0 0] (0, 0) _ KN.out.fr.t Tryz.underlying52 (by rfl) (by rw [size7]; rfl) ?_)
       | (refine wpList_store_row (by rfl) _ _ _ (by rfl) w.heap.size #[.int .i64 4, .int .i64 0, .complex .f64 (floatOfInt .f64 y) (floatOfInt .f64 y2), .string ⟨#[]⟩, .int .i64 0, .int .i64 0, .slice none 0 0] (by rfl) (by rfl) 52 ZT KN.out.fr.o (by rw [size7]; rfl) (by rfl) hone ?_; have HE2 := HE.out _ rfl; generalize World.setRow _ _ _ = W5 at HE2 ⊢; clear HE; obtain ⟨e1, e2⟩ := HE2; have E2 := Lib.hid e2; obtain ⟨z0, z1, z2, z3, z4, z5, z6⟩ := Bk.seven e1; clear e1 e2))
      refine bodyPost_ret (v := .agg #[.int .i64 4, .int .i64 0, .complex .f64 (floatOfInt .f64 y) (floatOfInt .f64 y2), .string ⟨#[]⟩, .int .i64 0, .int .i64 0, .slice none 0 0]) (by simp [results, Tryz.results53, go_sem, z0, z1, z2, z3, z4, z5, z6]) rfl ?_
      rw [HRE.out]
      exact ⟨#[.int .i64 4, .int .i64 0, .complex .f64 (floatOfInt .f64 y) (floatOfInt .f64 y2), .string ⟨#[]⟩, .int .i64 0, .int .i64 0, .slice none 0 0], _, _, _, rfl, rfl, rfl, tD_one _ _ _ _ _ _ _ (show D.One noD from rfl), E2.out.1, E2.out.2.1, E2.out.2.2, ⟨by simp only [T.ds], rfl, rfl, g6⟩⟩
   ·have KA : Hid (DT s b w.heap.size w (w1.setCell ⟨w.heap.size + 1, 0, none⟩ (.int .i64 5)) q (-1) (tD 5 0 0 0 ⟨#[]⟩ 0 0 noD) #[.int .i64 5, .int .i64 0, .complex .f64 0 0, .string ⟨#[]⟩, .int .i64 0, .int .i64 0, .slice none 0 0]) := KA
    have HK := Lib.hid (dname_any b s q _ KA.out.rd hq hs)
    cases hr : rName s q with
    | bad t =>
     have hre : R = .bad t := by rw [← HR.out]; simp [rKind, hr, Rs.map, Rs.bind]
     have HRE := Lib.hid hre
     rw [hr] at HK
     clear HR hr hre
     go_wp2_with fail
     clear x0 x1 x2 x3 x4 x5 x6 c0 c1 c2 k0 k1 k2 k3 k4 k5 k6
     (with_reducible refine HK.out.mono ?_)
     rintro e w2 ⟨rfl, ⟨p2, g3⟩, g4⟩
     have KC := Lib.hid (KA.out.call g4 g3 hbl)
     have KN := Lib.hid (KC.out.put (l' := tD 5 0 0 0 ⟨#[]⟩ 0 0 noD) (us' := #[.int .i64 5, .int .i64 0, .complex .f64 0 0, .string ⟨#[]⟩, .int .i64 0, .int .i64 0, .slice none 0 0]) rfl hbl 3 (.string ⟨#[]⟩) rfl (tD_dvs _ _ _ _ _ _ _ (DV.v.2 rfl)))
     obtain ⟨x0, x1, x2, x3, x4, x5, x6⟩ := Bk.seven KC.out.fr.t
     obtain ⟨c0, c1, c2⟩ := Rdc.three KC.out.rd
     have k0 := KC.out.fr.t.free 0
     have k1 := KC.out.fr.t.free 1
     have k2 := KC.out.fr.t.free 2
     have k3 := KC.out.fr.t.free 3
     have k4 := KC.out.fr.t.free 4
     have k5 := KC.out.fr.t.free 5
     have k6 := KC.out.fr.t.free 6
     clear g3 g4 HK
     have hone : (#[.int .i64 5, .int .i64 0, .complex .f64 0 0, .string ⟨#[]⟩, .int .i64 0, .int .i64 0, .slice none 0 0] : Array Value).all (·.oneCell') = true := by simp [Value.oneCell']
     have HE := Lib.hid (fun W' => DSt.fin (w' := W') KN.out rfl hbl)
     go_wp2_with (first
      | (refine wpList_load_row (by rfl) 52 _ (by rfl) (w.heap.size + 1) (by rfl) 52 #[.int .i64 5, .int .i64 0, .complex .f64 0 0, .string ⟨#[]⟩, .int .i64 0, .int .i64 0, .slice none 0 0] (0, 0) _ KN.out.fr.t Tryz.underlying52 (by rfl) (by rw [size7]; rfl) ?_)
      | (refine wpList_store_row (by rfl) _ _ _ (by rfl) w.heap.size #[.int .i64 5, .int .i64 0, .complex .f64 0 0, .string ⟨#[]⟩, .int .i64 0, .int .i64 0, .slice none 0 0] (by rfl) (by rfl) 52 ZT KN.out.fr.o (by rw [size7]; rfl) (by rfl) hone ?_; have HE2 := HE.out _ rfl; generalize World.setRow _ _ _ = W5 at HE2 ⊢; clear HE; obtain ⟨e1, e2⟩ := HE2; have E2 := Lib.hid e2; obtain ⟨z0, z1, z2, z3, z4, z5, z6⟩ := Bk.seven e1; clear e1 e2))
     refine bodyPost_ret (v := .agg #[.int .i64 5, .int .i64 0, .complex .f64 0 0, .string ⟨#[]⟩, .int .i64 0, .int .i64 0, .slice none 0 0]) (by simp [results, Tryz.results53, go_sem, z0, z1, z2, z3, z4, z5, z6]) rfl ?_
     rw [HRE.out]
     exact ⟨#[.int .i64 5, .int .i64 0, .complex .f64 0 0, .string ⟨#[]⟩, .int .i64 0, .int .i64 0, .slice none 0 0], _, _, _, rfl, rfl, rfl, tD_one _ _ _ _ _ _ _ (show D.One noD from rfl), E2.out.1, E2.out.2.1, E2.out.2.2, rfl⟩
    | ok y t =>
     have hre : R = .ok (.atom y) t := by rw [← HR.out]; simp [rKind, hr, Rs.map, Rs.bind]
     have HRE := Lib.hid hre
     rw [hr] at HK
     clear HR hr hre
     go_wp2_with fail
     clear x0 x1 x2 x3 x4 x5 x6 c0 c1 c2 k0 k1 k2 k3 k4 k5 k6
     (with_reducible refine HK.out.mono ?_)
     rintro e w2 ⟨rfl, g3, g4, g5⟩
     have KC := Lib.hid (KA.out.call g4 g3 hbl)
     have KN := Lib.hid (KC.out.put (l' := tD 5 0 0 0 y 0 0 noD) (us' := #[.int .i64 5, .int .i64 0, .complex .f64 0 0, .string y, .int .i64 0, .int .i64 0, .slice none 0 0]) rfl hbl 3 (.string y) rfl (tD_dvs _ _ _ _ _ _ _ (DV.v.2 rfl)))
     obtain ⟨x0, x1, x2, x3, x4, x5, x6⟩ := Bk.seven KC.out.fr.t
     obtain ⟨c0, c1, c2⟩ := Rdc.three KC.out.rd
     have k0 := KC.out.fr.t.free 0
     have k1 := KC.out.fr.t.free 1
     have k2 := KC.out.fr.t.free 2
     have k3 := KC.out.fr.t.free 3
     have k4 := KC.out.fr.t.free 4
     have k5 := KC.out.fr.t.free 5
     have k6 := KC.out.fr.t.free 6
     clear g3 g4 HK
     have hone : (#[.int .i64 5, .int .i64 0, .complex .f64 0 0, .string y, .int .i64 0, .int .i64 0, .slice none 0 0] : Array Value).all (·.oneCell') = true := by simp [Value.oneCell']
     have HE := Lib.hid (fun W' => DSt.fin (w' := W') KN.out rfl hbl)
     go_wp2_with (first
      | (refine wpList_load_row (by rfl) 52 _ (by rfl) (w.heap.size + 1) (by rfl) 52 #[.int .i64 5, .int .i64 0, .complex .f64 0 0, .string y, .int .i64 0, .int .i64 0, .slice none 0 0] (0, 0) _ KN.out.fr.t Tryz.underlying52 (by rfl) (by rw [size7]; rfl) ?_)
      | (refine wpList_store_row (by rfl) _ _ _ (by rfl) w.heap.size #[.int .i64 5, .int .i64 0, .complex .f64 0 0, .string y, .int .i64 0, .int .i64 0, .slice none 0 0] (by rfl) (by rfl) 52 ZT KN.out.fr.o (by rw [size7]; rfl) (by rfl) hone ?_; have HE2 := HE.out _ rfl; generalize World.setRow _ _ _ = W5 at HE2 ⊢; clear HE; obtain ⟨e1, e2⟩ := HE2; have E2 := Lib.hid e2; obtain ⟨z0, z1, z2, z3, z4, z5, z6⟩ := Bk.seven e1; clear e1 e2))
     refine bodyPost_ret (v := .agg #[.int .i64 5, .int .i64 0, .complex .f64 0 0, .string y, .int .i64 0, .int .i64 0, .slice none 0 0]) (by simp [results, Tryz.results53, go_sem, z0, z1, z2, z3, z4, z5, z6]) rfl ?_
     rw [HRE.out]
     exact ⟨#[.int .i64 5, .int .i64 0, .complex .f64 0 0, .string y, .int .i64 0, .int .i64 0, .slice none 0 0], _, _, _, rfl, rfl, rfl, tD_one _ _ _ _ _ _ _ (show D.One noD from rfl), E2.out.1, E2.out.2.1, E2.out.2.2, ⟨by simp only [T.ds], rfl, rfl, g5⟩⟩
   ·have KA : Hid (DT s b w.heap.size w (w1.setCell ⟨w.heap.size + 1, 0, none⟩ (.int .i64 6)) q (-1) (tD 6 0 0 0 ⟨#[]⟩ 0 0 noD) #[.int .i64 6, .int .i64 0, .complex .f64 0 0, .string ⟨#[]⟩, .int .i64 0, .int .i64 0, .slice none 0 0]) := KA
    have HK := Lib.hid (dcount_any b s q _ KA.out.rd hq hs)
    cases hr : rCnt s q with
    | bad t =>
     have hre : R = .bad t := by rw [← HR.out]; simp [rKind, rPid, hr, Rs.map, Rs.bind]
     have HRE := Lib.hid hre
     rw [hr] at HK
     clear HR hr hre
     go_wp2_with fail
     clear x0 x1 x2 x3 x4 x5 x6 c0 c1 c2 k0 k1 k2 k3 k4 k5 k6
     (with_reducible refine HK.out.mono ?_)
     rintro e w2 ⟨rfl, ⟨p2, g3⟩, g4⟩
     have KC := Lib.hid (KA.out.call g4 g3 hbl)
     have KD := Lib.hid (KC.out.put (l' := tD 6 0 0 0 ⟨#[]⟩ 0 0 noD) (us' := #[.int .i64 6, .int .i64 0, .complex .f64 0 0, .string ⟨#[]⟩, .int .i64 0, .int .i64 0, .slice none 0 0]) rfl hbl 4 (.int .i64 0) rfl (tD_dvs _ _ _ _ _ _ _ (DV.v.2 rfl)))
     obtain ⟨x0, x1, x2, x3, x4, x5, x6⟩ := Bk.seven KC.out.fr.t
     obtain ⟨c0, c1, c2⟩ := Rdc.three KC.out.rd
     have k0 := KC.out.fr.t.free 0
     have k1 := KC.out.fr.t.free 1
     have k2 := KC.out.fr.t.free 2
     have k3 := KC.out.fr.t.free 3
     have k4 := KC.out.fr.t.free 4
     have k5 := KC.out.fr.t.free 5
     have k6 := KC.out.fr.t.free 6
     have HK2 := Lib.hid (dcount_bad b s p2 t _ KD.out.rd)
     clear g3 g4 HK
     go_wp2_with fail
     clear x0 x1 x2 x3 x4 x5 x6 c0 c1 c2 k0 k1 k2 k3 k4 k5 k6
     (with_reducible refine HK2.out.mono ?_)
     rintro e w3 ⟨rfl, rfl⟩
     have KN := Lib.hid (KD.out.put (l' := tD 6 0 0 0 ⟨#[]⟩ 0 0 noD) (us' := #[.int .i64 6, .int .i64 0, .complex .f64 0 0, .string ⟨#[]⟩, .int .i64 0, .int .i64 0, .slice none 0 0]) rfl hbl 5 (.int .i64 0) rfl (tD_dvs _ _ _ _ _ _ _ (DV.v.2 rfl)))
     obtain ⟨x0, x1, x2, x3, x4, x5, x6⟩ := Bk.seven KD.out.fr.t
     obtain ⟨c0, c1, c2⟩ := Rdc.three KD.out.rd
     have k0 := KD.out.fr.t.free 0
     have k1 := KD.out.fr.t.free 1
     have k2 := KD.out.fr.t.free 2
     have k3 := KD.out.fr.t.free 3
     have k4 := KD.out.fr.t.free 4
     have k5 := KD.out.fr.t.free 5
     have k6 := KD.out.fr.t.free 6
     clear HK2
     have hone : (#[.int .i64 6, .int .i64 0, .complex .f64 0 0, .string ⟨#[]⟩, .int .i64 0, .int .i64 0, .slice none 0 0] : Array Value).all (·.oneCell') = true := by simp [Value.oneCell']
     have HE := Lib.hid (fun W' => DSt.fin (w' := W') KN.out rfl hbl)
     go_wp2_with (first
      | (refine wpList_load_row (by rfl) 52 _ (by rfl) (w.heap.size + 1) (by rfl) 52 #[.int .i64 6, .int .i64 0, .complex .f64 0 0, .string ⟨#[]⟩, .int .i64 0, .int .i64 0, .slice none 0 0] (0, 0) _ KN.out.fr.t Tryz.underlying52 (by rfl) (by rw [size7]; rfl) ?_)
      | (refine wpList_store_row (by rfl) _ _ _ (by rfl) w.heap.size #[.int .i64 6, .int .i64 0, .complex .f64 0 0, .string ⟨#[]⟩, .int .i64 0, .int .i64 0, .slice none 0 0] (by rfl) (by rfl) 52 ZT KN.out.fr.o (by rw [size7]; rfl) (by rfl) hone ?_; have HE2 := HE.out _ rfl; generalize World.setRow _ _ _ = W5 at HE2 ⊢; clear HE; obtain ⟨e1, e2⟩ := HE2; have E2 := Lib.hid e2; obtain ⟨z0, z1, z2, z3, z4, z5, z6⟩ := Bk.seven e1; clear e1 e2))
     refine bodyPost_ret (v := .agg #[.int .i64 6, .int .i64 0, .complex .f64 0 0, .string ⟨#[]⟩, .int .i64 0, .int .i64 0, .slice none 0 0]) (by simp [results, Tryz.results53, go_sem, z0, z1, z2, z3, z4, z5, z6]) rfl ?_
     rw [HRE.out]
     exact ⟨#[.int .i64 6, .int .i64 0, .complex .f64 0 0, .string ⟨#[]⟩, .int .i64 0, .int .i64 0, .slice none 0 0], _, _, _, rfl, rfl, rfl, tD_one _ _ _ _ _ _ _ (show D.One noD from rfl), E2.out.1, E2.out.2.1, E2.out.2.2, rfl⟩
    | ok y t =>
     rw [hr] at HK
     have HK2 := Lib.hid (fun W h1 => dcount_any b s t W h1)
     cases hr2 : rCnt s t with
     | bad t2 =>
      have hre : R = .bad t2 := by rw [← HR.out]; simp [rKind, rPid, hr, hr2, Rs.map, Rs.bind]
      have HRE := Lib.hid hre
      rw [hr2] at HK2
      clear HR hr hr2 hre
      go_wp2_with fail
      clear x0 x1 x2 x3 x4 x5 x6 c0 c1 c2 k0 k1 k2 k3 k4 k5 k6
      (with_reducible refine HK.out.mono ?_)
      rintro e w2 ⟨rfl, g3, g4, g5⟩
      have KC := Lib.hid (KA.out.call g4 g3 hbl)
      have KD := Lib.hid (KC.out.put (l' := tD 6 0 0 0 ⟨#[]⟩ (y : Int) 0 noD) (us' := #[.int .i64 6, .int .i64 0, .complex .f64 0 0, .string ⟨#[]⟩, .int .i64 (y : Int), .int .i64 0, .slice none 0 0]) rfl hbl 4 (.int .i64 y) rfl (tD_dvs _ _ _ _ _ _ _ (DV.v.2 rfl)))
      obtain ⟨x0, x1, x2, x3, x4, x5, x6⟩ := Bk.seven KC.out.fr.t
      obtain ⟨c0, c1, c2⟩ := Rdc.three KC.out.rd
      have k0 := KC.out.fr.t.free 0
      have k1 := KC.out.fr.t.free 1
      have k2 := KC.out.fr.t.free 2
      have k3 := KC.out.fr.t.free 3
      have k4 := KC.out.fr.t.free 4
      have k5 := KC.out.fr.t.free 5
      have k6 := KC.out.fr.t.free 6
      clear g3 g4 HK
      go_wp2_with fail
      clear x0 x1 x2 x3 x4 x5 x6 c0 c1 c2 k0 k1 k2 k3 k4 k5 k6
      (with_reducible refine (HK2.out _ KD.out.rd g5 hs).mono ?_)
      rintro e w3 ⟨rfl, ⟨p2, g3⟩, g4⟩
      have KF := Lib.hid (KD.out.call g4 g3 hbl)
      have KN := Lib.hid (KF.out.put (l' := tD 6 0 0 0 ⟨#[]⟩ (y : Int) 0 noD) (us' := #[.int .i64 6, .int .i64 0, .complex .f64 0 0, .string ⟨#[]⟩, .int .i64 (y : Int), .int .i64 0, .slice none 0 0]) rfl hbl 5 (.int .i64 0) rfl (tD_dvs _ _ _ _ _ _ _ (DV.v.2 rfl)))
      obtain ⟨x0, x1, x2, x3, x4, x5, x6⟩ := Bk.seven KF.out.fr.t
      obtain ⟨c0, c1, c2⟩ := Rdc.three KF.out.rd
      have k0 := KF.out.fr.t.free 0
      have k1 := KF.out.fr.t.free 1
      have k2 := KF.out.fr.t.free 2
      have k3 := KF.out.fr.t.free 3
      have k4 := KF.out.fr.t.free 4
      have k5 := KF.out.fr.t.free 5
      have k6 := KF.out.fr.t.free 6
      clear g3 g4 HK2
      have hone : (#[.int .i64 6, .int .i64 0, .complex .f64 0 0, .string ⟨#[]⟩, .int .i64 y, .int .i64 0, .slice none 0 0] : Array Value).all (·.oneCell') = true := by simp [Value.oneCell']
      have HE := Lib.hid (fun W' => DSt.fin (w' := W') KN.out rfl hbl)
      go_wp2_with (first
       | (refine wpList_load_row (by rfl) 52 _ (by rfl) (w.heap.size + 1) (by rfl) 52 #[.int .i64 6, .int .i64 0, .complex .f64 0 0, .string ⟨#[]⟩, .int .i64 y, .int .i64 0, .slice none 0 0] (0, 0) _ KN.out.fr.t Tryz.underlying52 (by rfl) (by rw [size7]; rfl) ?_)
       | (refine wpList_store_row (by rfl) _ _ _ (by rfl) w.heap.size #[.int .i64 6, .int .i64 0, .complex .f64 0 0, .string ⟨#[]⟩, .int .i64 y, .int .i64 0, .slice none 0 0] (by rfl) (by rfl) 52 ZT KN.out.fr.o (by rw [size7]; rfl) (by rfl) hone ?_; have HE2 := HE.out _ rfl; generalize World.setRow _ _ _ = W5 at HE2 ⊢; clear HE; obtain ⟨e1, e2⟩ := HE2; have E2 := Lib.hid e2; obtain ⟨z0, z1, z2, z3, z4, z5, z6⟩ := Bk.seven e1; clear e1 e2))
      refine bodyPost_ret (v := .agg #[.int .i64 6, .int .i64 0, .complex .f64 0 0, .string ⟨#[]⟩, .int .i64 y, .int .i64 0, .slice none 0 0]) (by simp [results, Tryz.results53, go_sem, z0, z1, z2, z3, z4, z5, z6]) rfl ?_
      rw [HRE.out]
      exact ⟨#[.int .i64 6, .int .i64 0, .complex .f64 0 0, .string ⟨#[]⟩, .int .i64 y, .int .i64 0, .slice none 0 0], _, _, _, rfl, rfl, rfl, tD_one _ _ _ _ _ _ _ (show D.One noD from rfl), E2.out.1, E2.out.2.1, E2.out.2.2, rfl⟩
     | ok y2 t2 =>
      have hre : R = .ok (.pid (y : Int) (y2 : Int)) t2 := by rw [← HR.out]; simp [rKind, rPid, hr, hr2, Rs.map, Rs.bind]
      have HRE := Lib.hid hre
      rw [hr2] at HK2
      clear HR hr hr2 hre
      go_wp2_with fail
      clear x0 x1 x2 x3 x4 x5 x6 c0 c1 c2 k0 k1 k2 k3 k4 k5 k6
      (with_reducible refine HK.out.mono ?_)
      rintro e w2 ⟨rfl, g3, g4, g5⟩
      have KC := Lib.hid (KA.out.call g4 g3 hbl)
      have KD := Lib.hid (KC.out.put (l' := tD 6 0 0 0 ⟨#[]⟩ (y : Int) 0 noD) (us' := #[.int .i64 6, .int .i64 0, .complex .f64 0 0, .string ⟨#[]⟩, .int .i64 (y : Int), .int .i64 0, .slice none 0 0]) rfl hbl 4 (.int .i64 y) rfl (tD_dvs _ _ _ _ _ _ _ (DV.v.2 rfl)))
      obtain ⟨x0, x1, x2, x3, x4, x5, x6⟩ := Bk.seven KC.out.fr.t
      obtain ⟨c0, c1, c2⟩ := Rdc.three KC.out.rd
      have k0 := KC.out.fr.t.free 0
      have k1 := KC.out.fr.t.free 1
      have k2 := KC.out.fr.t.free 2
      have k3 := KC.out.fr.t.free 3
      have k4 := KC.out.fr.t.free 4
      have k5 := KC.out.fr.t.free 5
      have k6 := KC.out.fr.t.free 6
      clear g3 g4 HK
      go_wp2_with fail
      clear x0 x1 x2 x3 x4 x5 x6 c0 c1 c2 k0 k1 k2 k3 k4 k5 k6
      (with_reducible refine (HK2.out _ KD.out.rd g5 hs).mono ?_)
      rintro e w3 ⟨rfl, g3, g4, g6⟩
      have KF := Lib.hid (KD.out.call g4 g3 hbl)
      have KN := Lib.hid (KF.out.put (l' := tD 6 0 0 0 ⟨#[]⟩ (y : Int) (y2 : Int) noD) (us' := #[.int .i64 6, .int .i64 0, .complex .f64 0 0, .string ⟨#[]⟩, .int .i64 (y : Int), .int .i64 (y2 : Int), .slice none 0 0]) rfl hbl 5 (.int .i64 y2) rfl (tD_dvs _ _ _ _ _ _ _ (DV.v.2 rfl)))
      obtain ⟨x0, x1, x2, x3, x4, x5, x6⟩ := Bk.seven KF.out.fr.t
      obtain ⟨c0, c1, c2⟩ := Rdc.three KF.out.rd
      have k0 := KF.out.fr.t.free 0
      have k1 := KF.out.fr.t.free 1
      have k2 := KF.out.fr.t.free 2
      have k3 := KF.out.fr.t.free 3
      have k4 := KF.out.fr.t.free 4
      have k5 := KF.out.fr.t.free 5
      have k6 := KF.out.fr.t.free 6
      clear g3 g4 HK2
      have hone : (#[.int .i64 6, .int .i64 0, .complex .f64 0 0, .string ⟨#[]⟩, .int .i64 y, .int .i64 y2, .slice none 0 0] : Array Value).all (·.oneCell') = true := by simp [Value.oneCell']
      have HE := Lib.hid (fun W' => DSt.fin (w' := W') KN.out rfl hbl)
      go_wp2_with (first
       | (refine wpList_load_row (by rfl) 52 _ (by rfl) (w.heap.size + 1) (by rfl) 52 #[.int .i64 6, .int .i64 0, .complex .f64 0 0, .string ⟨#[]⟩, .int .i64 y, .int .i64 y2, .slice none 0 0] (0, 0) _ KN.out.fr.t Tryz.underlying52 (by rfl) (by rw [size7]; rfl) ?_)
       | (refine wpList_store_row (by rfl) _ _ _ (by rfl) w.heap.size #[.int .i64 6, .int .i64 0, .complex .f64 0 0, .string ⟨#[]⟩, .int .i64 y, .int .i64 y2, .slice none 0 0] (by rfl) (by rfl) 52 ZT KN.out.fr.o (by rw [size7]; rfl) (by rfl) hone ?_; have HE2 := HE.out _ rfl; generalize World.setRow _ _ _ = W5 at HE2 ⊢; clear HE; obtain ⟨e1, e2⟩ := HE2; have E2 := Lib.hid e2; obtain ⟨z0, z1, z2, z3, z4, z5, z6⟩ := Bk.seven e1; clear e1 e2))
      refine bodyPost_ret (v := .agg #[.int .i64 6, .int .i64 0, .complex .f64 0 0, .string ⟨#[]⟩, .int .i64 y, .int .i64 y2, .slice none 0 0]) (by simp [results, Tryz.results53, go_sem, z0, z1, z2, z3, z4, z5, z6]) rfl ?_
      rw [HRE.out]
      exact ⟨#[.int .i64 6, .int .i64 0, .complex .f64 0 0, .string ⟨#[]⟩, .int .i64 y, .int .i64 y2, .slice none 0 0], _, _, _, rfl, rfl, rfl, tD_one _ _ _ _ _ _ _ (show D.One noD from rfl), E2.out.1, E2.out.2.1, E2.out.2.2, ⟨by simp only [T.ds], rfl, rfl, g6⟩⟩
   ·have KA : Hid (DT s b w.heap.size w (w1.setCell ⟨w.heap.size + 1, 0, none⟩ (.int .i64 7)) q (-1) (tD 7 0 0 0 ⟨#[]⟩ 0 0 noD) #[.int .i64 7, .int .i64 0, .complex .f64 0 0, .string ⟨#[]⟩, .int .i64 0, .int .i64 0, .slice none 0 0]) := KA
    have HK := Lib.hid (dcount_any b s q _ KA.out.rd hq hs)
    cases hr : rCnt s q with
    | bad t =>
     have hre : R = .bad t := by rw [← HR.out]; simp [rKind, hr, Rs.map, Rs.bind]
     have HRE := Lib.hid hre
     rw [hr] at HK
     clear HR hr hre
     go_wp2_with fail
     clear x0 x1 x2 x3 x4 x5 x6 c0 c1 c2 k0 k1 k2 k3 k4 k5 k6
     (with_reducible refine HK.out.mono ?_)
     rintro e w2 ⟨rfl, ⟨p2, g3⟩, g4⟩
     have KC := Lib.hid (KA.out.call g4 g3 hbl)
     have KN := Lib.hid (KC.out.put (l' := tD 7 0 0 0 ⟨#[]⟩ 0 0 noD) (us' := #[.int .i64 7, .int .i64 0, .complex .f64 0 0, .string ⟨#[]⟩, .int .i64 0, .int .i64 0, .slice none 0 0]) rfl hbl 1 (.int .i64 0) rfl (tD_dvs _ _ _ _ _ _ _ (DV.v.2 rfl)))
     obtain ⟨x0, x1, x2, x3, x4, x5, x6⟩ := Bk.seven KC.out.fr.t
     obtain ⟨c0, c1, c2⟩ := Rdc.three KC.out.rd
     have k0 := KC.out.fr.t.free 0
     have k1 := KC.out.fr.t.free 1
     have k2 := KC.out.fr.t.free 2
     have k3 := KC.out.fr.t.free 3
     have k4 := KC.out.fr.t.free 4
     have k5 := KC.out.fr.t.free 5
     have k6 := KC.out.fr.t.free 6
     clear g3 g4 HK
     have hone : (#[.int .i64 7, .int .i64 0, .complex .f64 0 0, .string ⟨#[]⟩, .int .i64 0, .int .i64 0, .slice none 0 0] : Array Value).all (·.oneCell') = true := by simp [Value.oneCell']
     have HE := Lib.hid (fun W' => DSt.fin (w' := W') KN.out rfl hbl)
     go_wp2_with (first
      | (refine wpList_load_row (by rfl) 52 _ (by rfl) (w.heap.size + 1) (by rfl) 52 #[.int .i64 7, .int .i64 0, .complex .f64 0 0, .string ⟨#[]⟩, .int .i64 0, .int .i64 0, .slice none 0 0] (0, 0) _ KN.out.fr.t Tryz.underlying52 (by rfl) (by rw [size7]; rfl) ?_)
      | (refine wpList_store_row (by rfl) _ _ _ (by rfl) w.heap.size #[.int .i64 7, .int .i64 0, .complex .f64 0 0, .string ⟨#[]⟩, .int .i64 0, .int .i64 0, .slice none 0 0] (by rfl) (by rfl) 52 ZT KN.out.fr.o (by rw [size7]; rfl) (by rfl) hone ?_; have HE2 := HE.out _ rfl; generalize World.setRow _ _ _ = W5 at HE2 ⊢; clear HE; obtain ⟨e1, e2⟩ := HE2; have E2 := Lib.hid e2; obtain ⟨z0, z1, z2, z3, z4, z5, z6⟩ := Bk.seven e1; clear e1 e2))
     refine bodyPost_ret (v := .agg #[.int .i64 7, .int .i64 0, .complex .f64 0 0, .string ⟨#[]⟩, .int .i64 0, .int .i64 0, .slice none 0 0]) (by simp [results, Tryz.results53, go_sem, z0, z1, z2, z3, z4, z5, z6]) rfl ?_
     rw [HRE.out]
     exact ⟨#[.int .i64 7, .int .i64 0, .complex .f64 0 0, .string ⟨#[]⟩, .int .i64 0, .int .i64 0, .slice none 0 0], _, _, _, rfl, rfl, rfl, tD_one _ _ _ _ _ _ _ (show D.One noD from rfl), E2.out.1, E2.out.2.1, E2.out.2.2, rfl⟩
    | ok y t =>
     have hre : R = .ok (.ref (y : Int)) t := by rw [← HR.out]; simp [rKind, hr, Rs.map, Rs.bind]
     have HRE := Lib.hid hre
     rw [hr] at HK
     clear HR hr hre
     go_wp2_with fail
     clear x0 x1 x2 x3 x4 x5 x6 c0 c1 c2 k0 k1 k2 k3 k4 k5 k6
     (with_reducible refine HK.out.mono ?_)
     rintro e w2 ⟨rfl, g3, g4, g5⟩
     have KC := Lib.hid (KA.out.call g4 g3 hbl)
     have KN := Lib.hid (KC.out.put (l' := tD 7 (y : Int) 0 0 ⟨#[]⟩ 0 0 noD) (us' := #[.int .i64 7, .int .i64 (y : Int), .complex .f64 0 0, .string ⟨#[]⟩, .int .i64 0, .int .i64 0, .slice none 0 0]) rfl hbl 1 (.int .i64 y) rfl (tD_dvs _ _ _ _ _ _ _ (DV.v.2 rfl)))
     obtain ⟨x0, x1, x2, x3, x4, x5, x6⟩ := Bk.seven KC.out.fr.t
     obtain ⟨c0, c1, c2⟩ := Rdc.three KC.out.rd
     have k0 := KC.out.fr.t.free 0
     have k1 := KC.out.fr.t.free 1
     have k2 := KC.out.fr.t.free 2
     have k3 := KC.out.fr.t.free 3
     have k4 := KC.out.fr.t.free 4
     have k5 := KC.out.fr.t.free 5
     have k6 := KC.out.fr.t.free 6
     clear g3 g4 HK
     have hone : (#[.int .i64 7, .int .i64 y, .complex .f64 0 0, .string ⟨#[]⟩, .int .i64 0, .int .i64 0, .slice none 0 0] : Array Value).all (·.oneCell') = true := by simp [Value.oneCell']
     have HE := Lib.hid (fun W' => DSt.fin (w' := W') KN.out rfl hbl)
     go_wp2_with (first
      | (refine wpList_load_row (by rfl) 52 _ (by rfl) (w.heap.size + 1) (by rfl) 52 #[.int .i64 7, .int .i64 y, .complex .f64 0 0, .string ⟨#[]⟩, .int .i64 0, .int .i64 0, .slice none 0 0] (0, 0) _ KN.out.fr.t Tryz.underlying52 (by rfl) (by rw [size7]; rfl) ?_)
      | (refine wpList_store_row (by rfl) _ _ _ (by rfl) w.heap.size #[.int .i64 7, .int .i64 y, .complex .f64 0 0, .string ⟨#[]⟩, .int .i64 0, .int .i64 0, .slice none 0 0] (by rfl) (by rfl) 52 ZT KN.out.fr.o (by rw [size7]; rfl) (by rfl) hone ?_; have HE2 := HE.out _ rfl; generalize World.setRow _ _ _ = W5 at HE2 ⊢; clear HE; obtain ⟨e1, e2⟩ := HE2; have E2 := Lib.hid e2; obtain ⟨z0, z1, z2, z3, z4, z5, z6⟩ := Bk.seven e1; clear e1 e2))
     refine bodyPost_ret (v := .agg #[.int .i64 7, .int .i64 y, .complex .f64 0 0, .string ⟨#[]⟩, .int .i64 0, .int .i64 0, .slice none 0 0]) (by simp [results, Tryz.results53, go_sem, z0, z1, z2, z3, z4, z5, z6]) rfl ?_
     rw [HRE.out]
     exact ⟨#[.int .i64 7, .int .i64 y, .complex .f64 0 0, .string ⟨#[]⟩, .int .i64 0, .int .i64 0, .slice none 0 0], _, _, _, rfl, rfl, rfl, tD_one _ _ _ _ _ _ _ (show D.One noD from rfl), E2.out.1, E2.out.2.1, E2.out.2.2, ⟨by simp only [T.ds], rfl, rfl, g5⟩⟩
   ·have KA : Hid (DT s b w.heap.size w (w1.setCell ⟨w.heap.size + 1, 0, none⟩ (.int .i64 8)) q (-1) (tD 8 0 0 0 ⟨#[]⟩ 0 0 noD) #[.int .i64 8, .int .i64 0, .complex .f64 0 0, .string ⟨#[]⟩, .int .i64 0, .int .i64 0, .slice none 0 0]) := KA
    have HK := Lib.hid (dmany_any b s q _ KA.out.rd hq hs)
    cases hr : rLen s q with
    | bad t =>
     have hre : R = .bad t := by rw [← HR.out]; simp [rKind, rSome, hr, Rs.map, Rs.bind]
     have HRE := Lib.hid hre
     rw [hr] at HK
     clear HR hr hre
     go_wp2_with fail
     clear x0 x1 x2 x3 x4 x5 x6 c0 c1 c2 k0 k1 k2 k3 k4 k5 k6
     (with_reducible refine HK.out.mono ?_)
     rintro e w2 ⟨rfl, ⟨p2, g3⟩, g4⟩
     have KN := Lib.hid (KA.out.call g4 g3 hbl)
     obtain ⟨x0, x1, x2, x3, x4, x5, x6⟩ := Bk.seven KN.out.fr.t
     obtain ⟨c0, c1, c2⟩ := Rdc.three KN.out.rd
     have k0 := KN.out.fr.t.free 0
     have k1 := KN.out.fr.t.free 1
     have k2 := KN.out.fr.t.free 2
     have k3 := KN.out.fr.t.free 3
     have k4 := KN.out.fr.t.free 4
     have k5 := KN.out.fr.t.free 5
     have k6 := KN.out.fr.t.free 6
     clear g3 g4 HK
     go_wp2_with fail
     refine wp_loop_rounds 1 ?_
     rw [rounds_succ]
     have hone : (#[.int .i64 8, .int .i64 0, .complex .f64 0 0, .string ⟨#[]⟩, .int .i64 0, .int .i64 0, .slice none 0 0] : Array Value).all (·.oneCell') = true := by simp [Value.oneCell']
     have HE := Lib.hid (fun W' => DSt.fin (w' := W') KN.out rfl hbl)
     go_wp2_with (first
      | (refine wpList_load_row (by rfl) 52 _ (by rfl) (w.heap.size + 1) (by rfl) 52 #[.int .i64 8, .int .i64 0, .complex .f64 0 0, .string ⟨#[]⟩, .int .i64 0, .int .i64 0, .slice none 0 0] (0, 0) _ KN.out.fr.t Tryz.underlying52 (by rfl) (by rw [size7]; rfl) ?_)
      | (refine wpList_store_row (by rfl) _ _ _ (by rfl) w.heap.size #[.int .i64 8, .int .i64 0, .complex .f64 0 0, .string ⟨#[]⟩, .int .i64 0, .int .i64 0, .slice none 0 0] (by rfl) (by rfl) 52 ZT KN.out.fr.o (by rw [size7]; rfl) (by rfl) hone ?_; have HE2 := HE.out _ rfl; generalize World.setRow _ _ _ = W5 at HE2 ⊢; clear HE; obtain ⟨e1, e2⟩ := HE2; have E2 := Lib.hid e2; obtain ⟨z0, z1, z2, z3, z4, z5, z6⟩ := Bk.seven e1; clear e1 e2))
     refine bodyPost_ret (v := .agg #[.int .i64 8, .int .i64 0, .complex .f64 0 0, .string ⟨#[]⟩, .int .i64 0, .int .i64 0, .slice none 0 0]) (by simp [results, Tryz.results53, go_sem, z0, z1, z2, z3, z4, z5, z6]) rfl ?_
     rw [HRE.out]
     exact ⟨#[.int .i64 8, .int .i64 0, .complex .f64 0 0, .string ⟨#[]⟩, .int .i64 0, .int .i64 0, .slice none 0 0], _, _, _, rfl, rfl, rfl, tD_one _ _ _ _ _ _ _ (show D.One noD from rfl), E2.out.1, E2.out.2.1, E2.out.2.2, rfl⟩
    | ok n q2 =>
     obtain ⟨hn1, hq2, -⟩ := rLen_bd hr
     rw [hr] at HK
     obtain ⟨R2, hR2⟩ : ∃ R2, rMany (fun p => rTerm s d p) n q2 = R2 := ⟨_, rfl⟩
     have HRR : Hid (R = R2.map (.tup 8)) := Lib.hid (by rw [← HR.out, ← hR2]; simp [rKind, rSome, hr, Rs.map, Rs.bind])
     have HR2 := Lib.hid hR2
     clear HR hr hR2
     go_wp2_with fail
     clear x0 x1 x2 x3 x4 x5 x6 c0 c1 c2 k0 k1 k2 k3 k4 k5 k6
     (with_reducible refine HK.out.mono ?_)
     rintro e w2 ⟨rfl, g3, g4, g5⟩
     have KC := Lib.hid (KA.out.call g4 g3 hbl)
     have hsz2 := Bk.lt KC.out.fr.t
     clear g3 g4 HK
     go_wp2_with fail
     go_loopw [10] (fun iv wr => DTLp s b w.heap.size w 8 n (fun p => rTerm s d p) R2 iv wr) (fun iv _ => n - (intOf iv).toNat)
     case atStart => exact ⟨[], .slice none 0 0, q2, -1, rfl, Nat.zero_le _, KC.out.fr, KC.out.rd, KC.out.on, OwnC.nil _ _ _, .inl ⟨rfl, hq2, [], rfl, rfl, by rw [← HR2.out]; show Rs.map _ (rMany _ (n - 0) q2) = _; rw [Nat.sub_zero]; cases rMany (fun p => rTerm s d p) n q2 <;> rfl⟩⟩
     case round =>
      obtain ⟨cs, lv, p2, bd, rfl, hcn, h1, h2, h3, h4, h6⟩ := hrel
      obtain ⟨A, cap, hlv⟩ := h4.form
      subst hlv
      have KL : Hid (LW KTm 52 ZT (fun lv => #[.int .i64 8, .int .i64 0, .complex .f64 0 0, .string ⟨#[]⟩, .int .i64 0, .int .i64 0, lv]) s b w.heap.size w wr (.slice A cs.length cap) cs p2 bd) := Lib.hid ⟨h1, h2, h3, h4⟩
      obtain ⟨x0, x1, x2, x3, x4, x5, x6⟩ := Bk.seven h1.t
      obtain ⟨c0, c1, c2⟩ := Rdc.three h2
      have k6 := h1.t.free 6
      have hsw := h3.size
      have hszr := Bk.lt h1.t
      clear HR2 KC KA h1 h2 h3 h4
      rcases h6 with ⟨rfl, hp2, xs, hxl, hxc, hxr⟩ | ⟨t, rfl, hRb⟩
      ·by_cases hlt : cs.length < n
       ·have hl' : (cs.length : Int) < (n : Int) := by omega
        have HC : Hid (∀ W, Rdc W b s p2 (-1) → Calls Tryz.prog 53 #[.pointer (some ⟨b, 0, none⟩), .int .i64 (IntKind.i64.wrap ((v : Int) + 1))] W fun e w' => DS b s 7 T.ds (rTerm s d p2) W e w') := Lib.hid (fun W h => by
         have := HIH.out b p2 (v + 1) W (by omega) h hp2 hs
         rwa [show ((v + 1 : Nat) : Int) = IntKind.i64.wrap ((v : Int) + 1) by rw [wrapEq, wrap64_in (by omega) (by omega)]; omega] at this)
        have hrm : rMany (fun p => rTerm s d p) (n - cs.length) p2 = (rTerm s d p2).bind fun x q => (rMany (fun p => rTerm s d p) (n - (cs.length + 1)) q).bind fun l r => .ok (x :: l) r := by
         rw [show n - cs.length = (n - (cs.length + 1)) + 1 by omega]
         rfl
        rw [hrm] at hxr
        have KX := Lib.hid hxr
        have KY := Lib.hid hxc
        have hcl : cs.length ≤ 262144 := by omega
        clear hrm hxr hxc
        go_wp2_with fail
        go_region_law (first
         | (go_simp; go_at_call 53; (with_reducible refine (HC.out _ (Bk.drew KL.out.rd)).mono ?_); rintro e w3 ⟨us, l3, p3, bd3, rfl, hus, hl3, ho3, hd3, hr3, on3, hst3⟩; obtain ⟨v0, v1, v2, v3, v4, v5, v6, rfl⟩ := seven_of hus; have L3' := KL.out.call ((Only.drew (Only.refl [b] wr)).trans on3 (fun i hi => .inl hi)) hr3 hbl; have s3 := L3'.fr.t.cell0 (i := 6) rfl; have s4 := (L3'.alloc (.cells #[v0, v1, v2, v3, v4, v5, v6] 52)).fr.t.cell0 (i := 6) rfl; have sz3 := on3.size; have L3 := Lib.hid (L3'.alloc (.cells #[v0, v1, v2, v3, v4, v5, v6] 52)); have D3 := Lib.hid (DVs.only ((Only.refl [] w3).alloc (.cells #[v0, v1, v2, v3, v4, v5, v6] 52)) (by simp) (fun _ h => h) hd3); have HO3 := Lib.hid ho3; have ST3 := Lib.hid hst3; clear hd3 hr3 on3 hst3 ho3 L3')
         | (refine step_appC KTm (by rfl) _ _ (by rfl) (base := w.heap.size + 2) (v := .slice A cs.length cap) (cs := cs) (by rfl) L3.out.own _ #[v0, v1, v2, v3, v4, v5, v6] l3 (by rfl) (Bk.newAt (by simp)) wr (by rw [size_al]; exact Nat.le_succ_of_le sz3) (fun g hg => (KL.out.own.block hg).2) (by omega) D3.out hl3 HO3.out hcl _ rfl ?_; intro g5 cap5 w5 hown hgrow; have GG := LW.gro L3.out hown hgrow rfl hbl 6 rfl; have y6 := GG.1.t.cell0 (i := 6) rfl; have fy6 := GG.1.t.free 6; have G2 := Lib.hid GG.2; clear GG hown hgrow)
         | fail)
        all_goals
         go_wp2_with fail
         go_roundw
         case rel =>
          refine ⟨cs ++ [⟨l3, hl3, HO3.out⟩], _, p3, bd3, by simp, by simp; omega, G2.out.fr, G2.out.rd, G2.out.on, G2.out.own, ?_⟩
          have hst := ST3.out
          have hxr := KX.out
          cases ho : rTerm s d p2 with
          | ok x t =>
           rw [ho] at hst hxr
           obtain ⟨rfl, rfl, rfl, hps⟩ := hst
           refine .inl ⟨rfl, hps, xs ++ [x], by simp [hxl], by simp [KY.out], ?_⟩
           rw [← hxr]
           simp only [Rs.map, Rs.bind, List.length_append, List.length_cons, List.length_nil]
           cases rMany (fun p => rTerm s d p) (n - (cs.length + 1)) p3 <;> simp
          | bad t =>
           rw [ho] at hst hxr
           exact .inr ⟨t, hst, by rw [← hxr]; rfl⟩
         case measure =>
          simp [intOf]
          omega
       ·have hl' : ¬ (cs.length : Int) < (n : Int) := by omega
        have hre : R = .ok (.tup 8 xs) p2 := by
         rw [HRR.out, ← hxr, show n - cs.length = 0 by omega]
         simp [rMany, Rs.map, Rs.bind]
        have HRE := Lib.hid hre
        have KN : Hid (DT s b w.heap.size w wr p2 (-1) (tD 8 0 0 0 ⟨#[]⟩ 0 0 (.sl cs.length (cs.flatMap fun c => c.1))) #[.int .i64 8, .int .i64 0, .complex .f64 0 0, .string ⟨#[]⟩, .int .i64 0, .int .i64 0, .slice A cs.length cap]) := Lib.hid ⟨KL.out.fr, KL.out.rd, KL.out.on, tD_dvs _ _ _ _ _ _ _ KL.out.own.dv⟩
        clear hre hxr
        have hone : (#[.int .i64 8, .int .i64 0, .complex .f64 0 0, .string ⟨#[]⟩, .int .i64 0, .int .i64 0, .slice A cs.length cap] : Array Value).all (·.oneCell') = true := by simp [Value.oneCell']
        have HE := Lib.hid (fun W' => DSt.fin (w' := W') KN.out rfl hbl)
        go_wp2_with (first
         | (refine wpList_load_row (by rfl) 52 _ (by rfl) (w.heap.size + 1) (by rfl) 52 #[.int .i64 8, .int .i64 0, .complex .f64 0 0, .string ⟨#[]⟩, .int .i64 0, .int .i64 0, .slice A cs.length cap] (0, 0) _ KN.out.fr.t Tryz.underlying52 (by rfl) (by rw [size7]; rfl) ?_)
         | (refine wpList_store_row (by rfl) _ _ _ (by rfl) w.heap.size #[.int .i64 8, .int .i64 0, .complex .f64 0 0, .string ⟨#[]⟩, .int .i64 0, .int .i64 0, .slice A cs.length cap] (by rfl) (by rfl) 52 ZT KN.out.fr.o (by rw [size7]; rfl) (by rfl) hone ?_; have HE2 := HE.out _ rfl; generalize World.setRow _ _ _ = W5 at HE2 ⊢; clear HE; obtain ⟨e1, e2⟩ := HE2; have E2 := Lib.hid e2; obtain ⟨z0, z1, z2, z3, z4, z5, z6⟩ := Bk.seven e1; clear e1 e2))
        refine bodyPost_ret (v := .agg #[.int .i64 8, .int .i64 0, .complex .f64 0 0, .string ⟨#[]⟩, .int .i64 0, .int .i64 0, .slice A cs.length cap]) (by simp [results, Tryz.results53, go_sem, z0, z1, z2, z3, z4, z5, z6]) rfl ?_
        rw [HRE.out]
        exact ⟨#[.int .i64 8, .int .i64 0, .complex .f64 0 0, .string ⟨#[]⟩, .int .i64 0, .int .i64 0, .slice A cs.length cap], _, _, _, rfl, rfl, rfl, tD_one _ _ _ _ _ _ _ (show D.One (.sl _ _) from trivial), E2.out.1, E2.out.2.1, E2.out.2.2, ⟨by simp only [T.ds, hxl, dss_flat, hxc], rfl, rfl, hp2⟩⟩
      ·have ht0 : ¬ (t : Int) < 0 := by omega
       have htd : decide ((t : Int) < 0) = false := decide_eq_false ht0
       have hre : R = .bad t := by rw [HRR.out, hRb]; rfl
       have HRE := Lib.hid hre
       have KN : Hid (DT s b w.heap.size w wr p2 (t : Int) (tD 8 0 0 0 ⟨#[]⟩ 0 0 (.sl cs.length (cs.flatMap fun c => c.1))) #[.int .i64 8, .int .i64 0, .complex .f64 0 0, .string ⟨#[]⟩, .int .i64 0, .int .i64 0, .slice A cs.length cap]) := Lib.hid ⟨KL.out.fr, KL.out.rd, KL.out.on, tD_dvs _ _ _ _ _ _ _ KL.out.own.dv⟩
       clear hre hRb
       by_cases hlt : cs.length < n
       ·have hl' : (cs.length : Int) < (n : Int) := by omega
        have hone : (#[.int .i64 8, .int .i64 0, .complex .f64 0 0, .string ⟨#[]⟩, .int .i64 0, .int .i64 0, .slice A cs.length cap] : Array Value).all (·.oneCell') = true := by simp [Value.oneCell']
        have HE := Lib.hid (fun W' => DSt.fin (w' := W') KN.out rfl hbl)
        go_wp2_with (first
         | (refine wpList_load_row (by rfl) 52 _ (by rfl) (w.heap.size + 1) (by rfl) 52 #[.int .i64 8, .int .i64 0, .complex .f64 0 0, .string ⟨#[]⟩, .int .i64 0, .int .i64 0, .slice A cs.length cap] (0, 0) _ KN.out.fr.t Tryz.underlying52 (by rfl) (by rw [size7]; rfl) ?_)
         | (refine wpList_store_row (by rfl) _ _ _ (by rfl) w.heap.size #[.int .i64 8, .int .i64 0, .complex .f64 0 0, .string ⟨#[]⟩, .int .i64 0, .int .i64 0, .slice A cs.length cap] (by rfl) (by rfl) 52 ZT KN.out.fr.o (by rw [size7]; rfl) (by rfl) hone ?_; have HE2 := HE.out _ rfl; generalize World.setRow _ _ _ = W5 at HE2 ⊢; clear HE; obtain ⟨e1, e2⟩ := HE2; have E2 := Lib.hid e2; obtain ⟨z0, z1, z2, z3, z4, z5, z6⟩ := Bk.seven e1; clear e1 e2))
        refine bodyPost_ret (v := .agg #[.int .i64 8, .int .i64 0, .complex .f64 0 0, .string ⟨#[]⟩, .int .i64 0, .int .i64 0, .slice A cs.length cap]) (by simp [results, Tryz.results53, go_sem, z0, z1, z2, z3, z4, z5, z6]) rfl ?_
        rw [HRE.out]
        exact ⟨#[.int .i64 8, .int .i64 0, .complex .f64 0 0, .string ⟨#[]⟩, .int .i64 0, .int .i64 0, .slice A cs.length cap], _, _, _, rfl, rfl, rfl, tD_one _ _ _ _ _ _ _ (show D.One (.sl _ _) from trivial), E2.out.1, E2.out.2.1, E2.out.2.2, rfl⟩
       ·have hl' : ¬ (cs.length : Int) < (n : Int) := by omega
        have hone : (#[.int .i64 8, .int .i64 0, .complex .f64 0 0, .string ⟨#[]⟩, .int .i64 0, .int .i64 0, .slice A cs.length cap] : Array Value).all (·.oneCell') = true := by simp [Value.oneCell']
        have HE := Lib.hid (fun W' => DSt.fin (w' := W') KN.out rfl hbl)
        go_wp2_with (first
         | (refine wpList_load_row (by rfl) 52 _ (by rfl) (w.heap.size + 1) (by rfl) 52 #[.int .i64 8, .int .i64 0, .complex .f64 0 0, .string ⟨#[]⟩, .int .i64 0, .int .i64 0, .slice A cs.length cap] (0, 0) _ KN.out.fr.t Tryz.underlying52 (by rfl) (by rw [size7]; rfl) ?_)
         | (refine wpList_store_row (by rfl) _ _ _ (by rfl) w.heap.size #[.int .i64 8, .int .i64 0, .complex .f64 0 0, .string ⟨#[]⟩, .int .i64 0, .int .i64 0, .slice A cs.length cap] (by rfl) (by rfl) 52 ZT KN.out.fr.o (by rw [size7]; rfl) (by rfl) hone ?_; have HE2 := HE.out _ rfl; generalize World.setRow _ _ _ = W5 at HE2 ⊢; clear HE; obtain ⟨e1, e2⟩ := HE2; have E2 := Lib.hid e2; obtain ⟨z0, z1, z2, z3, z4, z5, z6⟩ := Bk.seven e1; clear e1 e2))
        refine bodyPost_ret (v := .agg #[.int .i64 8, .int .i64 0, .complex .f64 0 0, .string ⟨#[]⟩, .int .i64 0, .int .i64 0, .slice A cs.length cap]) (by simp [results, Tryz.results53, go_sem, z0, z1, z2, z3, z4, z5, z6]) rfl ?_
        rw [HRE.out]
        exact ⟨#[.int .i64 8, .int .i64 0, .complex .f64 0 0, .string ⟨#[]⟩, .int .i64 0, .int .i64 0, .slice A cs.length cap], _, _, _, rfl, rfl, rfl, tD_one _ _ _ _ _ _ _ (show D.One (.sl _ _) from trivial), E2.out.1, E2.out.2.1, E2.out.2.2, rfl⟩
   ·have KA : Hid (DT s b w.heap.size w (w1.setCell ⟨w.heap.size + 1, 0, none⟩ (.int .i64 9)) q (-1) (tD 9 0 0 0 ⟨#[]⟩ 0 0 noD) #[.int .i64 9, .int .i64 0, .complex .f64 0 0, .string ⟨#[]⟩, .int .i64 0, .int .i64 0, .slice none 0 0]) := KA
    have HK := Lib.hid (dmany_any b s q _ KA.out.rd hq hs)
    cases hr : rLen s q with
    | bad t =>
     have hre : R = .bad t := by rw [← HR.out]; simp [rKind, rSome, hr, Rs.map, Rs.bind]
     have HRE := Lib.hid hre
     rw [hr] at HK
     clear HR hr hre
     go_wp2_with fail
     clear x0 x1 x2 x3 x4 x5 x6 c0 c1 c2 k0 k1 k2 k3 k4 k5 k6
     (with_reducible refine HK.out.mono ?_)
     rintro e w2 ⟨rfl, ⟨p2, g3⟩, g4⟩
     have KN := Lib.hid (KA.out.call g4 g3 hbl)
     obtain ⟨x0, x1, x2, x3, x4, x5, x6⟩ := Bk.seven KN.out.fr.t
     obtain ⟨c0, c1, c2⟩ := Rdc.three KN.out.rd
     have k0 := KN.out.fr.t.free 0
     have k1 := KN.out.fr.t.free 1
     have k2 := KN.out.fr.t.free 2
     have k3 := KN.out.fr.t.free 3
     have k4 := KN.out.fr.t.free 4
     have k5 := KN.out.fr.t.free 5
     have k6 := KN.out.fr.t.free 6
     clear g3 g4 HK
     go_wp2_with fail
     refine wp_loop_rounds 1 ?_
     rw [rounds_succ]
     have hone : (#[.int .i64 9, .int .i64 0, .complex .f64 0 0, .string ⟨#[]⟩, .int .i64 0, .int .i64 0, .slice none 0 0] : Array Value).all (·.oneCell') = true := by simp [Value.oneCell']
     have HE := Lib.hid (fun W' => DSt.fin (w' := W') KN.out rfl hbl)
     go_wp2_with (first
      | (refine wpList_load_row (by rfl) 52 _ (by rfl) (w.heap.size + 1) (by rfl) 52 #[.int .i64 9, .int .i64 0, .complex .f64 0 0, .string ⟨#[]⟩, .int .i64 0, .int .i64 0, .slice none 0 0] (0, 0) _ KN.out.fr.t Tryz.underlying52 (by rfl) (by rw [size7]; rfl) ?_)
      | (refine wpList_store_row (by rfl) _ _ _ (by rfl) w.heap.size #[.int .i64 9, .int .i64 0, .complex .f64 0 0, .string ⟨#[]⟩, .int .i64 0, .int .i64 0, .slice none 0 0] (by rfl) (by rfl) 52 ZT KN.out.fr.o (by rw [size7]; rfl) (by rfl) hone ?_; have HE2 := HE.out _ rfl; generalize World.setRow _ _ _ = W5 at HE2 ⊢; clear HE; obtain ⟨e1, e2⟩ := HE2; have E2 := Lib.hid e2; obtain ⟨z0, z1, z2, z3, z4, z5, z6⟩ := Bk.seven e1; clear e1 e2))
     refine bodyPost_ret (v := .agg #[.int .i64 9, .int .i64 0, .complex .f64 0 0, .string ⟨#[]⟩, .int .i64 0, .int .i64 0, .slice none 0 0]) (by simp [results, Tryz.results53, go_sem, z0, z1, z2, z3, z4, z5, z6]) rfl ?_
     rw [HRE.out]
     exact ⟨#[.int .i64 9, .int .i64 0, .complex .f64 0 0, .string ⟨#[]⟩, .int .i64 0, .int .i64 0, .slice none 0 0], _, _, _, rfl, rfl, rfl, tD_one _ _ _ _ _ _ _ (show D.One noD from rfl), E2.out.1, E2.out.2.1, E2.out.2.2, rfl⟩
    | ok n q2 =>
     obtain ⟨hn1, hq2, -⟩ := rLen_bd hr
     rw [hr] at HK
     obtain ⟨R2, hR2⟩ : ∃ R2, rMany (fun p => rTerm s d p) n q2 = R2 := ⟨_, rfl⟩
     have HRR : Hid (R = R2.map (.tup 9)) := Lib.hid (by rw [← HR.out, ← hR2]; simp [rKind, rSome, hr, Rs.map, Rs.bind])
     have HR2 := Lib.hid hR2
     clear HR hr hR2
     go_wp2_with fail
     clear x0 x1 x2 x3 x4 x5 x6 c0 c1 c2 k0 k1 k2 k3 k4 k5 k6
     (with_reducible refine HK.out.mono ?_)
     rintro e w2 ⟨rfl, g3, g4, g5⟩
     have KC := Lib.hid (KA.out.call g4 g3 hbl)
     have hsz2 := Bk.lt KC.out.fr.t
     clear g3 g4 HK
     go_wp2_with fail
     go_loopw [10] (fun iv wr => DTLp s b w.heap.size w 9 n (fun p => rTerm s d p) R2 iv wr) (fun iv _ => n - (intOf iv).toNat)
     case atStart => exact ⟨[], .slice none 0 0, q2, -1, rfl, Nat.zero_le _, KC.out.fr, KC.out.rd, KC.out.on, OwnC.nil _ _ _, .inl ⟨rfl, hq2, [], rfl, rfl, by rw [← HR2.out]; show Rs.map _ (rMany _ (n - 0) q2) = _; rw [Nat.sub_zero]; cases rMany (fun p => rTerm s d p) n q2 <;> rfl⟩⟩
     case round =>
      obtain ⟨cs, lv, p2, bd, rfl, hcn, h1, h2, h3, h4, h6⟩ := hrel
      obtain ⟨A, cap, hlv⟩ := h4.form
      subst hlv
      have KL : Hid (LW KTm 52 ZT (fun lv => #[.int .i64 9, .int .i64 0, .complex .f64 0 0, .string ⟨#[]⟩, .int .i64 0, .int .i64 0, lv]) s b w.heap.size w wr (.slice A cs.length cap) cs p2 bd) := Lib.hid ⟨h1, h2, h3, h4⟩
      obtain ⟨x0, x1, x2, x3, x4, x5, x6⟩ := Bk.seven h1.t
      obtain ⟨c0, c1, c2⟩ := Rdc.three h2
      have k6 := h1.t.free 6
      have hsw := h3.size
      have hszr := Bk.lt h1.t
      clear HR2 KC KA h1 h2 h3 h4
      rcases h6 with ⟨rfl, hp2, xs, hxl, hxc, hxr⟩ | ⟨t, rfl, hRb⟩
      ·by_cases hlt : cs.length < n
       ·have hl' : (cs.length : Int) < (n : Int) := by omega
        have HC : Hid (∀ W, Rdc W b s p2 (-1) → Calls Tryz.prog 53 #[.pointer (some ⟨b, 0, none⟩), .int .i64 (IntKind.i64.wrap ((v : Int) + 1))] W fun e w' => DS b s 7 T.ds (rTerm s d p2) W e w') := Lib.hid (fun W h => by
         have := HIH.out b p2 (v + 1) W (by omega) h hp2 hs
         rwa [show ((v + 1 : Nat) : Int) = IntKind.i64.wrap ((v : Int) + 1) by rw [wrapEq, wrap64_in (by omega) (by omega)]; omega] at this)
        have hrm : rMany (fun p => rTerm s d p) (n - cs.length) p2 = (rTerm s d p2).bind fun x q => (rMany (fun p => rTerm s d p) (n - (cs.length + 1)) q).bind fun l r => .ok (x :: l) r := by
         rw [show n - cs.length = (n - (cs.length + 1)) + 1 by omega]
         rfl
        rw [hrm] at hxr
        have KX := Lib.hid hxr
        have KY := Lib.hid hxc
        have hcl : cs.length ≤ 262144 := by omega
        clear hrm hxr hxc
        go_wp2_with fail
        go_region_law (first
         | (go_simp; go_at_call 53; (with_reducible refine (HC.out _ (Bk.drew KL.out.rd)).mono ?_); rintro e w3 ⟨us, l3, p3, bd3, rfl, hus, hl3, ho3, hd3, hr3, on3, hst3⟩; obtain ⟨v0, v1, v2, v3, v4, v5, v6, rfl⟩ := seven_of hus; have L3' := KL.out.call ((Only.drew (Only.refl [b] wr)).trans on3 (fun i hi => .inl hi)) hr3 hbl; have s3 := L3'.fr.t.cell0 (i := 6) rfl; have s4 := (L3'.alloc (.cells #[v0, v1, v2, v3, v4, v5, v6] 52)).fr.t.cell0 (i := 6) rfl; have sz3 := on3.size; have L3 := Lib.hid (L3'.alloc (.cells #[v0, v1, v2, v3, v4, v5, v6] 52)); have D3 := Lib.hid (DVs.only ((Only.refl [] w3).alloc (.cells #[v0, v1, v2, v3, v4, v5, v6] 52)) (by simp) (fun _ h => h) hd3); have HO3 := Lib.hid ho3; have ST3 := Lib.hid hst3; clear hd3 hr3 on3 hst3 ho3 L3')
         | (refine step_appC KTm (by rfl) _ _ (by rfl) (base := w.heap.size + 2) (v := .slice A cs.length cap) (cs := cs) (by rfl) L3.out.own _ #[v0, v1, v2, v3, v4, v5, v6] l3 (by rfl) (Bk.newAt (by simp)) wr (by rw [size_al]; exact Nat.le_succ_of_le sz3) (fun g hg => (KL.out.own.block hg).2) (by omega) D3.out hl3 HO3.out hcl _ rfl ?_; intro g5 cap5 w5 hown hgrow; have GG := LW.gro L3.out hown hgrow rfl hbl 6 rfl; have y6 := GG.1.t.cell0 (i := 6) rfl; have fy6 := GG.1.t.free 6; have G2 := Lib.hid GG.2; clear GG hown hgrow)
         | fail)
        all_goals
         go_wp2_with fail
         go_roundw
         case rel =>
          refine ⟨cs ++ [⟨l3, hl3, HO3.out⟩], _, p3, bd3, by simp, by simp; omega, G2.out.fr, G2.out.rd, G2.out.on, G2.out.own, ?_⟩
          have hst := ST3.out
          have hxr := KX.out
          cases ho : rTerm s d p2 with
          | ok x t =>
           rw [ho] at hst hxr
           obtain ⟨rfl, rfl, rfl, hps⟩ := hst
           refine .inl ⟨rfl, hps, xs ++ [x], by simp [hxl], by simp [KY.out], ?_⟩
           rw [← hxr]
           simp only [Rs.map, Rs.bind, List.length_append, List.length_cons, List.length_nil]
           cases rMany (fun p => rTerm s d p) (n - (cs.length + 1)) p3 <;> simp
          | bad t =>
           rw [ho] at hst hxr
           exact .inr ⟨t, hst, by rw [← hxr]; rfl⟩
         case measure =>
          simp [intOf]
          omega
       ·have hl' : ¬ (cs.length : Int) < (n : Int) := by omega
        have hre : R = .ok (.tup 9 xs) p2 := by
         rw [HRR.out, ← hxr, show n - cs.length = 0 by omega]
         simp [rMany, Rs.map, Rs.bind]
        have HRE := Lib.hid hre
        have KN : Hid (DT s b w.heap.size w wr p2 (-1) (tD 9 0 0 0 ⟨#[]⟩ 0 0 (.sl cs.length (cs.flatMap fun c => c.1))) #[.int .i64 9, .int .i64 0, .complex .f64 0 0, .string ⟨#[]⟩, .int .i64 0, .int .i64 0, .slice A cs.length cap]) := Lib.hid ⟨KL.out.fr, KL.out.rd, KL.out.on, tD_dvs _ _ _ _ _ _ _ KL.out.own.dv⟩
        clear hre hxr
        have hone : (#[.int .i64 9, .int .i64 0, .complex .f64 0 0, .string ⟨#[]⟩, .int .i64 0, .int .i64 0, .slice A cs.length cap] : Array Value).all (·.oneCell') = true := by simp [Value.oneCell']
        have HE := Lib.hid (fun W' => DSt.fin (w' := W') KN.out rfl hbl)
        go_wp2_with (first
         | (refine wpList_load_row (by rfl) 52 _ (by rfl) (w.heap.size + 1) (by rfl) 52 #[.int .i64 9, .int .i64 0, .complex .f64 0 0, .string ⟨#[]⟩, .int .i64 0, .int .i64 0, .slice A cs.length cap] (0, 0) _ KN.out.fr.t Tryz.underlying52 (by rfl) (by rw [size7]; rfl) ?_)
         | (refine wpList_store_row (by rfl) _ _ _ (by rfl) w.heap.size #[.int .i64 9, .int .i64 0, .complex .f64 0 0, .string ⟨#[]⟩, .int .i64 0, .int .i64 0, .slice A cs.length cap] (by rfl) (by rfl) 52 ZT KN.out.fr.o (by rw [size7]; rfl) (by rfl) hone ?_; have HE2 := HE.out _ rfl; generalize World.setRow _ _ _ = W5 at HE2 ⊢; clear HE; obtain ⟨e1, e2⟩ := HE2; have E2 := Lib.hid e2; obtain ⟨z0, z1, z2, z3, z4, z5, z6⟩ := Bk.seven e1; clear e1 e2))
        refine bodyPost_ret (v := .agg #[.int .i64 9, .int .i64 0, .complex .f64 0 0, .string ⟨#[]⟩, .int .i64 0, .int .i64 0, .slice A cs.length cap]) (by simp [results, Tryz.results53, go_sem, z0, z1, z2, z3, z4, z5, z6]) rfl ?_
        rw [HRE.out]
        exact ⟨#[.int .i64 9, .int .i64 0, .complex .f64 0 0, .string ⟨#[]⟩, .int .i64 0, .int .i64 0, .slice A cs.length cap], _, _, _, rfl, rfl, rfl, tD_one _ _ _ _ _ _ _ (show D.One (.sl _ _) from trivial), E2.out.1, E2.out.2.1, E2.out.2.2, ⟨by simp only [T.ds, hxl, dss_flat, hxc], rfl, rfl, hp2⟩⟩
      ·have ht0 : ¬ (t : Int) < 0 := by omega
       have htd : decide ((t : Int) < 0) = false := decide_eq_false ht0
       have hre : R = .bad t := by rw [HRR.out, hRb]; rfl
       have HRE := Lib.hid hre
       have KN : Hid (DT s b w.heap.size w wr p2 (t : Int) (tD 9 0 0 0 ⟨#[]⟩ 0 0 (.sl cs.length (cs.flatMap fun c => c.1))) #[.int .i64 9, .int .i64 0, .complex .f64 0 0, .string ⟨#[]⟩, .int .i64 0, .int .i64 0, .slice A cs.length cap]) := Lib.hid ⟨KL.out.fr, KL.out.rd, KL.out.on, tD_dvs _ _ _ _ _ _ _ KL.out.own.dv⟩
       clear hre hRb
       by_cases hlt : cs.length < n
       ·have hl' : (cs.length : Int) < (n : Int) := by omega
        have hone : (#[.int .i64 9, .int .i64 0, .complex .f64 0 0, .string ⟨#[]⟩, .int .i64 0, .int .i64 0, .slice A cs.length cap] : Array Value).all (·.oneCell') = true := by simp [Value.oneCell']
        have HE := Lib.hid (fun W' => DSt.fin (w' := W') KN.out rfl hbl)
        go_wp2_with (first
         | (refine wpList_load_row (by rfl) 52 _ (by rfl) (w.heap.size + 1) (by rfl) 52 #[.int .i64 9, .int .i64 0, .complex .f64 0 0, .string ⟨#[]⟩, .int .i64 0, .int .i64 0, .slice A cs.length cap] (0, 0) _ KN.out.fr.t Tryz.underlying52 (by rfl) (by rw [size7]; rfl) ?_)
         | (refine wpList_store_row (by rfl) _ _ _ (by rfl) w.heap.size #[.int .i64 9, .int .i64 0, .complex .f64 0 0, .string ⟨#[]⟩, .int .i64 0, .int .i64 0, .slice A cs.length cap] (by rfl) (by rfl) 52 ZT KN.out.fr.o (by rw [size7]; rfl) (by rfl) hone ?_; have HE2 := HE.out _ rfl; generalize World.setRow _ _ _ = W5 at HE2 ⊢; clear HE; obtain ⟨e1, e2⟩ := HE2; have E2 := Lib.hid e2; obtain ⟨z0, z1, z2, z3, z4, z5, z6⟩ := Bk.seven e1; clear e1 e2))
        refine bodyPost_ret (v := .agg #[.int .i64 9, .int .i64 0, .complex .f64 0 0, .string ⟨#[]⟩, .int .i64 0, .int .i64 0, .slice A cs.length cap]) (by simp [results, Tryz.results53, go_sem, z0, z1, z2, z3, z4, z5, z6]) rfl ?_
        rw [HRE.out]
        exact ⟨#[.int .i64 9, .int .i64 0, .complex .f64 0 0, .string ⟨#[]⟩, .int .i64 0, .int .i64 0, .slice A cs.length cap], _, _, _, rfl, rfl, rfl, tD_one _ _ _ _ _ _ _ (show D.One (.sl _ _) from trivial), E2.out.1, E2.out.2.1, E2.out.2.2, rfl⟩
       ·have hl' : ¬ (cs.length : Int) < (n : Int) := by omega
        have hone : (#[.int .i64 9, .int .i64 0, .complex .f64 0 0, .string ⟨#[]⟩, .int .i64 0, .int .i64 0, .slice A cs.length cap] : Array Value).all (·.oneCell') = true := by simp [Value.oneCell']
        have HE := Lib.hid (fun W' => DSt.fin (w' := W') KN.out rfl hbl)
        go_wp2_with (first
         | (refine wpList_load_row (by rfl) 52 _ (by rfl) (w.heap.size + 1) (by rfl) 52 #[.int .i64 9, .int .i64 0, .complex .f64 0 0, .string ⟨#[]⟩, .int .i64 0, .int .i64 0, .slice A cs.length cap] (0, 0) _ KN.out.fr.t Tryz.underlying52 (by rfl) (by rw [size7]; rfl) ?_)
         | (refine wpList_store_row (by rfl) _ _ _ (by rfl) w.heap.size #[.int .i64 9, .int .i64 0, .complex .f64 0 0, .string ⟨#[]⟩, .int .i64 0, .int .i64 0, .slice A cs.length cap] (by rfl) (by rfl) 52 ZT KN.out.fr.o (by rw [size7]; rfl) (by rfl) hone ?_; have HE2 := HE.out _ rfl; generalize World.setRow _ _ _ = W5 at HE2 ⊢; clear HE; obtain ⟨e1, e2⟩ := HE2; have E2 := Lib.hid e2; obtain ⟨z0, z1, z2, z3, z4, z5, z6⟩ := Bk.seven e1; clear e1 e2))
        refine bodyPost_ret (v := .agg #[.int .i64 9, .int .i64 0, .complex .f64 0 0, .string ⟨#[]⟩, .int .i64 0, .int .i64 0, .slice A cs.length cap]) (by simp [results, Tryz.results53, go_sem, z0, z1, z2, z3, z4, z5, z6]) rfl ?_
        rw [HRE.out]
        exact ⟨#[.int .i64 9, .int .i64 0, .complex .f64 0 0, .string ⟨#[]⟩, .int .i64 0, .int .i64 0, .slice A cs.length cap], _, _, _, rfl, rfl, rfl, tD_one _ _ _ _ _ _ _ (show D.One (.sl _ _) from trivial), E2.out.1, E2.out.2.1, E2.out.2.2, rfl⟩
  ·have hre : R = .bad p := by
    rw [← hR]
    cases d0 with
    | zero => rfl
    | succ d => simp only [rTerm, rOne_no h1 (fun h => hin ⟨h, by omega⟩), Rs.bind]
   have HRE := Lib.hid hre
   have HW := Lib.hid (fun w1 (h : Rdc w1 b s q (-1)) => wrong_any b s q p w1 h)
   clear hR hre h1 ih
   have hcase : (k : Int) < 1 ∨ (¬ (k : Int) < 1 ∧ (9 : Int) < (k : Int)) ∨ (¬ (k : Int) < 1 ∧ ¬ (9 : Int) < (k : Int) ∧ (64 : Int) ≤ (v : Int)) := by omega
   clear hin
   rcases hcase with n1 | ⟨n1, n9⟩ | ⟨n1, n9, n64⟩
   all_goals
    go_enter Tryz.func53, Tryz.ntmps53
    go_wp2_with fail
    clear b0 b1 b2
    (with_reducible refine HK.out.mono ?_)
    rintro e w1 ⟨rfl, g3, g4, hq⟩
    have KC := Lib.hid (KS0.out.call g4 g3 hbl)
    have KA := Lib.hid (KC.out.put (l' := tD (k : Int) 0 0 0 ⟨#[]⟩ 0 0 noD) (us' := #[.int .i64 (k : Int), .int .i64 0, .complex .f64 0 0, .string ⟨#[]⟩, .int .i64 0, .int .i64 0, .slice none 0 0]) rfl hbl 0 (.int .i64 k) rfl (tD_dvs _ _ _ _ _ _ _ (DV.v.2 rfl)))
    obtain ⟨x0, x1, x2, x3, x4, x5, x6⟩ := Bk.seven KC.out.fr.t
    obtain ⟨c0, c1, c2⟩ := Rdc.three KC.out.rd
    have k0 := KC.out.fr.t.free 0
    have k1 := KC.out.fr.t.free 1
    have k2 := KC.out.fr.t.free 2
    have k3 := KC.out.fr.t.free 3
    have k4 := KC.out.fr.t.free 4
    have k5 := KC.out.fr.t.free 5
    have k6 := KC.out.fr.t.free 6
    clear g3 g4 HK KS0
    go_wp2_with fail
    clear x0 x1 x2 x3 x4 x5 x6 c0 c1 c2 k0 k1 k2 k3 k4 k5 k6
    (with_reducible refine (HW.out _ KA.out.rd).mono ?_)
    rintro e w2 ⟨rfl, g3, g4⟩
    have KN := Lib.hid (KA.out.call g4 g3 hbl)
    obtain ⟨x0, x1, x2, x3, x4, x5, x6⟩ := Bk.seven KN.out.fr.t
    obtain ⟨c0, c1, c2⟩ := Rdc.three KN.out.rd
    have k0 := KN.out.fr.t.free 0
    have k1 := KN.out.fr.t.free 1
    have k2 := KN.out.fr.t.free 2
    have k3 := KN.out.fr.t.free 3
    have k4 := KN.out.fr.t.free 4
    have k5 := KN.out.fr.t.free 5
    have k6 := KN.out.fr.t.free 6
    clear g3 g4 HW KC KA
    have hone : (#[.int .i64 k, .int .i64 0, .complex .f64 0 0, .string ⟨#[]⟩, .int .i64 0, .int .i64 0, .slice none 0 0] : Array Value).all (·.oneCell') = true := by simp [Value.oneCell']
    have HE := Lib.hid (fun W' => DSt.fin (w' := W') KN.out rfl hbl)
    go_wp2_with (first
     | (refine wpList_load_row (by rfl) 52 _ (by rfl) (w.heap.size + 1) (by rfl) 52 #[.int .i64 k, .int .i64 0, .complex .f64 0 0, .string ⟨#[]⟩, .int .i64 0, .int .i64 0, .slice none 0 0] (0, 0) _ KN.out.fr.t Tryz.underlying52 (by rfl) (by rw [size7]; rfl) ?_)
     | (refine wpList_store_row (by rfl) _ _ _ (by rfl) w.heap.size #[.int .i64 k, .int .i64 0, .complex .f64 0 0, .string ⟨#[]⟩, .int .i64 0, .int .i64 0, .slice none 0 0] (by rfl) (by rfl) 52 ZT KN.out.fr.o (by rw [size7]; rfl) (by rfl) hone ?_; have HE2 := HE.out _ rfl; generalize World.setRow _ _ _ = W5 at HE2 ⊢; clear HE; obtain ⟨e1, e2⟩ := HE2; have E2 := Lib.hid e2; obtain ⟨z0, z1, z2, z3, z4, z5, z6⟩ := Bk.seven e1; clear e1 e2))
    refine bodyPost_ret (v := .agg #[.int .i64 k, .int .i64 0, .complex .f64 0 0, .string ⟨#[]⟩, .int .i64 0, .int .i64 0, .slice none 0 0]) (by simp [results, Tryz.results53, go_sem, z0, z1, z2, z3, z4, z5, z6]) rfl ?_
    rw [HRE.out]
    exact ⟨#[.int .i64 k, .int .i64 0, .complex .f64 0 0, .string ⟨#[]⟩, .int .i64 0, .int .i64 0, .slice none 0 0], _, _, _, rfl, rfl, rfl, tD_one _ _ _ _ _ _ _ (show D.One noD from rfl), E2.out.1, E2.out.2.1, E2.out.2.2, rfl⟩
theorem dterm_any (s : ByteArray) (d : Nat) : DTermOk s d := by
 induction d with
 | zero => exact dterm_go s 0 (fun d h => by omega)
 | succ d ih =>
  refine dterm_go s (d + 1) (fun d' h => ?_)
  obtain rfl : d = d' := by omega
  exact ih
end Go.Proofs.YtcdefnbehlcgeaaGreatDoor
