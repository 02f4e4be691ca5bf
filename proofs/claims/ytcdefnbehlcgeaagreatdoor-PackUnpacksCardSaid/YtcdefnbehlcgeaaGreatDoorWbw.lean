/- The program's Unpack, given what its Check answers.. Both Unpacks, whole.. The document's Same: of two terms that are one tree.. -/
import Derived.Test.YtcdefnbehlcgeaaGreatDoorWbv
import Derived.Test.YtcdefnbehlcgeaaGreatDoorWbl
import Derived.Test.YtcdefnbehlcgeaaGreatDoorWg
import Derived.Test.YtcdefnbehlcgeaaGreatDoorWf
import Derived.BigQuiet
set_option maxHeartbeats 8000000
set_option maxRecDepth 20000
set_option linter.unusedSimpArgs false
set_option linter.unusedVariables false
namespace Go.Proofs.YtcdefnbehlcgeaaGreatDoor
open Go.RowKit
def ChkAt (w0 : World) (f : FuncId) (C : Md → Int) : Prop := ∀ (s : ByteArray) (md : Md) (q : Nat) (F : Nat → Prop) (us : Array Value) (w : World), Only [] w0 w → rMod s = .ok md q → s.size ≤ 262144 → (∀ g, F g → g < w.heap.size) → DVs w F md.ds us.toList →
 Calls Tryz.prog f #[.agg us] w fun e w' => ∃ x y : Int, e = .returned (.tuple #[.int .i64 (C md), .int .i64 x, .int .i64 y]) ∧ Only [] w w'
theorem lst_ext (s : ByteArray) (a b : Nat) : lst (s.extract a b) = ((lst s).take b).drop a := by
 simp only [lst, ByteArray.data_extract, Array.toList_extract, List.extract_eq_take_drop]
 rw [List.drop_take]
theorem lst_get {s : ByteArray} {i : Nat} (h : i < s.size) : (lst s)[i]? = some (s[i]'h) := by
 have hl : i < (lst s).length := by rw [lst_len]; exact h
 rw [List.getElem?_eq_getElem hl]
 simp only [lst, Array.getElem_toList]
 rfl
theorem four_eq {n : Nat} {x0 x1 x2 x3 y0 y1 y2 y3 : UInt8} (hb : n < 4294967296) (h0 : x0.toNat < 256) (h1 : x1.toNat < 256) (h2 : x2.toNat < 256) (h3 : x3.toNat < 256) (b0 : y0.toNat = n / 256 ^ 0 % 256) (b1 : y1.toNat = n / 256 ^ 1 % 256) (b2 : y2.toNat = n / 256 ^ 2 % 256) (b3 : y3.toNat = n / 256 ^ 3 % 256) :
 [x0, x1, x2, x3] = [y0, y1, y2, y3] ↔ ((x3.toNat * 256 + x2.toNat) * 256 + x1.toNat) * 256 + x0.toNat = n := by
 simp only [Nat.reducePow, Nat.div_one] at b0 b1 b2 b3
 simp only [List.cons.injEq, and_true, ← UInt8.toNat_inj]
 rw [b0, b1, b2, b3]
 generalize x0.toNat = a at *
 generalize x1.toNat = b at *
 generalize x2.toNat = c at *
 generalize x3.toNat = d at *
 omega
theorem seal_eq {s : ByteArray} {q : Nat} (h : s.size = q + 4) : ((s.extract q s.size).toList == (sumB (s.extract 0 q)).toList) = decide (leK s q 4 = sumN (s.extract 0 q)) := by
 generalize hn : sumN (s.extract 0 q) = n
 have hb : n < 4294967296 := by rw [← hn]; exact sumN_bd _
 have e2 : sumB (s.extract 0 q) = ⟨#[byte4 n 0, byte4 n 1, byte4 n 2, byte4 n 3]⟩ := by unfold sumB; rw [hn]
 rw [e2, ByteArray.toList_eq, ByteArray.toList_eq]
 have e3 : (s.extract q s.size).data.toList = [s[q]'(by omega), s[q + 1]'(by omega), s[q + 2]'(by omega), s[q + 3]'(by omega)] := by
  show lst (s.extract q s.size) = _
  rw [lst_ext]
  apply List.ext_getElem?
  intro i
  rw [List.getElem?_drop, List.getElem?_take]
  by_cases hi : i < 4
  ·rw [if_pos (by omega), lst_get (by omega)]
   obtain rfl | rfl | rfl | rfl : i = 0 ∨ i = 1 ∨ i = 2 ∨ i = 3 := by omega
   all_goals rfl
  ·rw [if_neg (by omega), List.getElem?_eq_none (by simp; omega)]
 rw [e3]
 have g0 := gb_at (s := s) (i := q) (by omega)
 have g1 := gb_at (s := s) (i := q + 1) (by omega)
 have g2 := gb_at (s := s) (i := q + 2) (by omega)
 have g3 := gb_at (s := s) (i := q + 3) (by omega)
 have l4 : leK s q 4 = ((gb s (q + 3) * 256 + gb s (q + 2)) * 256 + gb s (q + 1)) * 256 + gb s q := by simp [leK]
 have h0 := gb_bd s q
 have h1 := gb_bd s (q + 1)
 have h2 := gb_bd s (q + 2)
 have h3 := gb_bd s (q + 3)
 rw [Bool.eq_iff_iff, beq_iff_eq, decide_eq_true_eq, l4]
 rw [← g0] at h0 ⊢
 rw [← g1] at h1 ⊢
 rw [← g2] at h2 ⊢
 rw [← g3] at h3 ⊢
 clear g0 g1 g2 g3 l4 e2 e3 hn
 generalize s[q]'(by omega) = x0 at h0 ⊢
 generalize s[q + 1]'(by omega) = x1 at h1 ⊢
 generalize s[q + 2]'(by omega) = x2 at h2 ⊢
 generalize s[q + 3]'(by omega) = x3 at h3 ⊢
 exact four_eq hb h0 h1 h2 h3 (byte4_nat n 0) (byte4_nat n 1) (byte4_nat n 2) (byte4_nat n 3)
theorem md_one (m : Md) : ∀ d ∈ m.ds, d.One := by
 intro d hd
 simp only [Md.ds, List.mem_cons, List.not_mem_nil, or_false] at hd
 rcases hd with rfl | rfl <;> first | rfl | trivial
theorem un_end1 {w w2 : World} {m : Nat} (h : Bk w2 m 24 ZM) (O : Only [] w w2) (hm : w.heap.size = m) (v0 v1 : Value) :
 Bk ((w2.setCell ⟨m, 0, none⟩ v0).setCell ⟨m, 1, none⟩ v1) m 24 #[v0, v1] ∧ Only [] w ((w2.setCell ⟨m, 0, none⟩ v0).setCell ⟨m, 1, none⟩ v1) := by
 have h1 := Bk.set (Bk.set h 0 v0) 1 v1
 exact ⟨by simpa using h1, (O.set (p := ⟨m, 0, none⟩) (.inr (by show w.heap.size ≤ m; omega)) v0).set (p := ⟨m, 1, none⟩) (.inr (by show w.heap.size ≤ m; omega)) v1⟩
theorem un_row1 {w w4 W' : World} {zs us : Array Value} {l : List D} (h : Bk w4 w.heap.size 24 zs) (O : Only [] w w4) (hd : DVs w4 (fun g => w.heap.size + 2 ≤ g) l us.toList) (e : W' = w4.setRow w.heap.size us) :
 Bk W' w.heap.size 24 us ∧ Only [] w W' ∧ DVs W' (fun g => w.heap.size ≤ g) l us.toList := by
 obtain ⟨h1, h2⟩ := setRow_bk h us
 subst e
 exact ⟨h1, O.trans h2 (fun i hi => .inr (by simp at hi; omega)), DVs.only h2 (fun g hg hf => by simp at hg; omega) (fun g hf => by omega) hd⟩
theorem punpack_any (C : Md → Int) (s : ByteArray) (w : World) (hC : ChkAt w 10 C) : Calls Tryz.prog 4 #[.string s] w fun e w' => UnpE (unpE C s) w e w' := by
 obtain ⟨r, hr⟩ : ∃ r, unpE C s = r := ⟨_, rfl⟩
 rw [hr]
 have HR := Lib.hid hr
 clear hr
 have G0 := Lib.hid (Bk.made w 24 ZM)
 have O0 := Lib.hid ((Only.refl [] w).alloc (.cells ZM 24))
 obtain ⟨a0, a1⟩ := Bk.two2 G0.out
 have fa0 := G0.out.free 0
 have fa1 := G0.out.free 1
 by_cases hs : 262144 < s.size
 ·have hs' : (262144 : Int) < (s.size : Int) := by omega
  have hre : r = (4, 0, none) := by rw [← HR.out]; unfold unpE; rw [if_pos hs]
  subst hre
  go_enter Tryz.func4, Tryz.ntmps4
  go_wp2_with fail
  exact bodyPost_ret (v := .tuple #[.agg ZM, .int .i64 4, .int .i64 0]) (by simp [results, Tryz.results4, go_sem, a0, a1]) rfl ⟨ZM, rfl, O0.out, rfl, rfl⟩
 ·have hs' : ¬ (262144 : Int) < (s.size : Int) := by omega
  have R0 : Hid (Rdb ((w.alloc (.cells ZM 24)).alloc (.cells #[.string s, .int .i64 0] 32)) (w.heap.size + 1) s 0) := Lib.hid (Bk.madeAt' (w := w.alloc (.cells ZM 24)) (t := 32) (cs := #[.string s, .int .i64 ((0 : Nat) : Int)]) (by rw [size_al]))
  have HM := Lib.hid (mod_any s (instr_any s) (w.heap.size + 1) _ R0.out (by omega))
  have G1 := Lib.hid (Bk.alloc G0.out (.cells #[.string s, .int .i64 0] 32))
  have O1 := Lib.hid (O0.out.alloc (.cells #[.string s, .int .i64 0] 32))
  go_enter Tryz.func4, Tryz.ntmps4
  go_wp2_with fail
  clear a0 a1 fa0 fa1
  cases hrm : rMod s with
  | bad t =>
   rw [hrm] at HM
   have hre : r = (80, (t : Int), none) := by rw [← HR.out]; unfold unpE; rw [if_neg hs, hrm]
   subst hre
   (with_reducible refine HM.out.mono ?_)
   rintro e w1 ⟨rfl, g3, g4⟩
   have G2 := Lib.hid (Bk.alloc (Bk.only G1.out g4 (by simp)) (.cells ZM 24))
   have R2 := Lib.hid (Bk.alloc g3 (.cells ZM 24))
   have O2 := Lib.hid ((O1.out.trans g4 (fun i hi => .inr (by simp at hi; omega))).alloc (.cells ZM 24))
   have hrc := Rdb.two R2.out
   obtain ⟨c0, c1⟩ := hrc
   obtain ⟨a0, a1⟩ := Bk.two2 G2.out
   have fa0 := G2.out.free 0
   have fa1 := G2.out.free 1
   clear g3 g4 HM G0 G1 O0 O1 R0
   go_wp2_with fail
   go_region
   obtain ⟨E1, E2⟩ := un_end1 G2.out O2.out rfl (.string ⟨#[]⟩) (.slice none 0 0)
   obtain ⟨z0, z1⟩ := Bk.two2 (Bk.drew E1)
   go_wp2_with fail
   exact bodyPost_ret (v := .tuple #[.agg ZM, .int .i64 80, .int .i64 t]) (by simp [results, Tryz.results4, go_sem, z0, z1]) rfl ⟨ZM, rfl, E2.drew, rfl, rfl⟩
  | ok md q =>
   rw [hrm] at HM
   (with_reducible refine HM.out.mono ?_)
   rintro e w1 ⟨u, rfl, ⟨us, rfl, hd⟩, g3, g4, hq⟩
   have hus : us.size = 2 := by rw [← Array.length_toList, DVs.len hd]; rfl
   obtain ⟨y0, y1, rfl⟩ := md_cells hus
   have u0 := DVs.one hd (md_one md)
   have hone : (#[y0, y1] : Array Value).all (·.oneCell') = true := by
    rw [Array.all_eq_true']
    intro v hv
    exact u0 v (Array.mem_toList_iff.2 hv)
   have HMd := Lib.hid (setRow_made w1 24 ZM #[y0, y1])
   have G1' := Lib.hid (Bk.only G1.out g4 (by simp))
   have R1' := Lib.hid g3
   have O1' := Lib.hid (O1.out.trans g4 (fun i hi => .inr (by simp at hi; omega)))
   have D1' := Lib.hid hd
   have hsz1 := g4.size
   rw [size_al, size_al] at hsz1
   clear g3 g4 HM G0 G1 O0 O1 R0 hd
   by_cases h4 : s.size = q + 4
   ·have hq4 : (s.size : Int) - (q : Int) = 4 := by omega
    have hql : (q : Int) ≤ (s.size : Int) := by omega
    obtain ⟨V, hV⟩ : ∃ V : Bool, ((s.extract q (q + 4)).toList == (sumB (s.extract 0 q)).toList) = V := ⟨_, rfl⟩
    have hV2 : V = decide (leK s q 4 = sumN (s.extract 0 q)) := by rw [← hV, ← h4, seal_eq h4]
    cases V with
    | false =>
     have hle : ¬ leK s q 4 = sumN (s.extract 0 q) := of_decide_eq_false hV2.symm
     have hre : r = (81, (q : Int), none) := by rw [← HR.out]; unfold unpE; rw [if_neg hs, hrm]; simp only [if_pos h4, if_neg hle]
     subst hre
     clear hle hV2
     go_wp2_with (refine wpList_store_row (by rfl) _ _ _ (by rfl) w1.heap.size #[y0, y1] (by rfl) (by rfl) 24 ZM (Bk.made w1 _ _) (by rw [size2]; rfl) (by rfl) hone ?_; have HM2 := HMd.out; generalize World.setRow _ _ _ = W3 at HM2 ⊢; clear HMd; obtain ⟨B3, O3, S3⟩ := HM2; have HB3 := Lib.hid B3; have HO3 := Lib.hid O3; have hc1 := (Rdb.two (Bk.only R1'.out O3 (by simp))).2; clear B3 O3)
     have G2 := Lib.hid (Bk.only G1'.out HO3.out (by simp))
     have R2 := Lib.hid (Bk.only R1'.out HO3.out (by simp))
     have O2 := Lib.hid (O1'.out.trans HO3.out (by simp))
     have D2 := Lib.hid (DVs.only HO3.out (F' := fun g => w.heap.size + 2 ≤ g) (by simp) (fun g hf => by rw [size_al, size_al] at hf; omega) D1'.out)
     have z1 : ∀ x : Cm W3, x.1.cell? ⟨w.heap.size + 1, 1, none⟩ = some (.int .i64 q) := Cm.cell hc1
     have HSm := Lib.hid (fun x : Cm W3 => sumBytes_any (s.extract 0 q) x.1 (by rw [ByteArray.size_extract]; omega))
     clear hc1
     refine wp_region_calm (by kernel_rfl) (by kernel_rfl) ?_
     repeat (go_big_quiet_step ((go_at_call 9; exact calmS (HSm.out _))))
     refine wpQuiet_nil ?_
     rintro w5 ⟨⟨w5', o5⟩, e5⟩
     obtain rfl : w5 = w5' := e5
     have G5 := Lib.hid (Bk.only G2.out o5 (by simp))
     have R5 := Lib.hid (Bk.only R2.out o5 (by simp))
     have O5 := Lib.hid (O2.out.trans o5 (by simp))
     have B5 := Lib.hid (Bk.only HB3.out o5 (by simp))
     have D5 := Lib.hid (DVs.only o5 (by simp) (fun _ h => h) D2.out)
     obtain ⟨c0, c1⟩ := Rdb.two R5.out
     obtain ⟨a0, a1⟩ := Bk.two2 G5.out
     have fa0 := G5.out.free 0
     have fa1 := G5.out.free 1
     clear z1 o5 HSm
     clear h4 hq4
     go_wp2_with fail
     go_region
     obtain ⟨E1, E2⟩ := un_end1 G5.out O5.out rfl (.string ⟨#[]⟩) (.slice none 0 0)
     obtain ⟨z0, z1⟩ := Bk.two2 (Bk.drew E1)
     go_wp2_with fail
     exact bodyPost_ret (v := .tuple #[.agg ZM, .int .i64 81, .int .i64 q]) (by simp [results, Tryz.results4, go_sem, z0, z1]) rfl ⟨ZM, rfl, E2.drew, rfl, rfl⟩
    | true =>
     have hle : leK s q 4 = sumN (s.extract 0 q) := of_decide_eq_true hV2.symm
     have hre : r = if C md = 0 then (0, 0, some md) else (C md, 0, none) := by rw [← HR.out]; unfold unpE; rw [if_neg hs, hrm]; simp only [if_pos h4, if_pos hle]
     clear hle hV2
     go_wp2_with (refine wpList_store_row (by rfl) _ _ _ (by rfl) w1.heap.size #[y0, y1] (by rfl) (by rfl) 24 ZM (Bk.made w1 _ _) (by rw [size2]; rfl) (by rfl) hone ?_; have HM2 := HMd.out; generalize World.setRow _ _ _ = W3 at HM2 ⊢; clear HMd; obtain ⟨B3, O3, S3⟩ := HM2; have HB3 := Lib.hid B3; have HO3 := Lib.hid O3; have hc1 := (Rdb.two (Bk.only R1'.out O3 (by simp))).2; clear B3 O3)
     have G2 := Lib.hid (Bk.only G1'.out HO3.out (by simp))
     have R2 := Lib.hid (Bk.only R1'.out HO3.out (by simp))
     have O2 := Lib.hid (O1'.out.trans HO3.out (by simp))
     have D2 := Lib.hid (DVs.only HO3.out (F' := fun g => w.heap.size + 2 ≤ g) (by simp) (fun g hf => by rw [size_al, size_al] at hf; omega) D1'.out)
     have z1 : ∀ x : Cm W3, x.1.cell? ⟨w.heap.size + 1, 1, none⟩ = some (.int .i64 q) := Cm.cell hc1
     have HSm := Lib.hid (fun x : Cm W3 => sumBytes_any (s.extract 0 q) x.1 (by rw [ByteArray.size_extract]; omega))
     clear hc1
     refine wp_region_calm (by kernel_rfl) (by kernel_rfl) ?_
     repeat (go_big_quiet_step ((go_at_call 9; exact calmS (HSm.out _))))
     refine wpQuiet_nil ?_
     rintro w5 ⟨⟨w5', o5⟩, e5⟩
     obtain rfl : w5 = w5' := e5
     have G5 := Lib.hid (Bk.only G2.out o5 (by simp))
     have R5 := Lib.hid (Bk.only R2.out o5 (by simp))
     have O5 := Lib.hid (O2.out.trans o5 (by simp))
     have B5 := Lib.hid (Bk.only HB3.out o5 (by simp))
     have D5 := Lib.hid (DVs.only o5 (by simp) (fun _ h => h) D2.out)
     obtain ⟨c0, c1⟩ := Rdb.two R5.out
     obtain ⟨a0, a1⟩ := Bk.two2 G5.out
     have fa0 := G5.out.free 0
     have fa1 := G5.out.free 1
     clear z1 o5 HSm
     clear h4 hq4
     have HCk := Lib.hid (hC s md q (fun g => w.heap.size + 2 ≤ g ∧ g < w5.heap.size) #[y0, y1] w5 O5.out hrm (by omega) (fun g hg => hg.2) (DVs.lt D5.out))
     go_wp2_with (refine wpList_load_row (by rfl) 24 _ (by rfl) w1.heap.size (by rfl) 24 #[y0, y1] (0, 0) _ B5.out Tryz.underlying24 (by rfl) (by rw [size2]; rfl) ?_)
     (with_reducible refine HCk.out.mono ?_)
     rintro e w4 ⟨x, y, rfl, o4⟩
     have G4 := Lib.hid (Bk.only G5.out o4 (by simp))
     have B4 := Lib.hid (B5.out.only o4 (by simp))
     have O4 := Lib.hid (O5.out.trans o4 (by simp))
     have D4 := Lib.hid (DVs.only o4 (by simp) (fun _ h => h) D5.out)
     clear a0 a1 fa0 fa1 c0 c1
     by_cases hc : C md = 0
     ·rw [if_pos hc] at hre
      subst hre
      rw [hc]
      have HE := Lib.hid (fun W' => un_row1 (W' := W') G4.out O4.out D4.out)
      clear o4 HCk
      go_wp2_with (first
       | (refine wpList_load_row (by rfl) 24 _ (by rfl) w1.heap.size (by rfl) 24 #[y0, y1] (0, 0) _ B4.out Tryz.underlying24 (by rfl) (by rw [size2]; rfl) ?_)
       | (refine wpList_store_row (by rfl) _ _ _ (by rfl) w.heap.size #[y0, y1] (by rfl) (by rfl) 24 ZM G4.out (by rw [size2]; rfl) (by rfl) hone ?_; have HE2 := HE.out _ rfl; generalize World.setRow _ _ _ = W5 at HE2 ⊢; clear HE; obtain ⟨e1, e2⟩ := HE2; have E2 := Lib.hid e2; obtain ⟨z0, z1⟩ := Bk.two2 e1; clear e1 e2))
      exact bodyPost_ret (v := .tuple #[.agg #[y0, y1], .int .i64 0, .int .i64 0]) (by simp [results, Tryz.results4, go_sem, z0, z1]) rfl ⟨#[y0, y1], rfl, E2.out.1, rfl, E2.out.2⟩
     ·rw [if_neg hc] at hre
      subst hre
      obtain ⟨a0, a1⟩ := Bk.two2 G4.out
      have fa0 := G4.out.free 0
      have fa1 := G4.out.free 1
      clear o4 HCk
      have hc' : ¬ C md = 0 := hc
      obtain ⟨E1, E2⟩ := un_end1 G4.out O4.out rfl (.string ⟨#[]⟩) (.slice none 0 0)
      obtain ⟨z0, z1⟩ := Bk.two2 E1
      go_wp2_with fail
      exact bodyPost_ret (v := .tuple #[.agg ZM, .int .i64 (C md), .int .i64 0]) (by simp [results, Tryz.results4, go_sem, z0, z1]) rfl ⟨ZM, rfl, E2, rfl, rfl⟩
   ·have hq4 : ¬ (s.size : Int) - (q : Int) = 4 := by omega
    have hre : r = (80, (q : Int), none) := by rw [← HR.out]; unfold unpE; rw [if_neg hs, hrm]; simp only [if_neg h4]
    subst hre
    go_wp2_with (refine wpList_store_row (by rfl) _ _ _ (by rfl) w1.heap.size #[y0, y1] (by rfl) (by rfl) 24 ZM (Bk.made w1 _ _) (by rw [size2]; rfl) (by rfl) hone ?_; have HM2 := HMd.out; generalize World.setRow _ _ _ = W3 at HM2 ⊢; clear HMd; obtain ⟨B3, O3, S3⟩ := HM2; have HO3 := Lib.hid O3; have hc1 := (Rdb.two (Bk.only R1'.out O3 (by simp))).2; obtain ⟨a0, a1⟩ := Bk.two2 (Bk.only G1'.out O3 (by simp)); have fa0 := (Bk.only G1'.out O3 (by simp)).free 0; have fa1 := (Bk.only G1'.out O3 (by simp)).free 1; clear B3 O3)
    have G2 := Lib.hid (Bk.only G1'.out HO3.out (by simp))
    have O2 := Lib.hid (O1'.out.trans HO3.out (by simp))
    go_region
    obtain ⟨E1, E2⟩ := un_end1 G2.out O2.out rfl (.string ⟨#[]⟩) (.slice none 0 0)
    obtain ⟨z0, z1⟩ := Bk.two2 (Bk.drew E1)
    go_wp2_with fail
    exact bodyPost_ret (v := .tuple #[.agg ZM, .int .i64 80, .int .i64 q]) (by simp [results, Tryz.results4, go_sem, z0, z1]) rfl ⟨ZM, rfl, E2.drew, rfl, rfl⟩
open Go.RowKit
theorem dchk : ChkOk 13 mchk := fun _ md _ F us w hrm hs hF hD => r6check_any md (rMod_good hs hrm) us F w hD hF
theorem pchk (w : World) (hk : KN w) : ChkAt w 10 mchk := fun _ md _ F us w' o hrm hs hF hD => pcheck_any md (rMod_good hs hrm) us F w' hD hF (hk.same o)
theorem dunpack (s : ByteArray) (w : World) : Calls Tryz.prog 5 #[.string s] w fun e w' => UnpE (unpE mchk s) w e w' := dunpack_any mchk dchk s w
theorem punpack (s : ByteArray) (w : World) (hk : KN w) : Calls Tryz.prog 4 #[.string s] w fun e w' => UnpE (unpE mchk s) w e w' := punpack_any mchk s w (pchk w hk)
open Go.RowKit
theorem zfl : floatOfInt .f64 0 = 0 := by decide
theorem r3bits (n : Int) (h : okPart n = true) (w : World) : Calls Tryz.prog 63 #[.float .f64 (floatOfInt .f64 n), .float .f64 (floatOfInt .f64 n)] w fun e w' => e = .returned (.bool true) ∧ w = w' := by
 have h1 := part_me h
 by_cases h0 : n = 0
 ·subst h0
  rw [zfl] at h1 ⊢
  have hq : ∀ w, (binOp .quo 118 (.float .f64 4607182418800017408) (.float .f64 0)).run Tryz.prog w = .ok (.float .f64 9218868437227405312) w := fun w => by kernel_rfl
  have hi : FloatKind.f64.format.order 9218868437227405312 9218868437227405312 = some .eq := by decide
  go_enter Tryz.func63, Tryz.ntmps63
  go_wp2_with fail
  go_ret
  exact ⟨rfl, rfl⟩
 ·have h2 : FloatKind.f64.format.order (floatOfInt .f64 n) 0 = some .lt ∨ FloatKind.f64.format.order (floatOfInt .f64 n) 0 = some .gt := by
   have h3 := order_w (part_w h) isW_0
   rw [zfl] at h3
   rw [h3]
   rcases Int.lt_trichotomy n 0 with h4 | h4 | h4
   ·left; rw [Int.compare_eq_ite_lt, if_pos h4]
   ·exact absurd h4 h0
   ·right; rw [Int.compare_eq_ite_lt, if_neg (by omega), if_pos h4]
  clear h h0
  generalize floatOfInt .f64 n = x at *
  rcases h2 with h2 | h2
  all_goals
   go_enter Tryz.func63, Tryz.ntmps63
   go_wp2_with fail
   go_ret
   exact ⟨rfl, rfl⟩
theorem r3same_com (a b : Int) (ha : okPart a = true) (hb : okPart b = true) (w : World) :
 Calls Tryz.prog 37 #[.agg (tcs 4 0 (floatOfInt .f64 a) (floatOfInt .f64 b) ⟨#[]⟩ 0 0 (.slice none 0 0)), .agg (tcs 4 0 (floatOfInt .f64 a) (floatOfInt .f64 b) ⟨#[]⟩ 0 0 (.slice none 0 0))] w fun e w' => e = .returned (.bool true) ∧ Only [] w w' := by
 have rs := store_com
 have HA := Lib.hid (fun w => r3bits a ha w)
 have HB := Lib.hid (fun w => r3bits b hb w)
 have e0 := eqPid 0 0 0 0
 clear ha hb
 generalize floatOfInt .f64 a = x at *
 generalize floatOfInt .f64 b = y at *
 go_enter Tryz.func37, Tryz.ntmps37
 go_wp2_with fail
 (with_reducible refine (HA.out _).mono ?_)
 rintro e w1 ⟨rfl, rfl⟩
 go_wp2_with fail
 (with_reducible refine (HB.out _).mono ?_)
 rintro e w1 ⟨rfl, rfl⟩
 go_wp2_with fail
 refine wp_loop_rounds 1 ?_
 rw [rounds_succ]
 go_wp2_with fail
 go_ret
 exact ⟨rfl, ((Only.refl [] w).alloc _).alloc _⟩
theorem r3same_other (k n : Int) (S : ByteArray) (a b : Int) (hk : k ≠ 4) (w : World) :
 Calls Tryz.prog 37 #[.agg (tcs k n 0 0 S a b (.slice none 0 0)), .agg (tcs k n 0 0 S a b (.slice none 0 0))] w fun e w' => e = .returned (.bool true) ∧ Only [] w w' := by
 have rs := store_com
 have z0 := z64
 have e1 := fun w => eqPid a b a b w
 simp only [beq_self_eq_true, Bool.and_self] at e1
 have h1 : (k == 4) = false := beq_eq_false_iff_ne.2 hk
 have h2 : (k != 4) = true := bne_iff_ne.2 hk
 clear hk
 go_enter Tryz.func37, Tryz.ntmps37
 go_wp2_with fail
 refine wp_loop_rounds 1 ?_
 rw [rounds_succ]
 go_wp2_with fail
 go_ret
 exact ⟨rfl, ((Only.refl [] w).alloc _).alloc _⟩
theorem r3same_leaf (t : T) (hf : t.Good ∨ t = .zero) (hl : ∀ k l, t ≠ .tup k l) (w : World) :
 Calls Tryz.prog 37 #[.agg #[.int .i64 t.k, .int .i64 t.n, .complex .f64 t.x t.y, .string t.S, .int .i64 t.a, .int .i64 t.b, .slice none 0 0], .agg #[.int .i64 t.k, .int .i64 t.n, .complex .f64 t.x t.y, .string t.S, .int .i64 t.a, .int .i64 t.b, .slice none 0 0]] w fun e w' => e = .returned (.bool true) ∧ Only [] w w' := by
 cases t with
 | tup k l => exact absurd rfl (hl _ _)
 | com a b =>
  rcases hf with hf | hf
  ·unfold T.Good at hf
   exact r3same_com a b hf.1 hf.2 w
  ·cases hf
 | zero => exact r3same_other 0 0 _ 0 0 (by decide) w
 | nil => exact r3same_other 1 0 _ 0 0 (by decide) w
 | bool b => exact r3same_other 2 _ _ 0 0 (by decide) w
 | int n => exact r3same_other 3 n _ 0 0 (by decide) w
 | atom s => exact r3same_other 5 0 s 0 0 (by decide) w
 | pid n g => exact r3same_other 6 0 _ n g (by decide) w
 | ref n => exact r3same_other 7 n _ 0 0 (by decide) w
def TSameOk (t : T) : Prop := ∀ (sl sl' : Value) (F F' : Nat → Prop) (w : World), TV w F t sl → TV w F' t sl' →
 Calls Tryz.prog 37 #[.agg #[.int .i64 t.k, .int .i64 t.n, .complex .f64 t.x t.y, .string t.S, .int .i64 t.a, .int .i64 t.b, sl], .agg #[.int .i64 t.k, .int .i64 t.n, .complex .f64 t.x t.y, .string t.S, .int .i64 t.a, .int .i64 t.b, sl']] w fun e w' => e = .returned (.bool true) ∧ Only [] w w'
theorem seven_at {t : T} {sl : Value} {w : World} {g o : Nat} (h : ∀ j u, (t.cs sl)[j]? = some u → w.cell? ⟨g, o + j, none⟩ = some u) :
 w.cell? ⟨g, o, none⟩ = some (.int .i64 t.k) ∧ w.cell? ⟨g, o + 1, none⟩ = some (.int .i64 t.n) ∧ w.cell? ⟨g, o + 2, none⟩ = some (.complex .f64 t.x t.y) ∧ w.cell? ⟨g, o + 3, none⟩ = some (.string t.S) ∧ w.cell? ⟨g, o + 4, none⟩ = some (.int .i64 t.a) ∧ w.cell? ⟨g, o + 5, none⟩ = some (.int .i64 t.b) ∧ w.cell? ⟨g, o + 6, none⟩ = some sl :=
 ⟨h 0 _ rfl, h 1 _ rfl, h 2 _ rfl, h 3 _ rfl, h 4 _ rfl, h 5 _ rfl, h 6 _ rfl⟩
theorem r3same_tup (k : Int) (l : List T) (hk : k ≠ 4) (ih : ∀ u ∈ l, TSameOk u) (A A' : Option Addr) (c c' : Nat) (F F' : Nat → Prop) (w : World)
 (h1 : l = [] ∨ ∃ bl off, A = some ⟨bl, off, none⟩ ∧ bl < w.heap.size ∧ F bl ∧ TVs w F l bl off) (h2 : l = [] ∨ ∃ bl off, A' = some ⟨bl, off, none⟩ ∧ bl < w.heap.size ∧ F' bl ∧ TVs w F' l bl off) (hc : l.length ≤ c ∧ c ≤ 9223372036854775807) (hc' : l.length ≤ c' ∧ c' ≤ 9223372036854775807) :
 Calls Tryz.prog 37 #[.agg (tcs k 0 0 0 ⟨#[]⟩ 0 0 (.slice A l.length c)), .agg (tcs k 0 0 0 ⟨#[]⟩ 0 0 (.slice A' l.length c'))] w fun e w' => e = .returned (.bool true) ∧ Only [] w w' := by
 have rs := store_com
 have z0 := z64
 have e1 := fun w => eqPid 0 0 0 0 w
 simp only [beq_self_eq_true, Bool.and_self] at e1
 have k1 : (k == 4) = false := beq_eq_false_iff_ne.2 hk
 have k2 : (k != 4) = true := bne_iff_ne.2 hk
 have H1 := Lib.hid h1
 have H2 := Lib.hid h2
 have IH := Lib.hid ih
 have B1 := Lib.hid ((Bk.made w 52 (tcs k 0 0 0 ⟨#[]⟩ 0 0 (.slice A l.length c))).alloc (.cells (tcs k 0 0 0 ⟨#[]⟩ 0 0 (.slice A' l.length c')) 52))
 have B2 := Lib.hid (Bk.madeAt (w := w.alloc (.cells (tcs k 0 0 0 ⟨#[]⟩ 0 0 (.slice A l.length c)) 52)) (t := 52) (cs := tcs k 0 0 0 ⟨#[]⟩ 0 0 (.slice A' l.length c')) (b := w.heap.size + 1) (by simp))
 have O0 := Lib.hid (((Only.refl [] w).alloc (.cells (tcs k 0 0 0 ⟨#[]⟩ 0 0 (.slice A l.length c)) 52)).alloc (.cells (tcs k 0 0 0 ⟨#[]⟩ 0 0 (.slice A' l.length c')) 52))
 clear hk h1 h2 ih
 go_enter Tryz.func37, Tryz.ntmps37
 go_wp2_with fail
 generalize (w.alloc (.cells (tcs k 0 0 0 ⟨#[]⟩ 0 0 (.slice A l.length c)) 52)).alloc (.cells (tcs k 0 0 0 ⟨#[]⟩ 0 0 (.slice A' l.length c')) 52) = W0 at *
 go_loopw [5] (fun v wr => ∃ j : Nat, v = .int .i64 j ∧ j ≤ l.length ∧ Only [] W0 wr) (fun v _ => l.length - (intOf v).toNat)
 case atStart => exact ⟨0, rfl, Nat.zero_le _, Only.refl _ _⟩
 case round =>
  obtain ⟨j, rfl, hj, ho⟩ := hrel
  have HO := Lib.hid (O0.out.trans ho (by simp))
  have HP := Lib.hid ho
  have C1 := Lib.hid (B1.out.only ho (by simp))
  have C2 := Lib.hid (B2.out.only ho (by simp))
  have d5 := C1.out.cell0 (i := 6) rfl
  have d6 := C2.out.cell0 (i := 6) rfl
  clear ho
  by_cases hjl : j < l.length
  ·rcases H1.out with h0 | ⟨bl, off, rfl, hbl, _, hvs⟩
   ·rw [h0] at hjl; simp at hjl
   rcases H2.out with h0 | ⟨bl', off', rfl, hbl', _, hvs'⟩
   ·rw [h0] at hjl; simp at hjl
   obtain ⟨sl, htv, hcs⟩ := (TVs.iff.1 hvs) j (l[j]'hjl) (List.getElem?_eq_getElem hjl)
   obtain ⟨sl', htv', hcs'⟩ := (TVs.iff.1 hvs') j (l[j]'hjl) (List.getElem?_eq_getElem hjl)
   obtain ⟨SA, sn, sc, rfl⟩ := htv.slice
   obtain ⟨SA', sn', sc', rfl⟩ := htv'.slice
   have hjl' : (j : Int) < (l.length : Int) := by omega
   have hcs2 : ∀ q u, ((l[j]'hjl).cs (.slice SA sn sc))[q]? = some u → wr.cell? ⟨bl, off + j * 7 + q, none⟩ = some u := fun q u hu => (HO.out.cell (p := ⟨bl, off + j * 7 + q, none⟩) hbl (by simp)).trans (by rw [Nat.mul_comm]; exact hcs q u hu)
   have hcs2' : ∀ q u, ((l[j]'hjl).cs (.slice SA' sn' sc'))[q]? = some u → wr.cell? ⟨bl', off' + j * 7 + q, none⟩ = some u := fun q u hu => (HO.out.cell (p := ⟨bl', off' + j * 7 + q, none⟩) hbl' (by simp)).trans (by rw [Nat.mul_comm]; exact hcs' q u hu)
   obtain ⟨r0, r1, r2, r3, r4, r5, r6⟩ := seven_at hcs2
   obtain ⟨s0, s1, s2, s3, s4, s5, s6⟩ := seven_at hcs2'
   have HTV := Lib.hid (TV.same HO.out htv)
   have HTV' := Lib.hid (TV.same HO.out htv')
   have HI := Lib.hid (IH.out _ (List.getElem_mem hjl))
   clear hcs hcs2 htv hvs hcs' hcs2' htv' hvs'
   generalize l[j]'hjl = u at HI HTV HTV' r0 r1 r2 r3 r4 r5 r6 s0 s1 s2 s3 s4 s5 s6
   have KS := Lib.hid (fun x : Cm wr => HI.out _ _ F F' x.1 (TV.same x.o HTV.out) (TV.same x.o HTV'.out))
   obtain ⟨uk, huk⟩ : ∃ uk, u.k = uk := ⟨_, rfl⟩
   obtain ⟨un, hun⟩ : ∃ un, u.n = un := ⟨_, rfl⟩
   obtain ⟨ux, hux⟩ : ∃ ux, u.x = ux := ⟨_, rfl⟩
   obtain ⟨uy, huy⟩ : ∃ uy, u.y = uy := ⟨_, rfl⟩
   obtain ⟨uS, huS⟩ : ∃ uS, u.S = uS := ⟨_, rfl⟩
   obtain ⟨ua, hua⟩ : ∃ ua, u.a = ua := ⟨_, rfl⟩
   obtain ⟨ub, hub⟩ : ∃ ub, u.b = ub := ⟨_, rfl⟩
   rw [huk, hun, hux, huy, huS, hua, hub] at KS
   rw [huk] at r0 s0
   rw [hun] at r1 s1
   rw [hux, huy] at r2 s2
   rw [huS] at r3 s3
   rw [hua] at r4 s4
   rw [hub] at r5 s5
   have RR := Lib.hid (And.intro r0 (And.intro r1 (And.intro r2 (And.intro r3 (And.intro r4 (And.intro r5 r6))))))
   have SS := Lib.hid (And.intro s0 (And.intro s1 (And.intro s2 (And.intro s3 (And.intro s4 (And.intro s5 s6))))))
   clear r0 r1 r2 r3 r4 r5 r6 s0 s1 s2 s3 s4 s5 s6 huk hun hux huy huS hua hub
   go_wp2_with fail
   have a0 := fun x : Cm wr => Cm.cell RR.out.1 x
   have a1 := fun x : Cm wr => Cm.cell RR.out.2.1 x
   have a2 := fun x : Cm wr => Cm.cell RR.out.2.2.1 x
   have a3 := fun x : Cm wr => Cm.cell RR.out.2.2.2.1 x
   have a4 := fun x : Cm wr => Cm.cell RR.out.2.2.2.2.1 x
   have a5 := fun x : Cm wr => Cm.cell RR.out.2.2.2.2.2.1 x
   have a6 := fun x : Cm wr => Cm.cell RR.out.2.2.2.2.2.2 x
   have b0 := fun x : Cm wr => Cm.cell SS.out.1 x
   have b1 := fun x : Cm wr => Cm.cell SS.out.2.1 x
   have b2 := fun x : Cm wr => Cm.cell SS.out.2.2.1 x
   have b3 := fun x : Cm wr => Cm.cell SS.out.2.2.2.1 x
   have b4 := fun x : Cm wr => Cm.cell SS.out.2.2.2.2.1 x
   have b5 := fun x : Cm wr => Cm.cell SS.out.2.2.2.2.2.1 x
   have b6 := fun x : Cm wr => Cm.cell SS.out.2.2.2.2.2.2 x
   have c5 : ∀ x : Cm wr, x.1.cell? ⟨w.heap.size, 6, none⟩ = some (.slice (some ⟨bl, off, none⟩) l.length c) := Cm.cell d5
   have c6 : ∀ x : Cm wr, x.1.cell? ⟨w.heap.size + 1, 6, none⟩ = some (.slice (some ⟨bl', off', none⟩) l.length c') := Cm.cell d6
   refine wp_region_calm (by kernel_rfl) (by kernel_rfl) ?_
   repeat (go_big_quiet_step ((go_at_call 37; exact calmS (KS.out _))))
   refine wpQuiet_nil ?_
   rintro w2 ⟨⟨w2', o2⟩, e2⟩
   obtain rfl : w2 = w2' := e2
   have HX := Lib.hid (show ∃ j' : Nat, Value.int .i64 ((j : Int) + 1) = .int .i64 (j' : Int) ∧ j' ≤ l.length ∧ Only [] W0 w2 from ⟨j + 1, by go_num, by omega, HP.out.trans o2 (by simp)⟩)
   clear a0 a1 a2 a3 a4 a5 a6 b0 b1 b2 b3 b4 b5 b6 c5 c6 d5 d6 o2
   go_wp2_with fail
   go_roundw
   case rel => exact HX.out
   case measure => simp [intOf]; omega
  ·have hje : j = l.length := by omega
   subst hje
   clear hj
   go_wp2_with fail
   go_ret
   exact ⟨rfl, HO.out⟩
theorem r3same_any (t : T) (hg : t.Good ∨ t = .zero) : TSameOk t := by
 revert hg
 refine T.ind (P := fun t => t.Good ∨ t = .zero → TSameOk t) (fun t ht hg sl sl' F F' w h h' => ?_) (fun k l ih hg sl sl' F F' w h h' => ?_) t
 ·obtain rfl := (TV.leaf ht).1 h
  obtain rfl := (TV.leaf ht).1 h'
  exact r3same_leaf t hg ht w
 ·simp only [TV] at h h'
  obtain ⟨A, c, rfl, h1, h2, h3⟩ := h
  obtain ⟨A', c', rfl, h1', h2', h3'⟩ := h'
  have hg : (T.tup k l).Good := hg.resolve_right (by simp)
  unfold T.Good at hg
  exact r3same_tup k l (by omega) (fun u hu => ih u hu (.inl (Goods.iff.1 hg.2 u hu))) A A' c c' F F' w h3 h3' ⟨h1, h2⟩ ⟨h1', h2'⟩
end Go.Proofs.YtcdefnbehlcgeaaGreatDoor
