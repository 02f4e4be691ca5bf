/- code: instrMayBe of any instruction that bytes give.. code: checkInstrs.. -/
import Derived.Test.YtcdefnbehlcgeaaGreatDoorWbd
import Derived.Test.YtcdefnbehlcgeaaGreatDoorWbc
set_option maxHeartbeats 16000000
set_option maxRecDepth 20000
set_option linter.unusedSimpArgs false
namespace Go.Proofs.YtcdefnbehlcgeaaGreatDoor
open Go.RowKit
theorem op_class (n : Nat) : n = 1 ∨ n = 3 ∨ n = 4 ∨ n = 5 ∨ n = 17 ∨ n = 18 ∨ n = 19 ∨ n = 25 ∨ n = 26 ∨ n = 27 ∨ n = 28 ∨ n = 33 ∨ n = 34 ∨ (n ≠ 1 ∧ n ≠ 3 ∧ n ≠ 4 ∧ n ≠ 5 ∧ n ≠ 17 ∧ n ≠ 18 ∧ n ≠ 19 ∧ n ≠ 25 ∧ n ≠ 26 ∧ n ≠ 27 ∧ n ≠ 28 ∧ n ≠ 33 ∧ n ≠ 34) := by omega
theorem imay_all (i : In) (hg : i.Good) (nm : ByteArray) (FA : Option Addr) (nf cf : Nat) (L : Int) (st sa : Value) (F : Nat → Prop) (r : Bool) (w : World) (hn : nf ≤ 262144) (hL : 0 ≤ L ∧ L ≤ 32) (ht : TV w F i.t st) (ha : AL w F i.arms sa) (hF : ∀ b, F b → b < w.heap.size) (hk : KN w) (hr : mayI nf L i = r) :
 Calls Tryz.prog 48 #[.agg #[.string nm, .slice FA nf cf], .int .i64 L, .agg (ics i.op i.a i.b i.t st sa)] w fun e w' => e = .returned (.bool r) ∧ Only [] w w' := by
 obtain ⟨n, hop, hn1, hn2⟩ := hg.op
 have ha0 := hg.a0
 obtain ⟨A, c, rfl⟩ := ha.slice
 rcases i with ⟨op, a, b, t, arms⟩
 have hop : op = (n : Int) := hop
 have ha0 : 0 ≤ a := ha0
 have hb0 : op ≠ 33 → op ≠ 34 → b = 0 := hg.b0
 have hr0 : op ≠ 27 → op ≠ 33 → arms = [] := hg.r0
 have hr1 : ∀ a ∈ arms, a.Good := hg.r1
 have ht0 : op ≠ 1 → t = .zero := hg.t0
 have ht1 : op = 1 → t.Good := hg.t1
 have haz : hasA op ∨ a = 0 := hg.az
 have hb1 : op ≠ 33 → 0 ≤ b := hg.b1
 dsimp only at ht ha ⊢
 subst hop
 clear hg
 have hz : ((n : Int) ≠ 1) → t = .zero ∧ st = .slice none 0 0 := fun h => by
  obtain rfl := ht0 h
  exact ⟨rfl, (TV.leaf (by simp)).1 ht⟩
 rcases op_class n with rfl | rfl | rfl | rfl | rfl | rfl | rfl | rfl | rfl | rfl | rfl | rfl | rfl | hrest
 ·obtain rfl := hr0 (by decide) (by decide)
  obtain rfl := hb0 (by decide) (by decide)
  have h0 : a = 0 := by
   rcases haz with h | h
   ·unfold hasA at h; omega
   ·exact h
  subst h0
  obtain ⟨A9, m9, z9, rfl⟩ := ht.slice
  exact imay_push nm FA nf cf L A c t A9 m9 z9 F r w (ht1 rfl) ht hF hr
 ·obtain ⟨rfl, rfl⟩ := hz (by decide)
  obtain rfl := hr0 (by decide) (by decide)
  obtain rfl := hb0 (by decide) (by decide)
  exact imay_dup nm FA nf cf L A c a r w (by rw [← hr, decide_eq_true ha0, Bool.true_and]; rfl)
 ·obtain ⟨rfl, rfl⟩ := hz (by decide)
  obtain rfl := hr0 (by decide) (by decide)
  obtain rfl := hb0 (by decide) (by decide)
  exact imay_loc4 nm FA nf cf L A c a r w (by rw [← (show decide (a < L) = r from hr), decide_eq_true ha0, Bool.true_and]; exact decide_eq_decide.2 ⟨fun h => by omega, fun h => by omega⟩) hL
 ·obtain ⟨rfl, rfl⟩ := hz (by decide)
  obtain rfl := hr0 (by decide) (by decide)
  obtain rfl := hb0 (by decide) (by decide)
  exact imay_loc5 nm FA nf cf L A c a r w (by rw [← (show decide (a < L) = r from hr), decide_eq_true ha0, Bool.true_and]; exact decide_eq_decide.2 ⟨fun h => by omega, fun h => by omega⟩) hL
 ·obtain ⟨rfl, rfl⟩ := hz (by decide)
  obtain rfl := hr0 (by decide) (by decide)
  obtain rfl := hb0 (by decide) (by decide)
  exact imay_kind nm FA nf cf L A c a r w hr
 ·obtain ⟨rfl, rfl⟩ := hz (by decide)
  obtain rfl := hr0 (by decide) (by decide)
  obtain rfl := hb0 (by decide) (by decide)
  exact imay_seq18 nm FA nf cf L A c a r w (by rw [← hr, decide_eq_true ha0, Bool.true_and]; rfl)
 ·obtain ⟨rfl, rfl⟩ := hz (by decide)
  obtain rfl := hr0 (by decide) (by decide)
  obtain rfl := hb0 (by decide) (by decide)
  exact imay_seq19 nm FA nf cf L A c a r w (by rw [← hr, decide_eq_true ha0, Bool.true_and]; rfl)
 ·obtain ⟨rfl, rfl⟩ := hz (by decide)
  obtain rfl := hr0 (by decide) (by decide)
  obtain rfl := hb0 (by decide) (by decide)
  exact imay_jump25 nm FA nf cf L A c a r w hr
 ·obtain ⟨rfl, rfl⟩ := hz (by decide)
  obtain rfl := hr0 (by decide) (by decide)
  obtain rfl := hb0 (by decide) (by decide)
  exact imay_jump26 nm FA nf cf L A c a r w hr
 ·obtain ⟨rfl, rfl⟩ := hz (by decide)
  obtain rfl := hb0 (by decide) (by decide)
  exact imay_match nm FA nf cf L A c a arms.length arms F r w hr1 ha hF hk hr
 ·obtain ⟨rfl, rfl⟩ := hz (by decide)
  obtain rfl := hr0 (by decide) (by decide)
  obtain rfl := hb0 (by decide) (by decide)
  exact imay_call nm FA nf cf L A c a r w hn ha0 hr
 ·obtain ⟨rfl, rfl⟩ := hz (by decide)
  have hr : ((decide (a = 0) || decide (b ≠ -1)) && decide (-1 ≤ b) && decide (b ≤ 1048576) && armsOk L arms) = r := hr
  by_cases h0 : a = 0
  ·subst h0
   exact imay_recv_z nm FA nf cf L A c b arms.length arms F _ _ r w hr1 ha hF hk rfl rfl (by rw [← hr, decide_eq_true (p := (0 : Int) = 0) rfl, Bool.true_or, Bool.true_and])
  ·exact imay_recv_p nm FA nf cf L A c a b arms.length arms F _ _ r w hr1 ha hF hk h0 rfl rfl (by rw [← hr, decide_eq_false h0, Bool.false_or, Bool.and_assoc (decide (b ≠ -1)) (decide (-1 ≤ b))])
 ·obtain ⟨rfl, rfl⟩ := hz (by decide)
  obtain rfl := hr0 (by decide) (by decide)
  have hb : 0 ≤ b := hb1 (by decide)
  exact imay_spawn nm FA nf cf L A c a b _ _ r w hn ha0 rfl rfl (by rw [← (show (decide (a < (nf : Int)) && decide (b < 3)) = r from hr), decide_eq_true hb, Bool.true_and, show decide (b ≤ 2) = decide (b < 3) from decide_eq_decide.2 ⟨fun h => by omega, fun h => by omega⟩])
 ·obtain ⟨n1, n3, n4, n5, n17, n18, n19, n25, n26, n27, n28, n33, n34⟩ := hrest
  obtain ⟨rfl, rfl⟩ := hz (by omega)
  obtain rfl := hr0 (by omega) (by omega)
  obtain rfl := hb0 (by omega) (by omega)
  have h0 : a = 0 := by
   rcases haz with h | h
   ·unfold hasA at h; omega
   ·exact h
  subst h0
  have ne : ∀ k : Nat, n ≠ k → ((n : Int) == (k : Int)) = false := fun k h => by simp; omega
  refine imay_rest nm FA nf cf L A c (n : Int) r w (by simp [isOpB]; omega) (ne 1 n1) (ne 3 n3) (ne 4 n4) (ne 5 n5) (ne 17 n17) (ne 18 n18) (ne 19 n19) (ne 25 n25) (ne 26 n26) (ne 27 n27) (ne 28 n28) (ne 33 n33) (ne 34 n34) ?_
  rw [← hr]
  unfold mayI
  dsimp only
  rw [if_neg (show ¬ (n : Int) = 1 by omega), if_neg (show ¬ (n : Int) = 3 by omega), if_neg (show ¬ ((n : Int) = 4 ∨ (n : Int) = 5) by omega), if_neg (show ¬ (n : Int) = 17 by omega), if_neg (show ¬ ((n : Int) = 18 ∨ (n : Int) = 19) by omega), if_neg (show ¬ (n : Int) = 27 by omega), if_neg (show ¬ (n : Int) = 28 by omega), if_neg (show ¬ (n : Int) = 33 by omega), if_neg (show ¬ (n : Int) = 34 by omega)]
open Go.RowKit
def CkRel (w : World) (code : List In) (g : In → Int) (E : Int) (v : Value) (wr : World) : Prop :=
 ∃ j : Nat, v = .int .i64 j ∧ j ≤ code.length ∧ firstE (code.drop j) g = E ∧ Only [] w wr
def ToRel (w : World) (R : List Int) (p : Int → Bool) (B : Bool) (v : Value) (wr : World) : Prop :=
 ∃ j : Nat, v = .int .i64 j ∧ j ≤ R.length ∧ (R.drop j).all p = B ∧ w = wr
def CkE (w : World) (E : Int) (e : Ending) (w' : World) : Prop := ∃ x : Int, e = .returned (.tuple #[.int .i64 E, .int .i64 x]) ∧ Only [] w w'
theorem in_at {w : World} {F : Nat → Prop} {l : List In} {A : Option Addr} {n c : Nat} (h : IL w F l (.slice A n c)) {k : Nat} (hk : k < l.length) :
 ∃ bl off TA tn tc SA sn sc, A = some ⟨bl, off, none⟩ ∧ bl < w.heap.size ∧ F bl ∧ n = l.length ∧ TV w F (l[k]'hk).t (.slice TA tn tc) ∧ AL w F (l[k]'hk).arms (.slice SA sn sc) ∧ ∀ q u, ((ics (l[k]'hk).op (l[k]'hk).a (l[k]'hk).b (l[k]'hk).t (.slice TA tn tc) (.slice SA sn sc)).toList)[q]? = some u → w.cell? ⟨bl, off + k * 11 + q, none⟩ = some u := by
 obtain ⟨A', cap, hv, h1, h2, h3⟩ := h.mk in_len
 injection hv with hv1 hv2 hv3
 subst hv1 hv2
 rcases h3 with h3 | ⟨bl, off, rfl, h4, h5, h6⟩
 ·rw [h3] at hk; simp at hk
 ·obtain ⟨us, h7, h8⟩ := h6 k _ (List.getElem?_eq_getElem hk)
  obtain ⟨st, sa, rfl, h9, h10⟩ := in_cells _ h7
  obtain ⟨SA, sc, rfl⟩ := h10.slice
  obtain ⟨TA, tn, tc, rfl⟩ := h9.slice
  exact ⟨bl, off, TA, tn, tc, SA, _, sc, rfl, h4, h5, rfl, h9, h10, h8⟩
theorem instrs_any (nm : ByteArray) (FA : Option Addr) (nf cf : Nat) (fs : List Fu) (F : Nat → Prop) (k : Nat) (E : Int) (w : World) (hf : FL w F fs (.slice FA nf cf)) (hF : ∀ b, F b → b < w.heap.size) (hg : ∀ f ∈ fs, f.Good) (hk : k < fs.length) (hl : fs.length ≤ 262144) (h32 : (fs[k]'hk).locals ≤ 32) (hkn : KN w) (hE : insE fs.length (fs[k]'hk) = E) :
 Calls Tryz.prog 25 #[.agg #[.string nm, .slice FA nf cf], .int .i64 k] w fun e w' => CkE w E e w' := by
 have rs := store_com
 have hG := hg _ (List.getElem_mem hk)
 obtain ⟨bl, off, sc, rfl, h2, h3, rfl, h4, c0, c1, c2, c3⟩ := fcs_at hf hk
 obtain ⟨SA, scap, rfl⟩ := h4.slice
 have hL : 0 ≤ (fs[k]'hk).locals ∧ (fs[k]'hk).locals ≤ 32 := ⟨hG.locals, h32⟩
 have HCG := Lib.hid hG.code
 have hcl : (fs[k]'hk).code.length ≤ 262144 := hG.len
 unfold insE at hE
 clear hg h32
 have HE0 := Lib.hid hE
 clear hE
 generalize fs[k]'hk = f at *
 have HIn := Lib.hid h4
 have B0 := Lib.hid ((Bk.made w 24 #[.string nm, .slice (some ⟨bl, off, none⟩) fs.length cf]).alloc (.cells (fcs f (.slice SA f.code.length scap)) 45))
 have B1 := Lib.hid (Bk.madeAt (w := w.alloc (.cells #[.string nm, .slice (some ⟨bl, off, none⟩) fs.length cf] 24)) (t := 45) (cs := fcs f (.slice SA f.code.length scap)) (b := w.heap.size + 1) (by simp))
 have O0 := Lib.hid (((Only.refl [] w).alloc (.cells #[.string nm, .slice (some ⟨bl, off, none⟩) fs.length cf] 24)).alloc (.cells (fcs f (.slice SA f.code.length scap)) 45))
 obtain ⟨W0, hW0⟩ : ∃ W0, (w.alloc (.cells #[.string nm, .slice (some ⟨bl, off, none⟩) fs.length cf] 24)).alloc (.cells (fcs f (.slice SA f.code.length scap)) 45) = W0 := ⟨_, rfl⟩
 rw [hW0] at B0 B1 O0
 have HW0 := Lib.hid hW0
 have ca : ∀ o, (w.alloc o).cell? ⟨bl, off + k * 4, none⟩ = some (.string f.name) ∧ (w.alloc o).cell? ⟨bl, off + k * 4 + 1, none⟩ = some (.int .i64 f.params) ∧ (w.alloc o).cell? ⟨bl, off + k * 4 + 2, none⟩ = some (.int .i64 f.locals) ∧ (w.alloc o).cell? ⟨bl, off + k * 4 + 3, none⟩ = some (.slice SA f.code.length scap) := fun o =>
  ⟨(((Only.refl [] w).alloc o).cell (p := ⟨bl, off + k * 4, none⟩) h2 (by simp)).trans c0, (((Only.refl [] w).alloc o).cell (p := ⟨bl, off + k * 4 + 1, none⟩) h2 (by simp)).trans c1, (((Only.refl [] w).alloc o).cell (p := ⟨bl, off + k * 4 + 2, none⟩) h2 (by simp)).trans c2, (((Only.refl [] w).alloc o).cell (p := ⟨bl, off + k * 4 + 3, none⟩) h2 (by simp)).trans c3⟩
 obtain ⟨x0, x1, x2, x3⟩ := ca (.cells #[.string nm, .slice (some ⟨bl, off, none⟩) fs.length cf] 24)
 have hb0 := B0.out.lt
 have hkl : (k : Int) < (fs.length : Int) := by omega
 have HF := Lib.hid hF
 have HK := Lib.hid hkn
 obtain ⟨nf, hnf⟩ : ∃ nf, fs.length = nf := ⟨_, rfl⟩
 rw [hnf] at B0 HW0 HE0 hkl hl x0 x1 x2 x3 ⊢
 clear hW0 hf hF hkn ca c0 c1 c2 c3 hk hnf hG
 go_enter Tryz.func25, Tryz.ntmps25
 go_wp2_with fail
 rw [HW0.out]
 have z3 := B1.out.cell0 (i := 3) rfl
 go_wp2_with fail
 go_loopw [19] (fun v wr => CkRel W0 f.code (inE nf f) E v wr) (fun v _ => f.code.length - (intOf v).toNat)
 case atStart => exact ⟨0, rfl, Nat.zero_le _, HE0.out, Only.refl _ _⟩
 case round =>
  obtain ⟨j, rfl, hj, hq, ho⟩ := hrel
  have HO := Lib.hid ho
  have HQ := Lib.hid hq
  have OW := Lib.hid (O0.out.trans ho (by simp))
  have BM := Lib.hid (B0.out.only ho (by simp))
  have BF := Lib.hid (B1.out.only ho (by simp))
  clear ho hq z3
  by_cases hjl : j < f.code.length
  ·have hin := HIn.out
   obtain ⟨ib, io, TA, tn, tc, AA, an, ac, hA, hib, hFi, -, htv, hal, hcs⟩ := in_at hin hjl
   subst hA
   have HG := Lib.hid (HCG.out _ (List.getElem_mem hjl))
   have hcs2 : ∀ q u, ((ics (f.code[j]'hjl).op (f.code[j]'hjl).a (f.code[j]'hjl).b (f.code[j]'hjl).t (.slice TA tn tc) (.slice AA an ac)).toList)[q]? = some u → wr.cell? ⟨ib, io + j * 11 + q, none⟩ = some u := fun q u hu => (OW.out.cell (p := ⟨ib, io + j * 11 + q, none⟩) hib (by simp)).trans (hcs q u hu)
   obtain ⟨r0, r1, r2, r3, r4, r5, r6, r7, r8, r9, r10⟩ := in_eleven hcs2
   have HD := Lib.hid (show f.code.drop j = f.code[j]'hjl :: f.code.drop (j + 1) from List.drop_eq_getElem_cons hjl)
   have HTV := Lib.hid (htv.same OW.out)
   have HAL := Lib.hid (hal.same OW.out)
   clear hcs hcs2 htv hal hin
   generalize f.code[j]'hjl = i at *
   have hq2 := HQ.out
   rw [HD.out, firstE_cons] at hq2
   have HQ2 := Lib.hid hq2
   obtain ⟨r, hr⟩ : ∃ r, mayI nf f.locals i = r := ⟨_, rfl⟩
   have hsz := OW.out.size
   have oA : Only [] wr (wr.alloc (.cells (ics i.op i.a i.b i.t (.slice TA tn tc) (.slice AA an ac)) 55)) := (Only.refl [] wr).alloc _
   have HM := Lib.hid (imay_all i HG.out nm (some ⟨bl, off, none⟩) nf cf f.locals (.slice TA tn tc) (.slice AA an ac) F r _ hl hL (HTV.out.same oA) (HAL.out.same oA) (fun b hb => Nat.lt_of_lt_of_le (HF.out b hb) (Nat.le_trans hsz oA.size)) ((HK.out.same OW.out).same oA) hr)
   have HJ := Lib.hid (fun w1 (o1 : Only [] wr w1) => jumps_any i HG.out.rl (.slice TA tn tc) AA an ac F w1 (HAL.out.same o1))
   have OA := Lib.hid oA
   have BI := Lib.hid (Bk.made wr 55 (ics i.op i.a i.b i.t (.slice TA tn tc) (.slice AA an ac)))
   have m0 := (BM.out.alloc (.cells (ics i.op i.a i.b i.t (.slice TA tn tc) (.slice AA an ac)) 55)).cell0 (i := 0) rfl
   have m1 := (BM.out.alloc (.cells (ics i.op i.a i.b i.t (.slice TA tn tc) (.slice AA an ac)) 55)).cell0 (i := 1) rfl
   have g2 := (BF.out.alloc (.cells (ics i.op i.a i.b i.t (.slice TA tn tc) (.slice AA an ac)) 55)).cell0 (i := 2) rfl
   have HR := Lib.hid hr
   obtain ⟨R, hR⟩ : ∃ R, i.to = R := ⟨_, rfl⟩
   rw [hR] at HJ
   have HRT := Lib.hid hR
   clear hq2 oA hr hR
   go_wp2_with fail
   (with_reducible refine (HM.out).mono ?_)
   rintro e w1 ⟨rfl, o1⟩
   have O1 := Lib.hid (OA.out.trans o1 (by simp))
   have BI1 := Lib.hid (BI.out.only o1 (by simp))
   have BF1 := Lib.hid (BF.out.only O1.out (by simp))
   obtain ⟨y0, y1, y2, y3, y4, y5, y6, y7, y8, y9, y10⟩ := BI1.out.elevenH
   clear o1 m0 m1 g2 r0 r1 r2 r3 r4 r5 r6 r7 r8 r9 r10
   cases r with
   | false =>
    have HE := Lib.hid (show (61 : Int) = E by
     rw [← HQ2.out]
     have : inE nf f i = 61 := by unfold inE; rw [if_pos HR.out]
     rw [this, if_pos (by decide)])
    go_wp2_with fail
    exact bodyPost_ret (v := .tuple #[.int .i64 61, .int .i64 j]) (by simp [results, Tryz.results25, go_sem]) rfl ⟨j, by rw [HE.out], OW.out.trans O1.out (by simp)⟩
   | true =>
    go_wp2_with fail
    (with_reducible refine (HJ.out _ O1.out).mono ?_)
    rintro e w2 ⟨RA, rc, rfl, hir, o2⟩
    obtain ⟨RA', rc', hv, hlies⟩ := hir.slice
    injection hv with hv1 hv2 hv3
    subst hv1 hv3
    have O2 := Lib.hid (O1.out.trans o2 (by simp))
    have BF2 := Lib.hid (BF1.out.only o2 (by simp))
    have HL := Lib.hid hlies
    have f3 := BF2.out.cell0 (i := 3) rfl
    have HRl : R.length ≤ 262145 := by
     rw [← HRT.out]
     unfold In.to
     have := HG.out.rl
     rw [List.length_append, List.length_map]
     split <;> simp <;> omega
    obtain ⟨B, hB⟩ : ∃ B, R.all (fun z => decide (0 ≤ z) && decide (z < (f.code.length : Int))) = B := ⟨_, rfl⟩
    have HB := Lib.hid hB
    clear hir hlies o2 hB y0 y1 y2 y3 y4 y5 y6 y7 y8 y9 y10
    go_wp2_with fail
    go_loopw [34] (fun v wq => ToRel w2 R (fun z => decide (0 ≤ z) && decide (z < (f.code.length : Int))) B v wq) (fun v _ => R.length - (intOf v).toNat)
    case atStart => exact ⟨0, rfl, Nat.zero_le _, HB.out, rfl⟩
    case round =>
     obtain ⟨q, rfl, hq, hqa, rfl⟩ := hrel
     have HQA := Lib.hid hqa
     clear hqa
     by_cases hql : q < R.length
     ·obtain ⟨z, hz⟩ : ∃ z, R[q]? = some z := ⟨_, List.getElem?_eq_getElem hql⟩
      obtain ⟨g, rfl, cz, _⟩ := HL.out q z hz
      have cz' : w2.cell? ⟨g, 0 + q, none⟩ = some (.int .i64 z) := by rw [Nat.zero_add]; exact cz
      have hqa := HQA.out
      rw [List.drop_eq_getElem_cons hql, List.all_cons, show R[q]'hql = z from by rw [List.getElem?_eq_getElem hql] at hz; exact Option.some.inj hz] at hqa
      have HQB := Lib.hid hqa
      obtain ⟨bz, hbz⟩ : ∃ bz, (decide (0 ≤ z) && decide (z < (f.code.length : Int))) = bz := ⟨_, rfl⟩
      rw [hbz] at HQB
      have HW := Lib.hid (fun w => isWithin_any z 0 ((f.code.length : Int) - 1) w)
      rw [show (decide (0 ≤ z) && decide (z ≤ (f.code.length : Int) - 1)) = bz by rw [← hbz, show decide (z ≤ (f.code.length : Int) - 1) = decide (z < (f.code.length : Int)) from decide_eq_decide.2 ⟨fun h => by omega, fun h => by omega⟩]] at HW
      have q1 : IntKind.i64.wrap ((f.code.length : Int) - 1) = (f.code.length : Int) - 1 := IntWalk.i64_in _ (by omega)
      clear hqa hbz hz
      cases bz with
      | false =>
       have HE := Lib.hid (show (62 : Int) = E by
        rw [← HQ2.out]
        have : inE nf f i = 62 := by
         unfold inE
         rw [if_neg (by rw [HR.out]; decide), HRT.out, HB.out, ← HQB.out, Bool.false_and, if_pos rfl]
        rw [this, if_pos (by decide)])
       go_wp2_with fail
       (with_reducible refine (HW.out _).mono ?_)
       rintro e w3 ⟨rfl, rfl⟩
       go_wp2_with fail
       exact bodyPost_ret (v := .tuple #[.int .i64 62, .int .i64 j]) (by simp [results, Tryz.results25, go_sem]) rfl ⟨j, by rw [HE.out], OW.out.trans O2.out (by simp)⟩
      | true =>
       have HX := Lib.hid (show ToRel w2 R (fun z => decide (0 ≤ z) && decide (z < (f.code.length : Int))) B (.int .i64 ((q : Int) + 1)) w2 from ⟨q + 1, by go_num, by omega, by simpa using HQB.out, rfl⟩)
       go_wp2_with fail
       (with_reducible refine (HW.out _).mono ?_)
       rintro e w3 ⟨rfl, rfl⟩
       go_wp2_with fail
       go_roundw
       case rel => exact HX.out
       case measure => simp [intOf]; omega
     ·have hqe : q = R.length := by omega
      subst hqe
      have hBt : true = B := by rw [← HQA.out, List.drop_length]; rfl
      have HX := Lib.hid (show CkRel W0 f.code (inE nf f) E (.int .i64 ((j : Int) + 1)) w2 from ⟨j + 1, by go_num, by omega, by
       rw [← HQ2.out]
       have : inE nf f i = 0 := by
        unfold inE
        rw [if_neg (by rw [HR.out]; decide), HRT.out, HB.out, ← hBt, if_neg (by decide)]
       rw [this, if_neg (by decide)], HO.out.trans O2.out (by simp)⟩)
      clear hBt hq
      go_wp2_with fail
      go_roundw
      case rel => exact HX.out
      case measure => simp [intOf]; omega
  ·have hje : j = f.code.length := by omega
   subst hje
   have HE := Lib.hid (show (0 : Int) = E by rw [← HQ.out, List.drop_length]; rfl)
   clear hj
   go_wp2_with fail
   exact bodyPost_ret (v := .tuple #[.int .i64 0, .int .i64 0]) (by simp [results, Tryz.results25, go_sem]) rfl ⟨0, by rw [HE.out], OW.out⟩
end Go.Proofs.YtcdefnbehlcgeaaGreatDoor
