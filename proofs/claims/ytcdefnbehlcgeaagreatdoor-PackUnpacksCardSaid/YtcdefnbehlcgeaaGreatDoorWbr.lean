/- The document's reader of a pattern (two). -/
import Derived.Test.YtcdefnbehlcgeaaGreatDoorWbq
set_option maxHeartbeats 16000000
set_option maxRecDepth 20000
set_option linter.unusedSimpArgs false
set_option linter.unusedVariables false
namespace Go.Proofs.YtcdefnbehlcgeaaGreatDoor
open Go.RowKit
theorem dpat_go5 (s : ByteArray) (d0 : Nat) (ih : ∀ d, d0 = d + 1 → DPatOk s d) (b p v : Nat) (w : World) (hv : v + d0 = 64) (hb : Rdc w b s p (-1)) (hp : p ≤ s.size) (hs : s.size ≤ 262144) (q d : Nat) (hd : d0 = d + 1) (h1 : rCnt s p = .ok 5 q) :
 Calls Tryz.prog 55 #[.pointer (some ⟨b, 0, none⟩), .int .i64 v] w fun e w' => DS b s 11 QT.ds (rPat s d0 p) w e w' := by
 have hbl := Bk.lt hb
 have KS0 : Hid (DP s b w.heap.size w ((w.alloc (.cells ZQ 88)).alloc (.cells ZQ 88)) p (-1) (qD 0 0 T.zero.ds noD noD) ZQ) := Lib.hid (DSt.made hb (qD_dvs _ _ (ZT7 _ _) (DV.v.2 rfl) (DV.v.2 rfl)))
 obtain ⟨R, hR⟩ : ∃ R, rPat s d0 p = R := ⟨_, rfl⟩
 rw [hR]
 obtain ⟨b0, b1, b2⟩ := Rdc.three KS0.out.rd
 have HK := Lib.hid (dcount_any b s p _ KS0.out.rd hp hs)
 subst hd
 rw [h1] at HK
 have HIH := Lib.hid (ih d rfl)
 have HR : Hid (rPK (fun p => rPat s d p) s 5 q = R) := Lib.hid (by rw [← hR]; simp only [rPat, rOne_ok h1 (by omega : 1 ≤ 5 ∧ 5 ≤ 6), Rs.bind])
 have n64 : ¬ (64 : Int) ≤ (v : Int) := by omega
 clear hR h1 ih
 go_enter Tryz.func55, Tryz.ntmps55
 go_wp2_with fail
 clear b0 b1 b2
 (with_reducible refine HK.out.mono ?_)
 rintro e w1 ⟨rfl, g3, g4, hq⟩
 have KC := Lib.hid (KS0.out.call g4 g3 hbl)
 have KA := Lib.hid (KC.out.put (l' := qD 5 0 T.zero.ds noD noD) (us' := #[.int .i64 5, .int .i64 0, .int .i64 0, .int .i64 0, .complex .f64 0 0, .string ⟨#[]⟩, .int .i64 0, .int .i64 0, .slice none 0 0, .slice none 0 0, .slice none 0 0]) rfl hbl 0 (.int .i64 5) rfl (qD_dvs _ _ (ZT7 _ _) (DV.v.2 rfl) (DV.v.2 rfl)))
 obtain ⟨x0, x1, x2, x3, x4, x5, x6, x7, x8, x9, x10⟩ := Bk.eleven KC.out.fr.t
 obtain ⟨c0, c1, c2⟩ := Rdc.three KC.out.rd
 have k0 := KC.out.fr.t.free 0
 have k1 := KC.out.fr.t.free 1
 have k2 := KC.out.fr.t.free 2
 have k3 := KC.out.fr.t.free 3
 have k4 := KC.out.fr.t.free 4
 have k5 := KC.out.fr.t.free 5
 have k6 := KC.out.fr.t.free 6
 have k7 := KC.out.fr.t.free 7
 have k8 := KC.out.fr.t.free 8
 have k9 := KC.out.fr.t.free 9
 have k10 := KC.out.fr.t.free 10
 clear g3 g4 HK KS0
 have HK := Lib.hid (dmany_any b s q _ KA.out.rd hq hs)
 cases hr : rLen s q with
 | bad t =>
  have ht0 : ¬ (t : Int) < 0 := by omega
  have hre : R = .bad t := by rw [← HR.out]; simp [rPK, rSome, hr, Rs.map, Rs.bind]
  have HRE := Lib.hid hre
  rw [hr] at HK
  clear HR hr hre
  go_wp2_with fail
  clear x0 x1 x2 x3 x4 x5 x6 x7 x8 x9 x10 c0 c1 c2 k0 k1 k2 k3 k4 k5 k6 k7 k8 k9 k10
  (with_reducible refine HK.out.mono ?_)
  rintro e w2 ⟨rfl, ⟨p2, g3⟩, g4⟩
  have KN := Lib.hid (KA.out.call g4 g3 hbl)
  obtain ⟨x0, x1, x2, x3, x4, x5, x6, x7, x8, x9, x10⟩ := Bk.eleven KN.out.fr.t
  obtain ⟨c0, c1, c2⟩ := Rdc.three KN.out.rd
  have k0 := KN.out.fr.t.free 0
  have k1 := KN.out.fr.t.free 1
  have k2 := KN.out.fr.t.free 2
  have k3 := KN.out.fr.t.free 3
  have k4 := KN.out.fr.t.free 4
  have k5 := KN.out.fr.t.free 5
  have k6 := KN.out.fr.t.free 6
  have k7 := KN.out.fr.t.free 7
  have k8 := KN.out.fr.t.free 8
  have k9 := KN.out.fr.t.free 9
  have k10 := KN.out.fr.t.free 10
  clear g3 g4 HK
  go_wp2_with fail
  refine wp_loop_rounds 1 ?_
  rw [rounds_succ]
  have hone : (#[.int .i64 5, .int .i64 0, .int .i64 0, .int .i64 0, .complex .f64 0 0, .string ⟨#[]⟩, .int .i64 0, .int .i64 0, .slice none 0 0, .slice none 0 0, .slice none 0 0] : Array Value).all (·.oneCell') = true := by simp [Value.oneCell']
  have HE := Lib.hid (fun W' => DSt.fin (w' := W') KN.out rfl hbl)
  go_wp2_with (first
   | (refine wpList_load_row (by rfl) 88 _ (by rfl) (w.heap.size + 1) (by rfl) 88 #[.int .i64 5, .int .i64 0, .int .i64 0, .int .i64 0, .complex .f64 0 0, .string ⟨#[]⟩, .int .i64 0, .int .i64 0, .slice none 0 0, .slice none 0 0, .slice none 0 0] (0, 0) _ KN.out.fr.t Tryz.underlying88 (by rfl) (by rw [size11]; rfl) ?_)
   | (refine wpList_store_row (by rfl) _ _ _ (by rfl) w.heap.size #[.int .i64 5, .int .i64 0, .int .i64 0, .int .i64 0, .complex .f64 0 0, .string ⟨#[]⟩, .int .i64 0, .int .i64 0, .slice none 0 0, .slice none 0 0, .slice none 0 0] (by rfl) (by rfl) 88 ZQ KN.out.fr.o (by rw [size11]; rfl) (by rfl) hone ?_; have HE2 := HE.out _ rfl; generalize World.setRow _ _ _ = W5 at HE2 ⊢; clear HE; obtain ⟨e1, e2⟩ := HE2; have E2 := Lib.hid e2; obtain ⟨z0, z1, z2, z3, z4, z5, z6, z7, z8, z9, z10⟩ := Bk.eleven e1; clear e1 e2))
  refine bodyPost_ret (v := .agg #[.int .i64 5, .int .i64 0, .int .i64 0, .int .i64 0, .complex .f64 0 0, .string ⟨#[]⟩, .int .i64 0, .int .i64 0, .slice none 0 0, .slice none 0 0, .slice none 0 0]) (by simp [results, Tryz.results55, go_sem, z0, z1, z2, z3, z4, z5, z6, z7, z8, z9, z10]) rfl ?_
  rw [HRE.out]
  exact ⟨#[.int .i64 5, .int .i64 0, .int .i64 0, .int .i64 0, .complex .f64 0 0, .string ⟨#[]⟩, .int .i64 0, .int .i64 0, .slice none 0 0, .slice none 0 0, .slice none 0 0], _, _, _, rfl, rfl, qD_len _ _ _ _ zt_len, qD_one _ _ zt_one no_one no_one, E2.out.1, E2.out.2.1, E2.out.2.2, rfl⟩
 | ok n q2 =>
  obtain ⟨hn1, hq2, -⟩ := rLen_bd hr
  rw [hr] at HK
  obtain ⟨R2, hR2⟩ : ∃ R2, rMany (fun p => rPat s d p) n q2 = R2 := ⟨_, rfl⟩
  have HRR : Hid (R = R2.map (fun l => .seq 5 l [])) := Lib.hid (by rw [← HR.out, ← hR2]; simp [rPK, rSome, hr, Rs.map, Rs.bind])
  have HR2 := Lib.hid hR2
  clear HR hr hR2
  go_wp2_with fail
  clear x0 x1 x2 x3 x4 x5 x6 x7 x8 x9 x10 c0 c1 c2 k0 k1 k2 k3 k4 k5 k6 k7 k8 k9 k10
  (with_reducible refine HK.out.mono ?_)
  rintro e w2 ⟨rfl, g3, g4, g5⟩
  have KC := Lib.hid (KA.out.call g4 g3 hbl)
  have hsz2 := Bk.lt KC.out.fr.t
  clear g3 g4 HK
  go_wp2_with fail
  go_loopw [8] (fun iv wr => DPLp s b w.heap.size w 5 n (fun p => rPat s d p) R2 iv wr) (fun iv _ => n - (intOf iv).toNat)
  case atStart => exact ⟨[], .slice none 0 0, q2, -1, rfl, Nat.zero_le _, KC.out.fr, KC.out.rd, KC.out.on, OwnC.nil _ _ _, .inl ⟨rfl, hq2, [], rfl, rfl, by rw [← HR2.out]; show Rs.map _ (rMany _ (n - 0) q2) = _; rw [Nat.sub_zero]; cases rMany (fun p => rPat s d p) n q2 <;> rfl⟩⟩
  case round =>
   obtain ⟨cs, lv, p2, bd, rfl, hcn, h1, h2, h3, h4, h6⟩ := hrel
   obtain ⟨A, cap, hlv⟩ := h4.form
   subst hlv
   have KL : Hid (LW KPt 88 ZQ (fun lv => #[.int .i64 5, .int .i64 0, .int .i64 0, .int .i64 0, .complex .f64 0 0, .string ⟨#[]⟩, .int .i64 0, .int .i64 0, .slice none 0 0, lv, .slice none 0 0]) s b w.heap.size w wr (.slice A cs.length cap) cs p2 bd) := Lib.hid ⟨h1, h2, h3, h4⟩
   obtain ⟨x0, x1, x2, x3, x4, x5, x6, x7, x8, x9, x10⟩ := Bk.eleven h1.t
   obtain ⟨c0, c1, c2⟩ := Rdc.three h2
   have k9 := h1.t.free 9
   have hsw := h3.size
   have hszr := Bk.lt h1.t
   clear HR2 KC KA h1 h2 h3 h4
   rcases h6 with ⟨rfl, hp2, xs, hxl, hxc, hxr⟩ | ⟨t, rfl, hRb⟩
   ·by_cases hlt : cs.length < n
    ·have hl' : (cs.length : Int) < (n : Int) := by omega
     have HC : Hid (∀ W, Rdc W b s p2 (-1) → Calls Tryz.prog 55 #[.pointer (some ⟨b, 0, none⟩), .int .i64 (IntKind.i64.wrap ((v : Int) + 1))] W fun e w' => DS b s 11 QT.ds (rPat s d p2) W e w') := Lib.hid (fun W h => by
      have := HIH.out b p2 (v + 1) W (by omega) h hp2 hs
      rwa [show ((v + 1 : Nat) : Int) = IntKind.i64.wrap ((v : Int) + 1) by rw [wrapEq, wrap64_in (by omega) (by omega)]; omega] at this)
     have hrm : rMany (fun p => rPat s d p) (n - cs.length) p2 = (rPat s d p2).bind fun x q => (rMany (fun p => rPat s d p) (n - (cs.length + 1)) q).bind fun l r => .ok (x :: l) r := by
      rw [show n - cs.length = (n - (cs.length + 1)) + 1 by omega]
      rfl
     rw [hrm] at hxr
     have KX := Lib.hid hxr
     have KY := Lib.hid hxc
     have hcl : cs.length ≤ 262144 := by omega
     clear hrm hxr hxc
     go_wp2_with fail
     go_region_law (first
      | (go_simp; go_at_call 55; (with_reducible refine (HC.out _ (Bk.drew KL.out.rd)).mono ?_); rintro e w3 ⟨us, l3, p3, bd3, rfl, hus, hl3, ho3, hd3, hr3, on3, hst3⟩; obtain ⟨v0, v1, v2, v3, v4, v5, v6, v7, v8, v9, v10, rfl⟩ := eleven_of hus; have L3' := KL.out.call ((Only.drew (Only.refl [b] wr)).trans on3 (fun i hi => .inl hi)) hr3 hbl; have s3 := L3'.fr.t.cell0 (i := 9) rfl; have s4 := (L3'.alloc (.cells #[v0, v1, v2, v3, v4, v5, v6, v7, v8, v9, v10] 88)).fr.t.cell0 (i := 9) rfl; have sz3 := on3.size; have L3 := Lib.hid (L3'.alloc (.cells #[v0, v1, v2, v3, v4, v5, v6, v7, v8, v9, v10] 88)); have D3 := Lib.hid (DVs.only ((Only.refl [] w3).alloc (.cells #[v0, v1, v2, v3, v4, v5, v6, v7, v8, v9, v10] 88)) (by simp) (fun _ h => h) hd3); have HO3 := Lib.hid ho3; have ST3 := Lib.hid hst3; clear hd3 hr3 on3 hst3 ho3 L3')
      | (refine step_appC KPt (by rfl) _ _ (by rfl) (base := w.heap.size + 2) (v := .slice A cs.length cap) (cs := cs) (by rfl) L3.out.own _ #[v0, v1, v2, v3, v4, v5, v6, v7, v8, v9, v10] l3 (by rfl) (Bk.newAt (by simp)) wr (by rw [size_al]; exact Nat.le_succ_of_le sz3) (fun g hg => (KL.out.own.block hg).2) (by omega) D3.out hl3 HO3.out hcl _ rfl ?_; intro g5 cap5 w5 hown hgrow; have GG := LW.gro L3.out hown hgrow rfl hbl 9 rfl; have y9 := GG.1.t.cell0 (i := 9) rfl; have fy9 := GG.1.t.free 9; have G2 := Lib.hid GG.2; clear GG hown hgrow)
      | fail)
     all_goals
      go_wp2_with fail
      go_roundw
      case rel =>
       refine ⟨cs ++ [⟨l3, hl3, HO3.out⟩], _, p3, bd3, by simp, by simp; omega, G2.out.fr, G2.out.rd, G2.out.on, G2.out.own, ?_⟩
       have hst := ST3.out
       have hxr := KX.out
       cases ho : rPat s d p2 with
       | ok x t =>
        rw [ho] at hst hxr
        obtain ⟨rfl, rfl, rfl, hps⟩ := hst
        refine .inl ⟨rfl, hps, xs ++ [x], by simp [hxl], by simp [KY.out], ?_⟩
        rw [← hxr]
        simp only [Rs.map, Rs.bind, List.length_append, List.length_cons, List.length_nil]
        cases rMany (fun p => rPat s d p) (n - (cs.length + 1)) p3 <;> simp
       | bad t =>
        rw [ho] at hst hxr
        exact .inr ⟨t, hst, by rw [← hxr]; rfl⟩
      case measure =>
       simp [intOf]
       omega
    ·have hl' : ¬ (cs.length : Int) < (n : Int) := by omega
     have hr2 : R2 = .ok xs p2 := by
      rw [← hxr, show n - cs.length = 0 by omega]
      simp [rMany, Rs.map, Rs.bind]
     have KN : Hid (DP s b w.heap.size w wr p2 (-1) (qD 5 0 T.zero.ds (.sl cs.length (cs.flatMap fun c => c.1)) (.sl 0 [])) #[.int .i64 5, .int .i64 0, .int .i64 0, .int .i64 0, .complex .f64 0 0, .string ⟨#[]⟩, .int .i64 0, .int .i64 0, .slice none 0 0, .slice A cs.length cap, .slice none 0 0]) := Lib.hid ⟨KL.out.fr, KL.out.rd, KL.out.on, qD_dvs _ _ (ZT7 _ _) KL.out.own.dv (DV.none0 _ _)⟩
     have KY := Lib.hid hxc
     have KZ := Lib.hid hxl
     clear hxr hxc hxl
     have hre : R = .ok (.seq 5 xs []) p2 := by rw [HRR.out, hr2]; rfl
     have HRE := Lib.hid hre
     clear hre hr2
     have hone : (#[.int .i64 5, .int .i64 0, .int .i64 0, .int .i64 0, .complex .f64 0 0, .string ⟨#[]⟩, .int .i64 0, .int .i64 0, .slice none 0 0, .slice A cs.length cap, .slice none 0 0] : Array Value).all (·.oneCell') = true := by simp [Value.oneCell']
     have HE := Lib.hid (fun W' => DSt.fin (w' := W') KN.out rfl hbl)
     go_wp2_with (first
      | (refine wpList_load_row (by rfl) 88 _ (by rfl) (w.heap.size + 1) (by rfl) 88 #[.int .i64 5, .int .i64 0, .int .i64 0, .int .i64 0, .complex .f64 0 0, .string ⟨#[]⟩, .int .i64 0, .int .i64 0, .slice none 0 0, .slice A cs.length cap, .slice none 0 0] (0, 0) _ KN.out.fr.t Tryz.underlying88 (by rfl) (by rw [size11]; rfl) ?_)
      | (refine wpList_store_row (by rfl) _ _ _ (by rfl) w.heap.size #[.int .i64 5, .int .i64 0, .int .i64 0, .int .i64 0, .complex .f64 0 0, .string ⟨#[]⟩, .int .i64 0, .int .i64 0, .slice none 0 0, .slice A cs.length cap, .slice none 0 0] (by rfl) (by rfl) 88 ZQ KN.out.fr.o (by rw [size11]; rfl) (by rfl) hone ?_; have HE2 := HE.out _ rfl; generalize World.setRow _ _ _ = W5 at HE2 ⊢; clear HE; obtain ⟨e1, e2⟩ := HE2; have E2 := Lib.hid e2; obtain ⟨z0, z1, z2, z3, z4, z5, z6, z7, z8, z9, z10⟩ := Bk.eleven e1; clear e1 e2))
     refine bodyPost_ret (v := .agg #[.int .i64 5, .int .i64 0, .int .i64 0, .int .i64 0, .complex .f64 0 0, .string ⟨#[]⟩, .int .i64 0, .int .i64 0, .slice none 0 0, .slice A cs.length cap, .slice none 0 0]) (by simp [results, Tryz.results55, go_sem, z0, z1, z2, z3, z4, z5, z6, z7, z8, z9, z10]) rfl ?_
     rw [HRE.out]
     exact ⟨#[.int .i64 5, .int .i64 0, .int .i64 0, .int .i64 0, .complex .f64 0 0, .string ⟨#[]⟩, .int .i64 0, .int .i64 0, .slice none 0 0, .slice A cs.length cap, .slice none 0 0], _, _, _, rfl, rfl, qD_len _ _ _ _ zt_len, qD_one _ _ zt_one (show D.One (.sl _ _) from trivial) (show D.One (.sl _ _) from trivial), E2.out.1, E2.out.2.1, E2.out.2.2, ⟨by simp only [QT.ds, KZ.out, qdss_flat, KY.out, List.length_nil, List.flatMap_nil], rfl, rfl, hp2⟩⟩
   ·have ht0 : ¬ (t : Int) < 0 := by omega
    have htd : decide ((t : Int) < 0) = false := decide_eq_false ht0
    have ht1 : decide ((0 : Int) ≤ (t : Int)) = true := decide_eq_true (by omega)
    have hre : R = .bad t := by rw [HRR.out, hRb]; rfl
    have HRE := Lib.hid hre
    have KN : Hid (DP s b w.heap.size w wr p2 (t : Int) (qD 5 0 T.zero.ds (.sl cs.length (cs.flatMap fun c => c.1)) (.sl 0 [])) #[.int .i64 5, .int .i64 0, .int .i64 0, .int .i64 0, .complex .f64 0 0, .string ⟨#[]⟩, .int .i64 0, .int .i64 0, .slice none 0 0, .slice A cs.length cap, .slice none 0 0]) := Lib.hid ⟨KL.out.fr, KL.out.rd, KL.out.on, qD_dvs _ _ (ZT7 _ _) KL.out.own.dv (DV.none0 _ _)⟩
    clear hre hRb
    by_cases hlt : cs.length < n
    ·have hl' : (cs.length : Int) < (n : Int) := by omega
     have hone : (#[.int .i64 5, .int .i64 0, .int .i64 0, .int .i64 0, .complex .f64 0 0, .string ⟨#[]⟩, .int .i64 0, .int .i64 0, .slice none 0 0, .slice A cs.length cap, .slice none 0 0] : Array Value).all (·.oneCell') = true := by simp [Value.oneCell']
     have HE := Lib.hid (fun W' => DSt.fin (w' := W') KN.out rfl hbl)
     go_wp2_with (first
      | (refine wpList_load_row (by rfl) 88 _ (by rfl) (w.heap.size + 1) (by rfl) 88 #[.int .i64 5, .int .i64 0, .int .i64 0, .int .i64 0, .complex .f64 0 0, .string ⟨#[]⟩, .int .i64 0, .int .i64 0, .slice none 0 0, .slice A cs.length cap, .slice none 0 0] (0, 0) _ KN.out.fr.t Tryz.underlying88 (by rfl) (by rw [size11]; rfl) ?_)
      | (refine wpList_store_row (by rfl) _ _ _ (by rfl) w.heap.size #[.int .i64 5, .int .i64 0, .int .i64 0, .int .i64 0, .complex .f64 0 0, .string ⟨#[]⟩, .int .i64 0, .int .i64 0, .slice none 0 0, .slice A cs.length cap, .slice none 0 0] (by rfl) (by rfl) 88 ZQ KN.out.fr.o (by rw [size11]; rfl) (by rfl) hone ?_; have HE2 := HE.out _ rfl; generalize World.setRow _ _ _ = W5 at HE2 ⊢; clear HE; obtain ⟨e1, e2⟩ := HE2; have E2 := Lib.hid e2; obtain ⟨z0, z1, z2, z3, z4, z5, z6, z7, z8, z9, z10⟩ := Bk.eleven e1; clear e1 e2))
     refine bodyPost_ret (v := .agg #[.int .i64 5, .int .i64 0, .int .i64 0, .int .i64 0, .complex .f64 0 0, .string ⟨#[]⟩, .int .i64 0, .int .i64 0, .slice none 0 0, .slice A cs.length cap, .slice none 0 0]) (by simp [results, Tryz.results55, go_sem, z0, z1, z2, z3, z4, z5, z6, z7, z8, z9, z10]) rfl ?_
     rw [HRE.out]
     exact ⟨#[.int .i64 5, .int .i64 0, .int .i64 0, .int .i64 0, .complex .f64 0 0, .string ⟨#[]⟩, .int .i64 0, .int .i64 0, .slice none 0 0, .slice A cs.length cap, .slice none 0 0], _, _, _, rfl, rfl, qD_len _ _ _ _ zt_len, qD_one _ _ zt_one (show D.One (.sl _ _) from trivial) (show D.One (.sl _ _) from trivial), E2.out.1, E2.out.2.1, E2.out.2.2, rfl⟩
    ·have hl' : ¬ (cs.length : Int) < (n : Int) := by omega
     have hone : (#[.int .i64 5, .int .i64 0, .int .i64 0, .int .i64 0, .complex .f64 0 0, .string ⟨#[]⟩, .int .i64 0, .int .i64 0, .slice none 0 0, .slice A cs.length cap, .slice none 0 0] : Array Value).all (·.oneCell') = true := by simp [Value.oneCell']
     have HE := Lib.hid (fun W' => DSt.fin (w' := W') KN.out rfl hbl)
     go_wp2_with (first
      | (refine wpList_load_row (by rfl) 88 _ (by rfl) (w.heap.size + 1) (by rfl) 88 #[.int .i64 5, .int .i64 0, .int .i64 0, .int .i64 0, .complex .f64 0 0, .string ⟨#[]⟩, .int .i64 0, .int .i64 0, .slice none 0 0, .slice A cs.length cap, .slice none 0 0] (0, 0) _ KN.out.fr.t Tryz.underlying88 (by rfl) (by rw [size11]; rfl) ?_)
      | (refine wpList_store_row (by rfl) _ _ _ (by rfl) w.heap.size #[.int .i64 5, .int .i64 0, .int .i64 0, .int .i64 0, .complex .f64 0 0, .string ⟨#[]⟩, .int .i64 0, .int .i64 0, .slice none 0 0, .slice A cs.length cap, .slice none 0 0] (by rfl) (by rfl) 88 ZQ KN.out.fr.o (by rw [size11]; rfl) (by rfl) hone ?_; have HE2 := HE.out _ rfl; generalize World.setRow _ _ _ = W5 at HE2 ⊢; clear HE; obtain ⟨e1, e2⟩ := HE2; have E2 := Lib.hid e2; obtain ⟨z0, z1, z2, z3, z4, z5, z6, z7, z8, z9, z10⟩ := Bk.eleven e1; clear e1 e2))
     refine bodyPost_ret (v := .agg #[.int .i64 5, .int .i64 0, .int .i64 0, .int .i64 0, .complex .f64 0 0, .string ⟨#[]⟩, .int .i64 0, .int .i64 0, .slice none 0 0, .slice A cs.length cap, .slice none 0 0]) (by simp [results, Tryz.results55, go_sem, z0, z1, z2, z3, z4, z5, z6, z7, z8, z9, z10]) rfl ?_
     rw [HRE.out]
     exact ⟨#[.int .i64 5, .int .i64 0, .int .i64 0, .int .i64 0, .complex .f64 0 0, .string ⟨#[]⟩, .int .i64 0, .int .i64 0, .slice none 0 0, .slice A cs.length cap, .slice none 0 0], _, _, _, rfl, rfl, qD_len _ _ _ _ zt_len, qD_one _ _ zt_one (show D.One (.sl _ _) from trivial) (show D.One (.sl _ _) from trivial), E2.out.1, E2.out.2.1, E2.out.2.2, rfl⟩
theorem dpat_go6 (s : ByteArray) (d0 : Nat) (ih : ∀ d, d0 = d + 1 → DPatOk s d) (b p v : Nat) (w : World) (hv : v + d0 = 64) (hb : Rdc w b s p (-1)) (hp : p ≤ s.size) (hs : s.size ≤ 262144) (q d : Nat) (hd : d0 = d + 1) (h1 : rCnt s p = .ok 6 q) :
 Calls Tryz.prog 55 #[.pointer (some ⟨b, 0, none⟩), .int .i64 v] w fun e w' => DS b s 11 QT.ds (rPat s d0 p) w e w' := by
 have hbl := Bk.lt hb
 have KS0 : Hid (DP s b w.heap.size w ((w.alloc (.cells ZQ 88)).alloc (.cells ZQ 88)) p (-1) (qD 0 0 T.zero.ds noD noD) ZQ) := Lib.hid (DSt.made hb (qD_dvs _ _ (ZT7 _ _) (DV.v.2 rfl) (DV.v.2 rfl)))
 obtain ⟨R, hR⟩ : ∃ R, rPat s d0 p = R := ⟨_, rfl⟩
 rw [hR]
 obtain ⟨b0, b1, b2⟩ := Rdc.three KS0.out.rd
 have HK := Lib.hid (dcount_any b s p _ KS0.out.rd hp hs)
 subst hd
 rw [h1] at HK
 have HIH := Lib.hid (ih d rfl)
 have HR : Hid (rPK (fun p => rPat s d p) s 6 q = R) := Lib.hid (by rw [← hR]; simp only [rPat, rOne_ok h1 (by omega : 1 ≤ 6 ∧ 6 ≤ 6), Rs.bind])
 have n64 : ¬ (64 : Int) ≤ (v : Int) := by omega
 clear hR h1 ih
 go_enter Tryz.func55, Tryz.ntmps55
 go_wp2_with fail
 clear b0 b1 b2
 (with_reducible refine HK.out.mono ?_)
 rintro e w1 ⟨rfl, g3, g4, hq⟩
 have KC := Lib.hid (KS0.out.call g4 g3 hbl)
 have KA := Lib.hid (KC.out.put (l' := qD 6 0 T.zero.ds noD noD) (us' := #[.int .i64 6, .int .i64 0, .int .i64 0, .int .i64 0, .complex .f64 0 0, .string ⟨#[]⟩, .int .i64 0, .int .i64 0, .slice none 0 0, .slice none 0 0, .slice none 0 0]) rfl hbl 0 (.int .i64 6) rfl (qD_dvs _ _ (ZT7 _ _) (DV.v.2 rfl) (DV.v.2 rfl)))
 obtain ⟨x0, x1, x2, x3, x4, x5, x6, x7, x8, x9, x10⟩ := Bk.eleven KC.out.fr.t
 obtain ⟨c0, c1, c2⟩ := Rdc.three KC.out.rd
 have k0 := KC.out.fr.t.free 0
 have k1 := KC.out.fr.t.free 1
 have k2 := KC.out.fr.t.free 2
 have k3 := KC.out.fr.t.free 3
 have k4 := KC.out.fr.t.free 4
 have k5 := KC.out.fr.t.free 5
 have k6 := KC.out.fr.t.free 6
 have k7 := KC.out.fr.t.free 7
 have k8 := KC.out.fr.t.free 8
 have k9 := KC.out.fr.t.free 9
 have k10 := KC.out.fr.t.free 10
 clear g3 g4 HK KS0
 have HK := Lib.hid (dmany_any b s q _ KA.out.rd hq hs)
 cases hr : rLen s q with
 | bad t =>
  have ht0 : ¬ (t : Int) < 0 := by omega
  have hre : R = .bad t := by rw [← HR.out]; simp [rPK, rSome, hr, Rs.map, Rs.bind]
  have HRE := Lib.hid hre
  rw [hr] at HK
  clear HR hr hre
  go_wp2_with fail
  clear x0 x1 x2 x3 x4 x5 x6 x7 x8 x9 x10 c0 c1 c2 k0 k1 k2 k3 k4 k5 k6 k7 k8 k9 k10
  (with_reducible refine HK.out.mono ?_)
  rintro e w2 ⟨rfl, ⟨p2, g3⟩, g4⟩
  have KN := Lib.hid (KA.out.call g4 g3 hbl)
  obtain ⟨x0, x1, x2, x3, x4, x5, x6, x7, x8, x9, x10⟩ := Bk.eleven KN.out.fr.t
  obtain ⟨c0, c1, c2⟩ := Rdc.three KN.out.rd
  have k0 := KN.out.fr.t.free 0
  have k1 := KN.out.fr.t.free 1
  have k2 := KN.out.fr.t.free 2
  have k3 := KN.out.fr.t.free 3
  have k4 := KN.out.fr.t.free 4
  have k5 := KN.out.fr.t.free 5
  have k6 := KN.out.fr.t.free 6
  have k7 := KN.out.fr.t.free 7
  have k8 := KN.out.fr.t.free 8
  have k9 := KN.out.fr.t.free 9
  have k10 := KN.out.fr.t.free 10
  clear g3 g4 HK
  go_wp2_with fail
  refine wp_loop_rounds 1 ?_
  rw [rounds_succ]
  have hone : (#[.int .i64 6, .int .i64 0, .int .i64 0, .int .i64 0, .complex .f64 0 0, .string ⟨#[]⟩, .int .i64 0, .int .i64 0, .slice none 0 0, .slice none 0 0, .slice none 0 0] : Array Value).all (·.oneCell') = true := by simp [Value.oneCell']
  have HE := Lib.hid (fun W' => DSt.fin (w' := W') KN.out rfl hbl)
  go_wp2_with (first
   | (refine wpList_load_row (by rfl) 88 _ (by rfl) (w.heap.size + 1) (by rfl) 88 #[.int .i64 6, .int .i64 0, .int .i64 0, .int .i64 0, .complex .f64 0 0, .string ⟨#[]⟩, .int .i64 0, .int .i64 0, .slice none 0 0, .slice none 0 0, .slice none 0 0] (0, 0) _ KN.out.fr.t Tryz.underlying88 (by rfl) (by rw [size11]; rfl) ?_)
   | (refine wpList_store_row (by rfl) _ _ _ (by rfl) w.heap.size #[.int .i64 6, .int .i64 0, .int .i64 0, .int .i64 0, .complex .f64 0 0, .string ⟨#[]⟩, .int .i64 0, .int .i64 0, .slice none 0 0, .slice none 0 0, .slice none 0 0] (by rfl) (by rfl) 88 ZQ KN.out.fr.o (by rw [size11]; rfl) (by rfl) hone ?_; have HE2 := HE.out _ rfl; generalize World.setRow _ _ _ = W5 at HE2 ⊢; clear HE; obtain ⟨e1, e2⟩ := HE2; have E2 := Lib.hid e2; obtain ⟨z0, z1, z2, z3, z4, z5, z6, z7, z8, z9, z10⟩ := Bk.eleven e1; clear e1 e2))
  refine bodyPost_ret (v := .agg #[.int .i64 6, .int .i64 0, .int .i64 0, .int .i64 0, .complex .f64 0 0, .string ⟨#[]⟩, .int .i64 0, .int .i64 0, .slice none 0 0, .slice none 0 0, .slice none 0 0]) (by simp [results, Tryz.results55, go_sem, z0, z1, z2, z3, z4, z5, z6, z7, z8, z9, z10]) rfl ?_
  rw [HRE.out]
  exact ⟨#[.int .i64 6, .int .i64 0, .int .i64 0, .int .i64 0, .complex .f64 0 0, .string ⟨#[]⟩, .int .i64 0, .int .i64 0, .slice none 0 0, .slice none 0 0, .slice none 0 0], _, _, _, rfl, rfl, qD_len _ _ _ _ zt_len, qD_one _ _ zt_one no_one no_one, E2.out.1, E2.out.2.1, E2.out.2.2, rfl⟩
 | ok n q2 =>
  obtain ⟨hn1, hq2, -⟩ := rLen_bd hr
  rw [hr] at HK
  obtain ⟨R2, hR2⟩ : ∃ R2, rMany (fun p => rPat s d p) n q2 = R2 := ⟨_, rfl⟩
  have HRR : Hid (R = R2.bind fun l t => (rRest (fun p => rPat s d p) s t).map fun r => .seq 6 l r) := Lib.hid (by rw [← HR.out, ← hR2]; simp [rPK, rSome, hr, Rs.map, Rs.bind])
  have HR2 := Lib.hid hR2
  clear HR hr hR2
  go_wp2_with fail
  clear x0 x1 x2 x3 x4 x5 x6 x7 x8 x9 x10 c0 c1 c2 k0 k1 k2 k3 k4 k5 k6 k7 k8 k9 k10
  (with_reducible refine HK.out.mono ?_)
  rintro e w2 ⟨rfl, g3, g4, g5⟩
  have KC := Lib.hid (KA.out.call g4 g3 hbl)
  have hsz2 := Bk.lt KC.out.fr.t
  clear g3 g4 HK
  go_wp2_with fail
  go_loopw [8] (fun iv wr => DPLp s b w.heap.size w 6 n (fun p => rPat s d p) R2 iv wr) (fun iv _ => n - (intOf iv).toNat)
  case atStart => exact ⟨[], .slice none 0 0, q2, -1, rfl, Nat.zero_le _, KC.out.fr, KC.out.rd, KC.out.on, OwnC.nil _ _ _, .inl ⟨rfl, hq2, [], rfl, rfl, by rw [← HR2.out]; show Rs.map _ (rMany _ (n - 0) q2) = _; rw [Nat.sub_zero]; cases rMany (fun p => rPat s d p) n q2 <;> rfl⟩⟩
  case round =>
   obtain ⟨cs, lv, p2, bd, rfl, hcn, h1, h2, h3, h4, h6⟩ := hrel
   obtain ⟨A, cap, hlv⟩ := h4.form
   subst hlv
   have KL : Hid (LW KPt 88 ZQ (fun lv => #[.int .i64 6, .int .i64 0, .int .i64 0, .int .i64 0, .complex .f64 0 0, .string ⟨#[]⟩, .int .i64 0, .int .i64 0, .slice none 0 0, lv, .slice none 0 0]) s b w.heap.size w wr (.slice A cs.length cap) cs p2 bd) := Lib.hid ⟨h1, h2, h3, h4⟩
   obtain ⟨x0, x1, x2, x3, x4, x5, x6, x7, x8, x9, x10⟩ := Bk.eleven h1.t
   obtain ⟨c0, c1, c2⟩ := Rdc.three h2
   have k9 := h1.t.free 9
   have hsw := h3.size
   have hszr := Bk.lt h1.t
   clear HR2 KC KA h1 h2 h3 h4
   rcases h6 with ⟨rfl, hp2, xs, hxl, hxc, hxr⟩ | ⟨t, rfl, hRb⟩
   ·by_cases hlt : cs.length < n
    ·have hl' : (cs.length : Int) < (n : Int) := by omega
     have HC : Hid (∀ W, Rdc W b s p2 (-1) → Calls Tryz.prog 55 #[.pointer (some ⟨b, 0, none⟩), .int .i64 (IntKind.i64.wrap ((v : Int) + 1))] W fun e w' => DS b s 11 QT.ds (rPat s d p2) W e w') := Lib.hid (fun W h => by
      have := HIH.out b p2 (v + 1) W (by omega) h hp2 hs
      rwa [show ((v + 1 : Nat) : Int) = IntKind.i64.wrap ((v : Int) + 1) by rw [wrapEq, wrap64_in (by omega) (by omega)]; omega] at this)
     have hrm : rMany (fun p => rPat s d p) (n - cs.length) p2 = (rPat s d p2).bind fun x q => (rMany (fun p => rPat s d p) (n - (cs.length + 1)) q).bind fun l r => .ok (x :: l) r := by
      rw [show n - cs.length = (n - (cs.length + 1)) + 1 by omega]
      rfl
     rw [hrm] at hxr
     have KX := Lib.hid hxr
     have KY := Lib.hid hxc
     have hcl : cs.length ≤ 262144 := by omega
     clear hrm hxr hxc
     go_wp2_with fail
     go_region_law (first
      | (go_simp; go_at_call 55; (with_reducible refine (HC.out _ (Bk.drew KL.out.rd)).mono ?_); rintro e w3 ⟨us, l3, p3, bd3, rfl, hus, hl3, ho3, hd3, hr3, on3, hst3⟩; obtain ⟨v0, v1, v2, v3, v4, v5, v6, v7, v8, v9, v10, rfl⟩ := eleven_of hus; have L3' := KL.out.call ((Only.drew (Only.refl [b] wr)).trans on3 (fun i hi => .inl hi)) hr3 hbl; have s3 := L3'.fr.t.cell0 (i := 9) rfl; have s4 := (L3'.alloc (.cells #[v0, v1, v2, v3, v4, v5, v6, v7, v8, v9, v10] 88)).fr.t.cell0 (i := 9) rfl; have sz3 := on3.size; have L3 := Lib.hid (L3'.alloc (.cells #[v0, v1, v2, v3, v4, v5, v6, v7, v8, v9, v10] 88)); have D3 := Lib.hid (DVs.only ((Only.refl [] w3).alloc (.cells #[v0, v1, v2, v3, v4, v5, v6, v7, v8, v9, v10] 88)) (by simp) (fun _ h => h) hd3); have HO3 := Lib.hid ho3; have ST3 := Lib.hid hst3; clear hd3 hr3 on3 hst3 ho3 L3')
      | (refine step_appC KPt (by rfl) _ _ (by rfl) (base := w.heap.size + 2) (v := .slice A cs.length cap) (cs := cs) (by rfl) L3.out.own _ #[v0, v1, v2, v3, v4, v5, v6, v7, v8, v9, v10] l3 (by rfl) (Bk.newAt (by simp)) wr (by rw [size_al]; exact Nat.le_succ_of_le sz3) (fun g hg => (KL.out.own.block hg).2) (by omega) D3.out hl3 HO3.out hcl _ rfl ?_; intro g5 cap5 w5 hown hgrow; have GG := LW.gro L3.out hown hgrow rfl hbl 9 rfl; have y9 := GG.1.t.cell0 (i := 9) rfl; have fy9 := GG.1.t.free 9; have G2 := Lib.hid GG.2; clear GG hown hgrow)
      | fail)
     all_goals
      go_wp2_with fail
      go_roundw
      case rel =>
       refine ⟨cs ++ [⟨l3, hl3, HO3.out⟩], _, p3, bd3, by simp, by simp; omega, G2.out.fr, G2.out.rd, G2.out.on, G2.out.own, ?_⟩
       have hst := ST3.out
       have hxr := KX.out
       cases ho : rPat s d p2 with
       | ok x t =>
        rw [ho] at hst hxr
        obtain ⟨rfl, rfl, rfl, hps⟩ := hst
        refine .inl ⟨rfl, hps, xs ++ [x], by simp [hxl], by simp [KY.out], ?_⟩
        rw [← hxr]
        simp only [Rs.map, Rs.bind, List.length_append, List.length_cons, List.length_nil]
        cases rMany (fun p => rPat s d p) (n - (cs.length + 1)) p3 <;> simp
       | bad t =>
        rw [ho] at hst hxr
        exact .inr ⟨t, hst, by rw [← hxr]; rfl⟩
      case measure =>
       simp [intOf]
       omega
    ·have hl' : ¬ (cs.length : Int) < (n : Int) := by omega
     have hr2 : R2 = .ok xs p2 := by
      rw [← hxr, show n - cs.length = 0 by omega]
      simp [rMany, Rs.map, Rs.bind]
     have KN : Hid (DP s b w.heap.size w wr p2 (-1) (qD 6 0 T.zero.ds (.sl cs.length (cs.flatMap fun c => c.1)) (.sl 0 [])) #[.int .i64 6, .int .i64 0, .int .i64 0, .int .i64 0, .complex .f64 0 0, .string ⟨#[]⟩, .int .i64 0, .int .i64 0, .slice none 0 0, .slice A cs.length cap, .slice none 0 0]) := Lib.hid ⟨KL.out.fr, KL.out.rd, KL.out.on, qD_dvs _ _ (ZT7 _ _) KL.out.own.dv (DV.none0 _ _)⟩
     have KY := Lib.hid hxc
     have KZ := Lib.hid hxl
     clear hxr hxc hxl
     have HK := Lib.hid (dmany_any b s p2 _ KL.out.rd hp2 hs)
     cases hr : rLen s p2 with
     | bad t =>
      have ht0 : ¬ (t : Int) < 0 := by omega
      have htd : decide ((t : Int) < 0) = false := decide_eq_false ht0
      have hre : R = .bad t := by rw [HRR.out, hr2]; show Rs.map _ (rRest _ s p2) = _; rw [rRest_bad hr]; rfl
      have HRE := Lib.hid hre
      rw [hr] at HK
      clear hre hr2 hr
      go_wp2_with fail
      (with_reducible refine HK.out.mono ?_)
      rintro e w3 ⟨rfl, ⟨p3, g3⟩, g4⟩
      have KM := Lib.hid (KN.out.call g4 g3 hbl)
      clear x0 x1 x2 x3 x4 x5 x6 x7 x8 x9 x10 c0 c1 c2 k9 KN
      have KN := KM
      obtain ⟨x0, x1, x2, x3, x4, x5, x6, x7, x8, x9, x10⟩ := Bk.eleven KN.out.fr.t
      obtain ⟨c0, c1, c2⟩ := Rdc.three KN.out.rd
      clear g3 g4 HK KM
      have hone : (#[.int .i64 6, .int .i64 0, .int .i64 0, .int .i64 0, .complex .f64 0 0, .string ⟨#[]⟩, .int .i64 0, .int .i64 0, .slice none 0 0, .slice A cs.length cap, .slice none 0 0] : Array Value).all (·.oneCell') = true := by simp [Value.oneCell']
      have HE := Lib.hid (fun W' => DSt.fin (w' := W') KN.out rfl hbl)
      go_wp2_with (first
       | (refine wpList_load_row (by rfl) 88 _ (by rfl) (w.heap.size + 1) (by rfl) 88 #[.int .i64 6, .int .i64 0, .int .i64 0, .int .i64 0, .complex .f64 0 0, .string ⟨#[]⟩, .int .i64 0, .int .i64 0, .slice none 0 0, .slice A cs.length cap, .slice none 0 0] (0, 0) _ KN.out.fr.t Tryz.underlying88 (by rfl) (by rw [size11]; rfl) ?_)
       | (refine wpList_store_row (by rfl) _ _ _ (by rfl) w.heap.size #[.int .i64 6, .int .i64 0, .int .i64 0, .int .i64 0, .complex .f64 0 0, .string ⟨#[]⟩, .int .i64 0, .int .i64 0, .slice none 0 0, .slice A cs.length cap, .slice none 0 0] (by rfl) (by rfl) 88 ZQ KN.out.fr.o (by rw [size11]; rfl) (by rfl) hone ?_; have HE2 := HE.out _ rfl; generalize World.setRow _ _ _ = W5 at HE2 ⊢; clear HE; obtain ⟨e1, e2⟩ := HE2; have E2 := Lib.hid e2; obtain ⟨z0, z1, z2, z3, z4, z5, z6, z7, z8, z9, z10⟩ := Bk.eleven e1; clear e1 e2))
      refine bodyPost_ret (v := .agg #[.int .i64 6, .int .i64 0, .int .i64 0, .int .i64 0, .complex .f64 0 0, .string ⟨#[]⟩, .int .i64 0, .int .i64 0, .slice none 0 0, .slice A cs.length cap, .slice none 0 0]) (by simp [results, Tryz.results55, go_sem, z0, z1, z2, z3, z4, z5, z6, z7, z8, z9, z10]) rfl ?_
      rw [HRE.out]
      exact ⟨#[.int .i64 6, .int .i64 0, .int .i64 0, .int .i64 0, .complex .f64 0 0, .string ⟨#[]⟩, .int .i64 0, .int .i64 0, .slice none 0 0, .slice A cs.length cap, .slice none 0 0], _, _, _, rfl, rfl, qD_len _ _ _ _ zt_len, qD_one _ _ zt_one (show D.One (.sl _ _) from trivial) (show D.One (.sl _ _) from trivial), E2.out.1, E2.out.2.1, E2.out.2.2, rfl⟩
     | ok n2 q3 =>
      obtain ⟨hn2, hq3, -⟩ := rLen_bd hr
      rw [hr] at HK
      by_cases h1 : n2 ≤ 1
      ·by_cases h0 : n2 = 0
       ·subst h0
        have hre : R = .ok (.seq 6 xs []) q3 := by rw [HRR.out, hr2]; show Rs.map _ (rRest _ s p2) = _; rw [rRest_ok hr]; rfl
        have HRE := Lib.hid hre
        have HK : Hid (Calls Tryz.prog _ _ wr fun e w' => e = .returned (.int .i64 0) ∧ Rdc w' b s q3 (-1) ∧ Only [b] wr w' ∧ q3 ≤ s.size) := HK
        clear hre hr2 hr
        go_wp2_with fail
        (with_reducible refine HK.out.mono ?_)
        rintro e w3 ⟨rfl, g3, g4, g5⟩
        have KM := Lib.hid (KN.out.call g4 g3 hbl)
        clear x0 x1 x2 x3 x4 x5 x6 x7 x8 x9 x10 c0 c1 c2 k9 KN
        have KN := KM
        obtain ⟨x0, x1, x2, x3, x4, x5, x6, x7, x8, x9, x10⟩ := Bk.eleven KN.out.fr.t
        obtain ⟨c0, c1, c2⟩ := Rdc.three KN.out.rd
        clear g3 g4 HK KM
        have hone : (#[.int .i64 6, .int .i64 0, .int .i64 0, .int .i64 0, .complex .f64 0 0, .string ⟨#[]⟩, .int .i64 0, .int .i64 0, .slice none 0 0, .slice A cs.length cap, .slice none 0 0] : Array Value).all (·.oneCell') = true := by simp [Value.oneCell']
        have HE := Lib.hid (fun W' => DSt.fin (w' := W') KN.out rfl hbl)
        go_wp2_with (first
         | (refine wpList_load_row (by rfl) 88 _ (by rfl) (w.heap.size + 1) (by rfl) 88 #[.int .i64 6, .int .i64 0, .int .i64 0, .int .i64 0, .complex .f64 0 0, .string ⟨#[]⟩, .int .i64 0, .int .i64 0, .slice none 0 0, .slice A cs.length cap, .slice none 0 0] (0, 0) _ KN.out.fr.t Tryz.underlying88 (by rfl) (by rw [size11]; rfl) ?_)
         | (refine wpList_store_row (by rfl) _ _ _ (by rfl) w.heap.size #[.int .i64 6, .int .i64 0, .int .i64 0, .int .i64 0, .complex .f64 0 0, .string ⟨#[]⟩, .int .i64 0, .int .i64 0, .slice none 0 0, .slice A cs.length cap, .slice none 0 0] (by rfl) (by rfl) 88 ZQ KN.out.fr.o (by rw [size11]; rfl) (by rfl) hone ?_; have HE2 := HE.out _ rfl; generalize World.setRow _ _ _ = W5 at HE2 ⊢; clear HE; obtain ⟨e1, e2⟩ := HE2; have E2 := Lib.hid e2; obtain ⟨z0, z1, z2, z3, z4, z5, z6, z7, z8, z9, z10⟩ := Bk.eleven e1; clear e1 e2))
        refine bodyPost_ret (v := .agg #[.int .i64 6, .int .i64 0, .int .i64 0, .int .i64 0, .complex .f64 0 0, .string ⟨#[]⟩, .int .i64 0, .int .i64 0, .slice none 0 0, .slice A cs.length cap, .slice none 0 0]) (by simp [results, Tryz.results55, go_sem, z0, z1, z2, z3, z4, z5, z6, z7, z8, z9, z10]) rfl ?_
        rw [HRE.out]
        exact ⟨#[.int .i64 6, .int .i64 0, .int .i64 0, .int .i64 0, .complex .f64 0 0, .string ⟨#[]⟩, .int .i64 0, .int .i64 0, .slice none 0 0, .slice A cs.length cap, .slice none 0 0], _, _, _, rfl, rfl, qD_len _ _ _ _ zt_len, qD_one _ _ zt_one (show D.One (.sl _ _) from trivial) (show D.One (.sl _ _) from trivial), E2.out.1, E2.out.2.1, E2.out.2.2, ⟨by simp only [QT.ds, KZ.out, qdss_flat, KY.out, List.length_nil, List.flatMap_nil], rfl, rfl, hq3⟩⟩
       ·obtain rfl : n2 = 1 := by omega
        obtain ⟨R3, hR3⟩ : ∃ R3, rPat s d q3 = R3 := ⟨_, rfl⟩
        have HR3 := Lib.hid hR3
        have HRE : Hid (R = R3.map fun x => .seq 6 xs [x]) := Lib.hid (by
         rw [HRR.out, hr2]
         show Rs.map _ (rRest _ s p2) = _
         rw [rRest_ok hr, ← hR3]
         show Rs.map _ (Rs.map _ (rPat s d q3)) = _
         cases rPat s d q3 <;> rfl)
        have HK : Hid (Calls Tryz.prog _ _ wr fun e w' => e = .returned (.int .i64 1) ∧ Rdc w' b s q3 (-1) ∧ Only [b] wr w' ∧ q3 ≤ s.size) := HK
        have HC : Hid (∀ W, Rdc W b s q3 (-1) → Calls Tryz.prog 55 #[.pointer (some ⟨b, 0, none⟩), .int .i64 (IntKind.i64.wrap ((v : Int) + 1))] W fun e w' => DS b s 11 QT.ds (rPat s d q3) W e w') := Lib.hid (fun W h => by
         have := HIH.out b q3 (v + 1) W (by omega) h hq3 hs
         rwa [show ((v + 1 : Nat) : Int) = IntKind.i64.wrap ((v : Int) + 1) by rw [wrapEq, wrap64_in (by omega) (by omega)]; omega] at this)
        have HLd := Lib.hid (show DV wr (fun g => w.heap.size + 1 < g) (.sl cs.length (cs.flatMap fun c => c.1)) (.slice A cs.length cap) from KL.out.own.dv)
        rw [hR3] at HC
        clear hr2 hr hR3 h0 h1
        go_wp2_with fail
        (with_reducible refine HK.out.mono ?_)
        rintro e w2 ⟨rfl, g3, g4, g5⟩
        have LM := Lib.hid (KL.out.call g4 g3 hbl)
        have HLe := Lib.hid (DV.only g4 (fun g hg hf => by simp at hg; omega) (fun _ h => h) _ _ HLd.out)
        clear x0 x1 x2 x3 x4 x5 x6 x7 x8 x9 x10 c0 c1 c2 k9 KN HK
        have KM : Hid (LW KPt 88 ZQ (fun rv => #[.int .i64 6, .int .i64 0, .int .i64 0, .int .i64 0, .complex .f64 0 0, .string ⟨#[]⟩, .int .i64 0, .int .i64 0, .slice none 0 0, .slice A cs.length cap, rv]) s b w.heap.size w w2 (.slice none 0 0) [] q3 (-1)) := Lib.hid ⟨LM.out.fr, LM.out.rd, LM.out.on, OwnC.nil _ _ _⟩
        obtain ⟨x0, x1, x2, x3, x4, x5, x6, x7, x8, x9, x10⟩ := Bk.eleven KM.out.fr.t
        obtain ⟨c0, c1, c2⟩ := Rdc.three KM.out.rd
        have k10 := KM.out.fr.t.free 10
        have hszr2 := Bk.lt KM.out.fr.t
        clear g3 g4 KL LM
        go_wp2_with fail
        go_region_law (first
         | (go_simp; go_at_call 55; (with_reducible refine (HC.out _ (Bk.drew KM.out.rd)).mono ?_); rintro e w3 ⟨us, l3, p3, bd3, rfl, hus, hl3, ho3, hd3, hr3, on3, hst3⟩; obtain ⟨v0, v1, v2, v3, v4, v5, v6, v7, v8, v9, v10, rfl⟩ := eleven_of hus; have on3' := (Only.drew (Only.refl [b] w2)).trans on3 (fun i hi => .inl hi); have L3' := KM.out.call on3' hr3 hbl; have s3 := L3'.fr.t.cell0 (i := 10) rfl; have s4 := (L3'.alloc (.cells #[v0, v1, v2, v3, v4, v5, v6, v7, v8, v9, v10] 88)).fr.t.cell0 (i := 10) rfl; have sz3 := on3.size; have L3 := Lib.hid (L3'.alloc (.cells #[v0, v1, v2, v3, v4, v5, v6, v7, v8, v9, v10] 88)); have D3 := Lib.hid (DVs.only ((Only.refl [] w3).alloc (.cells #[v0, v1, v2, v3, v4, v5, v6, v7, v8, v9, v10] 88)) (by simp) (fun _ h => h) hd3); have HO3 := Lib.hid ho3; have ST3 := Lib.hid hst3; have HLf := Lib.hid (DV.only (on3'.alloc (.cells #[v0, v1, v2, v3, v4, v5, v6, v7, v8, v9, v10] 88)) (fun g hg hf => by simp at hg; omega) (fun _ h => h) _ _ HLe.out); clear hd3 hr3 on3 hst3 ho3 L3' on3')
         | (refine step_appC KPt (by rfl) _ _ (by rfl) (base := w.heap.size + 2) (v := .slice none 0 0) (cs := []) (by rfl) L3.out.own _ #[v0, v1, v2, v3, v4, v5, v6, v7, v8, v9, v10] l3 (by rfl) (Bk.newAt (by simp)) w2 (by rw [size_al]; exact Nat.le_succ_of_le sz3) (fun g hg => by cases hg) (by omega) D3.out hl3 HO3.out (by decide) _ rfl ?_; intro g5 cap5 w5 hown hgrow; have GG := LW.gro L3.out hown hgrow rfl hbl 10 rfl; have y10 := GG.1.t.cell0 (i := 10) rfl; have fy10 := GG.1.t.free 10; have G2 := Lib.hid GG.2; have HLg := Lib.hid (DV.only (((Only.of_grown hgrow).more (T := [w.heap.size + 1]) (fun i hi => by cases hi)).set (p := ⟨w.heap.size + 1, 10, none⟩) (.inl (by simp)) (.slice (some ⟨g5, 0, none⟩) (0 + 1) cap5)) (fun g hg hf => by simp at hg; omega) (fun _ h => h) _ _ HLf.out); clear GG hown hgrow)
         | fail)
        all_goals
         have KN : Hid (DP s b w.heap.size w _ p3 bd3 (qD 6 0 T.zero.ds (.sl cs.length (cs.flatMap fun c => c.1)) (.sl 1 ([(⟨l3, hl3, HO3.out⟩ : Ck 11)].flatMap fun c => c.1))) #[.int .i64 6, .int .i64 0, .int .i64 0, .int .i64 0, .complex .f64 0 0, .string ⟨#[]⟩, .int .i64 0, .int .i64 0, .slice none 0 0, .slice A cs.length cap, .slice (some ⟨g5, 0, none⟩) (0 + 1) cap5]) := Lib.hid ⟨G2.out.fr, G2.out.rd, G2.out.on, qD_dvs _ _ (ZT7 _ _) HLg.out G2.out.own.dv⟩
         have STK : Hid (StOk s QT.ds (R3.map fun x => .seq 6 xs [x]) (qD 6 0 T.zero.ds (.sl cs.length (cs.flatMap fun c => c.1)) (.sl 1 ([(⟨l3, hl3, HO3.out⟩ : Ck 11)].flatMap fun c => c.1))) p3 bd3) := Lib.hid (by
          have hst := ST3.out
          cases R3 with
          | ok x t =>
           obtain ⟨rfl, rfl, rfl, hps⟩ := hst
           exact ⟨by simp only [QT.ds, KZ.out, qdss_flat, KY.out, List.length_cons, List.length_nil, List.flatMap_cons, List.flatMap_nil, List.append_nil], rfl, rfl, hps⟩
          | bad t => exact hst)
         clear x0 x1 x2 x3 x4 x5 x6 x7 x8 x9 x10 c0 c1 c2 k10
         have hone : (#[.int .i64 6, .int .i64 0, .int .i64 0, .int .i64 0, .complex .f64 0 0, .string ⟨#[]⟩, .int .i64 0, .int .i64 0, .slice none 0 0, .slice A cs.length cap, .slice (some ⟨g5, 0, none⟩) (0 + 1) cap5] : Array Value).all (·.oneCell') = true := by simp [Value.oneCell']
         have HE := Lib.hid (fun W' => DSt.fin (w' := W') KN.out rfl hbl)
         go_wp2_with (first
          | (refine wpList_load_row (by rfl) 88 _ (by rfl) (w.heap.size + 1) (by rfl) 88 #[.int .i64 6, .int .i64 0, .int .i64 0, .int .i64 0, .complex .f64 0 0, .string ⟨#[]⟩, .int .i64 0, .int .i64 0, .slice none 0 0, .slice A cs.length cap, .slice (some ⟨g5, 0, none⟩) (0 + 1) cap5] (0, 0) _ KN.out.fr.t Tryz.underlying88 (by rfl) (by rw [size11]; rfl) ?_)
          | (refine wpList_store_row (by rfl) _ _ _ (by rfl) w.heap.size #[.int .i64 6, .int .i64 0, .int .i64 0, .int .i64 0, .complex .f64 0 0, .string ⟨#[]⟩, .int .i64 0, .int .i64 0, .slice none 0 0, .slice A cs.length cap, .slice (some ⟨g5, 0, none⟩) (0 + 1) cap5] (by rfl) (by rfl) 88 ZQ KN.out.fr.o (by rw [size11]; rfl) (by rfl) hone ?_; have HE2 := HE.out _ rfl; generalize World.setRow _ _ _ = W5 at HE2 ⊢; clear HE; obtain ⟨e1, e2⟩ := HE2; have E2 := Lib.hid e2; obtain ⟨z0, z1, z2, z3, z4, z5, z6, z7, z8, z9, z10⟩ := Bk.eleven e1; clear e1 e2))
         refine bodyPost_ret (v := .agg #[.int .i64 6, .int .i64 0, .int .i64 0, .int .i64 0, .complex .f64 0 0, .string ⟨#[]⟩, .int .i64 0, .int .i64 0, .slice none 0 0, .slice A cs.length cap, .slice (some ⟨g5, 0, none⟩) (0 + 1) cap5]) (by simp [results, Tryz.results55, go_sem, z0, z1, z2, z3, z4, z5, z6, z7, z8, z9, z10]) rfl ?_
         rw [HRE.out]
         exact ⟨#[.int .i64 6, .int .i64 0, .int .i64 0, .int .i64 0, .complex .f64 0 0, .string ⟨#[]⟩, .int .i64 0, .int .i64 0, .slice none 0 0, .slice A cs.length cap, .slice (some ⟨g5, 0, none⟩) (0 + 1) cap5], _, _, _, rfl, rfl, qD_len _ _ _ _ zt_len, qD_one _ _ zt_one (show D.One (.sl _ _) from trivial) (show D.One (.sl _ _) from trivial), E2.out.1, E2.out.2.1, E2.out.2.2, STK.out⟩
      ·have g6 : (1 : Int) < (n2 : Int) := by omega
       have hre : R = .bad p2 := by rw [HRR.out, hr2]; show Rs.map _ (rRest _ s p2) = _; rw [rRest_ok hr, if_neg h1]; rfl
       have HRE := Lib.hid hre
       have HW := Lib.hid (fun w1 (h : Rdc w1 b s q3 (-1)) => wrong_any b s q3 p2 w1 h)
       have hp0 : ¬ (p2 : Int) < 0 := by omega
       have hpd : decide ((p2 : Int) < 0) = false := decide_eq_false hp0
       clear hre hr2 hr
       go_wp2_with fail
       (with_reducible refine HK.out.mono ?_)
       rintro e w2 ⟨rfl, g3, g4, g5⟩
       have KM := Lib.hid (KN.out.call g4 g3 hbl)
       clear x0 x1 x2 x3 x4 x5 x6 x7 x8 x9 x10 c0 c1 c2 k9 KN
       obtain ⟨c0, c1, c2⟩ := Rdc.three KM.out.rd
       clear g3 g4 HK
       go_wp2_with fail
       clear c0 c1 c2
       (with_reducible refine (HW.out _ KM.out.rd).mono ?_)
       rintro e w3 ⟨rfl, g3, g4⟩
       have KN := Lib.hid (KM.out.call g4 g3 hbl)
       obtain ⟨x0, x1, x2, x3, x4, x5, x6, x7, x8, x9, x10⟩ := Bk.eleven KN.out.fr.t
       obtain ⟨c0, c1, c2⟩ := Rdc.three KN.out.rd
       clear g3 g4 HW KM
       have hone : (#[.int .i64 6, .int .i64 0, .int .i64 0, .int .i64 0, .complex .f64 0 0, .string ⟨#[]⟩, .int .i64 0, .int .i64 0, .slice none 0 0, .slice A cs.length cap, .slice none 0 0] : Array Value).all (·.oneCell') = true := by simp [Value.oneCell']
       have HE := Lib.hid (fun W' => DSt.fin (w' := W') KN.out rfl hbl)
       go_wp2_with (first
        | (refine wpList_load_row (by rfl) 88 _ (by rfl) (w.heap.size + 1) (by rfl) 88 #[.int .i64 6, .int .i64 0, .int .i64 0, .int .i64 0, .complex .f64 0 0, .string ⟨#[]⟩, .int .i64 0, .int .i64 0, .slice none 0 0, .slice A cs.length cap, .slice none 0 0] (0, 0) _ KN.out.fr.t Tryz.underlying88 (by rfl) (by rw [size11]; rfl) ?_)
        | (refine wpList_store_row (by rfl) _ _ _ (by rfl) w.heap.size #[.int .i64 6, .int .i64 0, .int .i64 0, .int .i64 0, .complex .f64 0 0, .string ⟨#[]⟩, .int .i64 0, .int .i64 0, .slice none 0 0, .slice A cs.length cap, .slice none 0 0] (by rfl) (by rfl) 88 ZQ KN.out.fr.o (by rw [size11]; rfl) (by rfl) hone ?_; have HE2 := HE.out _ rfl; generalize World.setRow _ _ _ = W5 at HE2 ⊢; clear HE; obtain ⟨e1, e2⟩ := HE2; have E2 := Lib.hid e2; obtain ⟨z0, z1, z2, z3, z4, z5, z6, z7, z8, z9, z10⟩ := Bk.eleven e1; clear e1 e2))
       refine bodyPost_ret (v := .agg #[.int .i64 6, .int .i64 0, .int .i64 0, .int .i64 0, .complex .f64 0 0, .string ⟨#[]⟩, .int .i64 0, .int .i64 0, .slice none 0 0, .slice A cs.length cap, .slice none 0 0]) (by simp [results, Tryz.results55, go_sem, z0, z1, z2, z3, z4, z5, z6, z7, z8, z9, z10]) rfl ?_
       rw [HRE.out]
       exact ⟨#[.int .i64 6, .int .i64 0, .int .i64 0, .int .i64 0, .complex .f64 0 0, .string ⟨#[]⟩, .int .i64 0, .int .i64 0, .slice none 0 0, .slice A cs.length cap, .slice none 0 0], _, _, _, rfl, rfl, qD_len _ _ _ _ zt_len, qD_one _ _ zt_one (show D.One (.sl _ _) from trivial) (show D.One (.sl _ _) from trivial), E2.out.1, E2.out.2.1, E2.out.2.2, rfl⟩
   ·have ht0 : ¬ (t : Int) < 0 := by omega
    have htd : decide ((t : Int) < 0) = false := decide_eq_false ht0
    have ht1 : decide ((0 : Int) ≤ (t : Int)) = true := decide_eq_true (by omega)
    have hre : R = .bad t := by rw [HRR.out, hRb]; rfl
    have HRE := Lib.hid hre
    have KN : Hid (DP s b w.heap.size w wr p2 (t : Int) (qD 6 0 T.zero.ds (.sl cs.length (cs.flatMap fun c => c.1)) (.sl 0 [])) #[.int .i64 6, .int .i64 0, .int .i64 0, .int .i64 0, .complex .f64 0 0, .string ⟨#[]⟩, .int .i64 0, .int .i64 0, .slice none 0 0, .slice A cs.length cap, .slice none 0 0]) := Lib.hid ⟨KL.out.fr, KL.out.rd, KL.out.on, qD_dvs _ _ (ZT7 _ _) KL.out.own.dv (DV.none0 _ _)⟩
    clear hre hRb
    by_cases hlt : cs.length < n
    ·have hl' : (cs.length : Int) < (n : Int) := by omega
     have hone : (#[.int .i64 6, .int .i64 0, .int .i64 0, .int .i64 0, .complex .f64 0 0, .string ⟨#[]⟩, .int .i64 0, .int .i64 0, .slice none 0 0, .slice A cs.length cap, .slice none 0 0] : Array Value).all (·.oneCell') = true := by simp [Value.oneCell']
     have HE := Lib.hid (fun W' => DSt.fin (w' := W') KN.out rfl hbl)
     go_wp2_with (first
      | (refine wpList_load_row (by rfl) 88 _ (by rfl) (w.heap.size + 1) (by rfl) 88 #[.int .i64 6, .int .i64 0, .int .i64 0, .int .i64 0, .complex .f64 0 0, .string ⟨#[]⟩, .int .i64 0, .int .i64 0, .slice none 0 0, .slice A cs.length cap, .slice none 0 0] (0, 0) _ KN.out.fr.t Tryz.underlying88 (by rfl) (by rw [size11]; rfl) ?_)
      | (refine wpList_store_row (by rfl) _ _ _ (by rfl) w.heap.size #[.int .i64 6, .int .i64 0, .int .i64 0, .int .i64 0, .complex .f64 0 0, .string ⟨#[]⟩, .int .i64 0, .int .i64 0, .slice none 0 0, .slice A cs.length cap, .slice none 0 0] (by rfl) (by rfl) 88 ZQ KN.out.fr.o (by rw [size11]; rfl) (by rfl) hone ?_; have HE2 := HE.out _ rfl; generalize World.setRow _ _ _ = W5 at HE2 ⊢; clear HE; obtain ⟨e1, e2⟩ := HE2; have E2 := Lib.hid e2; obtain ⟨z0, z1, z2, z3, z4, z5, z6, z7, z8, z9, z10⟩ := Bk.eleven e1; clear e1 e2))
     refine bodyPost_ret (v := .agg #[.int .i64 6, .int .i64 0, .int .i64 0, .int .i64 0, .complex .f64 0 0, .string ⟨#[]⟩, .int .i64 0, .int .i64 0, .slice none 0 0, .slice A cs.length cap, .slice none 0 0]) (by simp [results, Tryz.results55, go_sem, z0, z1, z2, z3, z4, z5, z6, z7, z8, z9, z10]) rfl ?_
     rw [HRE.out]
     exact ⟨#[.int .i64 6, .int .i64 0, .int .i64 0, .int .i64 0, .complex .f64 0 0, .string ⟨#[]⟩, .int .i64 0, .int .i64 0, .slice none 0 0, .slice A cs.length cap, .slice none 0 0], _, _, _, rfl, rfl, qD_len _ _ _ _ zt_len, qD_one _ _ zt_one (show D.One (.sl _ _) from trivial) (show D.One (.sl _ _) from trivial), E2.out.1, E2.out.2.1, E2.out.2.2, rfl⟩
    ·have hl' : ¬ (cs.length : Int) < (n : Int) := by omega
     have hone : (#[.int .i64 6, .int .i64 0, .int .i64 0, .int .i64 0, .complex .f64 0 0, .string ⟨#[]⟩, .int .i64 0, .int .i64 0, .slice none 0 0, .slice A cs.length cap, .slice none 0 0] : Array Value).all (·.oneCell') = true := by simp [Value.oneCell']
     have HE := Lib.hid (fun W' => DSt.fin (w' := W') KN.out rfl hbl)
     go_wp2_with (first
      | (refine wpList_load_row (by rfl) 88 _ (by rfl) (w.heap.size + 1) (by rfl) 88 #[.int .i64 6, .int .i64 0, .int .i64 0, .int .i64 0, .complex .f64 0 0, .string ⟨#[]⟩, .int .i64 0, .int .i64 0, .slice none 0 0, .slice A cs.length cap, .slice none 0 0] (0, 0) _ KN.out.fr.t Tryz.underlying88 (by rfl) (by rw [size11]; rfl) ?_)
      | (refine wpList_store_row (by rfl) _ _ _ (by rfl) w.heap.size #[.int .i64 6, .int .i64 0, .int .i64 0, .int .i64 0, .complex .f64 0 0, .string ⟨#[]⟩, .int .i64 0, .int .i64 0, .slice none 0 0, .slice A cs.length cap, .slice none 0 0] (by rfl) (by rfl) 88 ZQ KN.out.fr.o (by rw [size11]; rfl) (by rfl) hone ?_; have HE2 := HE.out _ rfl; generalize World.setRow _ _ _ = W5 at HE2 ⊢; clear HE; obtain ⟨e1, e2⟩ := HE2; have E2 := Lib.hid e2; obtain ⟨z0, z1, z2, z3, z4, z5, z6, z7, z8, z9, z10⟩ := Bk.eleven e1; clear e1 e2))
     refine bodyPost_ret (v := .agg #[.int .i64 6, .int .i64 0, .int .i64 0, .int .i64 0, .complex .f64 0 0, .string ⟨#[]⟩, .int .i64 0, .int .i64 0, .slice none 0 0, .slice A cs.length cap, .slice none 0 0]) (by simp [results, Tryz.results55, go_sem, z0, z1, z2, z3, z4, z5, z6, z7, z8, z9, z10]) rfl ?_
     rw [HRE.out]
     exact ⟨#[.int .i64 6, .int .i64 0, .int .i64 0, .int .i64 0, .complex .f64 0 0, .string ⟨#[]⟩, .int .i64 0, .int .i64 0, .slice none 0 0, .slice A cs.length cap, .slice none 0 0], _, _, _, rfl, rfl, qD_len _ _ _ _ zt_len, qD_one _ _ zt_one (show D.One (.sl _ _) from trivial) (show D.One (.sl _ _) from trivial), E2.out.1, E2.out.2.1, E2.out.2.2, rfl⟩
theorem dpat_any (s : ByteArray) (d0 : Nat) : DPatOk s d0 := by
 induction d0 with
 | zero =>
  intro b p v w hv hb hp hs
  cases h1 : rCnt s p with
  | bad t => exact dpat_goa s 0 (fun d h => by omega) b p v w hv hb hp hs t h1
  | ok k q => exact dpat_gob s 0 (fun d h => by omega) b p v w hv hb hp hs k q h1 (by omega)
 | succ d ih =>
  have ih' : ∀ d', d + 1 = d' + 1 → DPatOk s d' := fun d' h => by
   obtain rfl : d = d' := by omega
   exact ih
  intro b p v w hv hb hp hs
  cases h1 : rCnt s p with
  | bad t => exact dpat_goa s (d + 1) ih' b p v w hv hb hp hs t h1
  | ok k q =>
   by_cases hin : 1 ≤ k ∧ k ≤ 6
   ·rcases (by omega : k = 1 ∨ k = 2 ∨ k = 3 ∨ k = 4 ∨ k = 5 ∨ k = 6) with rfl | rfl | rfl | rfl | rfl | rfl
    ·exact dpat_go1 s (d + 1) ih' b p v w hv hb hp hs q d rfl h1
    ·exact dpat_go2 s (d + 1) ih' b p v w hv hb hp hs q d rfl h1
    ·exact dpat_go3 s (d + 1) ih' b p v w hv hb hp hs q d rfl h1
    ·exact dpat_go4 s (d + 1) ih' b p v w hv hb hp hs q d rfl h1
    ·exact dpat_go5 s (d + 1) ih' b p v w hv hb hp hs q d rfl h1
    ·exact dpat_go6 s (d + 1) ih' b p v w hv hb hp hs q d rfl h1
   ·exact dpat_gob s (d + 1) ih' b p v w hv hb hp hs k q h1 (fun h => hin h.1)
end Go.Proofs.YtcdefnbehlcgeaaGreatDoor
