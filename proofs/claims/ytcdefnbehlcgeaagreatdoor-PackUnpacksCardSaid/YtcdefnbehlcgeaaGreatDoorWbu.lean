/- The document's reader of a module.. -/
import Derived.Test.YtcdefnbehlcgeaaGreatDoorWbt
set_option maxHeartbeats 16000000
set_option maxRecDepth 20000
set_option linter.unusedSimpArgs false
set_option linter.unusedVariables false
namespace Go.Proofs.YtcdefnbehlcgeaaGreatDoor
open Go.RowKit
abbrev DM := DSt 24 ZM
theorem head_list : (⟨#[67, 82, 77, 49]⟩ : ByteArray).toList = [67, 82, 77, 49] := by kernel_rfl
theorem isMod_yes {s : ByteArray} (h : isMod s = true) : 4 ≤ s.size ∧ ((s.extract 0 4).toList == [67, 82, 77, 49]) = true := by
 unfold isMod at h
 rw [Bool.and_eq_true] at h
 have h2 := h.2
 rw [head_list] at h2
 exact ⟨of_decide_eq_true h.1, h2⟩
theorem isMod_no {s : ByteArray} (h : isMod s = false) (h4 : 4 ≤ s.size) : ((s.extract 0 4).toList == [67, 82, 77, 49]) = false := by
 unfold isMod at h
 rw [Bool.and_eq_false_iff] at h
 rcases h with h | h
 ·exact absurd h4 (of_decide_eq_false h)
 ·rw [head_list] at h
  exact h
theorem ZM_dvs {w : World} {F : Nat → Prop} (nm : ByteArray) {d : D} {u : Value} (h : DV w F d u) : DVs w F [.v (.string nm), d] [.string nm, u] := ⟨_, _, rfl, DV.v.2 rfl, _, _, rfl, h, rfl⟩
theorem ZM_one (nm : ByteArray) (n : Nat) (l : List D) : ∀ d ∈ [D.v (.string nm), D.sl n l], d.One := by
 intro d hd
 simp only [List.mem_cons, List.not_mem_nil, or_false] at hd
 rcases hd with rfl | rfl
 ·rfl
 ·trivial
theorem Bk.two2 {w : World} {b : Nat} {t : TypeId} {v0 v1 : Value} (h : Bk w b t #[v0, v1]) : w.cell? ⟨b, 0, none⟩ = some v0 ∧ w.cell? ⟨b, 1, none⟩ = some v1 := ⟨h.cell0 rfl, h.cell0 rfl⟩
theorem dmod_go (s : ByteArray) (b : Nat) (w : World) (hm : isMod s = true) (hb : Rdc w b s 0 (-1)) (hs : s.size ≤ 262144) :
 Calls Tryz.prog 11 #[.pointer (some ⟨b, 0, none⟩)] w fun e w' => DS b s 2 Md.ds (rMod s) w e w' := by
 have hbl := Bk.lt hb
 obtain ⟨h4, heq⟩ := isMod_yes hm
 have KS0 : Hid (DM s b w.heap.size w ((w.alloc (.cells ZM 24)).alloc (.cells ZM 24)) 0 (-1) [.v (.string ⟨#[]⟩), .sl 0 []] ZM) := Lib.hid (DSt.made hb (ZM_dvs _ (DV.none0 _ _)))
 obtain ⟨R, hR⟩ : ∃ R, rMod s = R := ⟨_, rfl⟩
 have HR : Hid (rMd s 4 = R) := Lib.hid (by rw [← hR]; unfold rMod; rw [if_pos hm])
 rw [hR]
 have hd4 : decide ((s.size : Int) < 4) = false := decide_eq_false (by omega)
 have hl4 : (4 : Int) ≤ (s.size : Int) := by omega
 have c0 := (Rdc.three KS0.out.rd).1
 have c1 : ((w.alloc (.cells #[.string ⟨#[]⟩, .slice none 0 0] 24)).alloc (.cells #[.string ⟨#[]⟩, .slice none 0 0] 24)).cell? ⟨b, 1, none⟩ = some (.int .i64 0) := (Rdc.three KS0.out.rd).2.1
 have z0 : ∀ x : Cm ((w.alloc (.cells ZM 24)).alloc (.cells ZM 24)), x.1.cell? ⟨b, 0, none⟩ = some (.string s) := Cm.cell c0
 have z1 : ∀ x : Cm ((w.alloc (.cells ZM 24)).alloc (.cells ZM 24)), x.1.cell? ⟨b, 1, none⟩ = some (.int .i64 0) := Cm.cell c1
 clear hR hm
 go_enter Tryz.func11, Tryz.ntmps11
 go_wp2_with fail
 refine wp_region_calm (by kernel_rfl) (by kernel_rfl) ?_
 repeat (go_big_quiet_step (fail))
 refine wpQuiet_nil ?_
 rintro w5 ⟨⟨w5', o5⟩, e5⟩
 obtain rfl : w5 = w5' := e5
 have KA := Lib.hid (KS0.out.call0 o5 hbl)
 have c1 : w5.cell? ⟨b, 1, none⟩ = some (.int .i64 0) := (Rdc.three KA.out.rd).2.1
 have f1 := KA.out.rd.free 1
 have RB : Hid (Rdc (w5.setCell ⟨b, 1, none⟩ (.int .i64 4)) b s 4 (-1)) := Lib.hid (by
  have := Bk.set KA.out.rd 1 (.int .i64 ((4 : Nat) : Int))
  exact this)
 have KB : Hid (DM s b w.heap.size w (w5.setCell ⟨b, 1, none⟩ (.int .i64 4)) 4 (-1) [.v (.string ⟨#[]⟩), .sl 0 []] ZM) := Lib.hid (KA.out.call ((Only.refl [b] w5).set (p := ⟨b, 1, none⟩) (.inl (by simp)) _) RB.out hbl)
 have HN := Lib.hid (dname_x b s 4 _ KB.out.rd (by omega) hs)
 clear z0 z1 o5 c0
 go_wp2_with fail
 clear c1 f1
 (with_reducible refine HN.out.mono ?_)
 rintro e w6 ⟨nm, p1, bd1, rfl, g3, g4, N1⟩
 have KC := Lib.hid (KB.out.call g4 g3 hbl)
 have KD := Lib.hid (KC.out.put (l' := [.v (.string nm), .sl 0 []]) (us' := #[.string nm, .slice none 0 0]) rfl hbl 0 (.string nm) rfl (ZM_dvs _ (DV.none0 _ _)))
 obtain ⟨x0, x1⟩ := Bk.two2 KC.out.fr.t
 have k0 := KC.out.fr.t.free 0
 have G1 := Lib.hid (NN.gd N1)
 have M1 := Lib.hid N1
 have HM := Lib.hid (dmany_x b s _ _ _ KD.out.rd G1.out hs)
 clear g3 g4 N1 HN
 go_wp2_with fail
 clear x0 x1 k0
 (with_reducible refine HM.out.mono ?_)
 rintro e w7 ⟨nn, p5, bd5, rfl, g3, g4, N5⟩
 obtain ⟨n, rfl, hn⟩ := Nx.nat N5
 have KE := Lib.hid (KD.out.call g4 g3 hbl)
 have G9 := Lib.hid (Nx.gd N5)
 obtain ⟨R2, hR2⟩ : ∃ R2, rFrom (rFn s) n p5 bd5 = R2 := ⟨_, rfl⟩
 have HRE0 : Hid (R = R2.map fun l => (⟨nm, l⟩ : Md)) := Lib.hid (by rw [← HR.out, md_from M1.out N5, hR2])
 have HR2 := Lib.hid hR2
 clear g3 g4 HM N5 hR2 HR
 go_wp2_with fail
 go_loopw [6] (fun iv wr => DMLp s b w.heap.size w nm n R2 iv wr) (fun iv _ => n - (intOf iv).toNat)
 case atStart =>
  refine ⟨[], .slice none 0 0, p5, bd5, rfl, Nat.zero_le _, ⟨KE.out.fr, KE.out.rd, KE.out.on, OwnC.nil _ _ _⟩, ?_⟩
  rcases G9.out with ⟨rfl, h⟩ | ⟨t, rfl⟩
  ·refine .inl ⟨rfl, h, [], rfl, rfl, ?_⟩
   rw [← HR2.out]
   show Rs.map _ (rMany _ (n - 0) p5) = rMany (rFn s) n p5
   rw [Nat.sub_zero]
   cases rMany (rFn s) n p5 <;> rfl
  ·refine .inr ⟨t, rfl, ?_⟩
   rw [← HR2.out]
   unfold rFrom
   rw [if_neg (by omega)]
   rfl
 case round =>
  obtain ⟨w0, hw0⟩ : ∃ x, x = wr := ⟨wr, rfl⟩
  subst hw0
  obtain ⟨cs, lv, p2, bd, rfl, hcn, hL, h6⟩ := hrel
  obtain ⟨A, cap, hlv⟩ := hL.own.form
  subst hlv
  have KL := Lib.hid hL
  obtain ⟨x0, x1⟩ := Bk.two2 hL.fr.t
  obtain ⟨c0, c1, c2⟩ := Rdc.three hL.rd
  have hszr := Bk.lt hL.fr.t
  have hbr : b < w0.heap.size := Bk.lt hL.rd
  clear KE KD KC KB KA KS0 hL RB HR2
  rcases h6 with ⟨rfl, hp2, xs, hxl, hxc, hxr⟩ | ⟨t, rfl, hRb⟩
  ·by_cases hlt : cs.length < n
   ·have hl' : (cs.length : Int) < (n : Int) := by omega
    have hrm : rMany (rFn s) (n - cs.length) p2 = (rFn s p2).bind fun x q => (rMany (rFn s) (n - (cs.length + 1)) q).bind fun l r => .ok (x :: l) r := by
     rw [show n - cs.length = (n - (cs.length + 1)) + 1 by omega]
     rfl
    rw [hrm] at hxr
    have KX := Lib.hid hxr
    have KY := Lib.hid hxc
    have hcl : cs.length ≤ 262144 := by omega
    have F0 : Hid (FW (fun lv => #[.string ⟨#[]⟩, .int .i64 0, .int .i64 0, lv]) s b w0 (w0.alloc (.cells ZF 45)) (.slice none 0 0) [] p2 (-1)) := Lib.hid ⟨Bk.made w0 _ _, Bk.alloc KL.out.rd _, (Only.refl [b] w0).alloc _, OwnC.nil _ _ _⟩
    have HN := Lib.hid (dname_x b s p2 _ F0.out.rd hp2 hs)
    clear hrm hxr hxc
    go_wp2_with fail
    clear x0 x1 c0 c1 c2
    (with_reducible refine HN.out.mono ?_)
    rintro e w6 ⟨fnm, q1, e1, rfl, g3, g4, N1⟩
    have F1 := Lib.hid (F0.out.call g4 g3 hbr)
    have F2 : Hid (FW (fun lv => #[.string fnm, .int .i64 0, .int .i64 0, lv]) s b w0 (w6.setCell ⟨w0.heap.size, 0, none⟩ (.string fnm)) (.slice none 0 0) [] q1 e1) := Lib.hid ⟨by simpa using Bk.set F1.out.bk 0 (.string fnm), Bk.away F1.out.rd (by show b ≠ w0.heap.size; omega) _, F1.out.on.set (.inr (by show w0.heap.size ≤ w0.heap.size; omega)) _, OwnC.nil _ _ _⟩
    have y0 := F1.out.bk.cell0 (i := 0) rfl
    have t0 := F1.out.bk.free 0
    have GG1 := Lib.hid (NN.gd N1)
    have MM0 := Lib.hid N1
    have H1 := Lib.hid (dcnt_x b s _ _ _ F2.out.rd GG1.out hs)
    clear g3 g4 N1 HN F0
    go_wp2_with fail
    clear y0 t0
    (with_reducible refine H1.out.mono ?_)
    rintro e w8 ⟨na, q2, e2, rfl, g3, g4, N2⟩
    obtain ⟨a, rfl⟩ := Nx.isNat N2
    have F3 := Lib.hid (F2.out.call g4 g3 hbr)
    have F4 : Hid (FW (fun lv => #[.string fnm, .int .i64 a, .int .i64 0, lv]) s b w0 (w8.setCell ⟨w0.heap.size, 1, none⟩ (.int .i64 a)) (.slice none 0 0) [] q2 e2) := Lib.hid ⟨by simpa using Bk.set F3.out.bk 1 (.int .i64 (a : Int)), Bk.away F3.out.rd (by show b ≠ w0.heap.size; omega) _, F3.out.on.set (.inr (by show w0.heap.size ≤ w0.heap.size; omega)) _, OwnC.nil _ _ _⟩
    have y1 := F3.out.bk.cell0 (i := 1) rfl
    have t1 := F3.out.bk.free 1
    have GG2 := Lib.hid (Nx.gd N2)
    have MM1 := Lib.hid N2
    have H2 := Lib.hid (dcnt_x b s _ _ _ F4.out.rd GG2.out hs)
    clear g3 g4 N2 H1 F1 F2
    go_wp2_with fail
    clear y1 t1
    (with_reducible refine H2.out.mono ?_)
    rintro e w9 ⟨nc, q3, e3, rfl, g3, g4, N3⟩
    obtain ⟨c, rfl⟩ := Nx.isNat N3
    have F5 := Lib.hid (F4.out.call g4 g3 hbr)
    have F6 : Hid (FW (fun lv => #[.string fnm, .int .i64 a, .int .i64 c, lv]) s b w0 (w9.setCell ⟨w0.heap.size, 2, none⟩ (.int .i64 c)) (.slice none 0 0) [] q3 e3) := Lib.hid ⟨by simpa using Bk.set F5.out.bk 2 (.int .i64 (c : Int)), Bk.away F5.out.rd (by show b ≠ w0.heap.size; omega) _, F5.out.on.set (.inr (by show w0.heap.size ≤ w0.heap.size; omega)) _, OwnC.nil _ _ _⟩
    have y2 := F5.out.bk.cell0 (i := 2) rfl
    have t2 := F5.out.bk.free 2
    have GG3 := Lib.hid (Nx.gd N3)
    have MM2 := Lib.hid N3
    have H3 := Lib.hid (dmany_x b s _ _ _ F6.out.rd GG3.out hs)
    clear g3 g4 N3 H2 F3 F4
    go_wp2_with fail
    clear y2 t2
    (with_reducible refine H3.out.mono ?_)
    rintro e w10 ⟨nm3, q4, e4, rfl, g3, g4, N4⟩
    obtain ⟨mi, rfl, hmi⟩ := Nx.nat N4
    have F7 := Lib.hid (F6.out.call g4 g3 hbr)
    have GG4 := Lib.hid (Nx.gd N4)
    obtain ⟨R3, hR3⟩ : ∃ R3, rFrom (rIn s) mi q4 e4 = R3 := ⟨_, rfl⟩
    have HFn : Hid (rFn s p2 = R3.map fun l => (⟨fnm, (a : Int), (c : Int), l⟩ : Fu)) := Lib.hid (by rw [fn_from MM0.out MM1.out MM2.out N4, hR3])
    have HR3 := Lib.hid hR3
    clear g3 g4 N4 H3 F5 F6 hR3
    go_wp2_with fail
    go_loopw [9] (fun iv wr => DFLp s b w0 fnm (a : Int) (c : Int) mi R3 iv wr) (fun iv _ => mi - (intOf iv).toNat)
    case atStart =>
     refine ⟨[], .slice none 0 0, q4, e4, rfl, Nat.zero_le _, F7.out, ?_⟩
     rcases GG4.out with ⟨rfl, h⟩ | ⟨t, rfl⟩
     ·refine .inl ⟨rfl, h, [], rfl, rfl, ?_⟩
      rw [← HR3.out]
      show Rs.map _ (rMany _ (mi - 0) q4) = rMany (rIn s) mi q4
      rw [Nat.sub_zero]
      cases rMany (rIn s) mi q4 <;> rfl
     ·refine .inr ⟨t, rfl, ?_⟩
      rw [← HR3.out]
      unfold rFrom
      rw [if_neg (by omega)]
      rfl
    case round =>
     obtain ⟨ds, lv2, p3, be, rfl, hdn, hF, h7⟩ := hrel
     obtain ⟨B, dcap, hlv2⟩ := hF.own.form
     subst hlv2
     have FL := Lib.hid hF
     have FB := Lib.hid (show Bk wr w0.heap.size 45 #[.string fnm, .int .i64 a, .int .i64 c, .slice B ds.length dcap] from hF.bk)
     have y3 := hF.bk.cell0 (i := 3) rfl
     have t3 := hF.bk.free 3
     obtain ⟨c0, c1, c2⟩ := Rdc.three hF.rd
     have hszf := Bk.lt hF.bk
     have hLO := KL.out.call hF.on hF.rd hbl
     have LO := Lib.hid hLO
     have x1 := hLO.fr.t.cell0 (i := 1) rfl
     clear F7 HR3 GG4 hF hLO
     rcases h7 with ⟨rfl, hp3, ys, hyl, hyc, hyr⟩ | ⟨t, rfl, hRb⟩
     ·by_cases hlt2 : ds.length < mi
      ·have hl2 : (ds.length : Int) < (mi : Int) := by omega
       have HC : Hid (∀ W, Rdc W b s p3 (-1) → Calls Tryz.prog 31 #[.pointer (some ⟨b, 0, none⟩)] W fun e w' => DS b s 11 In.ds (rIn s p3) W e w') := Lib.hid (fun W h => din_any s b p3 W h hp3 hs)
       have hrm : rMany (rIn s) (mi - ds.length) p3 = (rIn s p3).bind fun x q => (rMany (rIn s) (mi - (ds.length + 1)) q).bind fun l r => .ok (x :: l) r := by
        rw [show mi - ds.length = (mi - (ds.length + 1)) + 1 by omega]
        rfl
       rw [hrm] at hyr
       have JX := Lib.hid hyr
       have JY := Lib.hid hyc
       have hdl : ds.length ≤ 262144 := by omega
       clear hrm hyr hyc x1
       go_wp2_with fail
       go_region_law (first
        | (go_simp; go_at_call 31; (with_reducible refine (HC.out _ (Bk.drew FL.out.rd)).mono ?_); rintro e w3 ⟨us, l3, p6, bd6, rfl, hus, hl3, ho3, hd3, hr3, on3, hst3⟩; obtain ⟨v0, v1, v2, v3, v4, v5, v6, v7, v8, v9, v10, rfl⟩ := eleven_of hus; have L3' := FL.out.call ((Only.drew (Only.refl [b] wr)).trans on3 (fun i hi => .inl hi)) hr3 hbr; have s3 := L3'.bk.cell0 (i := 3) rfl; have s4 := (L3'.alloc (.cells #[v0, v1, v2, v3, v4, v5, v6, v7, v8, v9, v10] 55)).bk.cell0 (i := 3) rfl; have sz3 := on3.size; have L3 := Lib.hid (L3'.alloc (.cells #[v0, v1, v2, v3, v4, v5, v6, v7, v8, v9, v10] 55)); have D3 := Lib.hid (DVs.only ((Only.refl [] w3).alloc (.cells #[v0, v1, v2, v3, v4, v5, v6, v7, v8, v9, v10] 55)) (by simp) (fun _ h => h) hd3); have HO3 := Lib.hid ho3; have ST3 := Lib.hid hst3; clear hd3 hr3 on3 hst3 ho3 L3')
        | (refine step_appC KIn (by rfl) _ _ (by rfl) (base := w0.heap.size + 1) (v := .slice B ds.length dcap) (cs := ds) (by rfl) L3.out.own _ #[v0, v1, v2, v3, v4, v5, v6, v7, v8, v9, v10] l3 (by rfl) (Bk.newAt (by simp)) wr (by rw [size_al]; exact Nat.le_succ_of_le sz3) (fun g hg => (FL.out.own.block hg).2) (by omega) D3.out hl3 HO3.out hdl _ rfl ?_; intro g5 cap5 w5 hown hgrow; have GG := FW.gro L3.out hown hgrow hbr 3 rfl; have y4 := GG.1.cell0 (i := 3) rfl; have fy4 := GG.1.free 3; have G2 := Lib.hid GG.2; clear GG hown hgrow)
        | fail)
       all_goals
        go_wp2_with fail
        go_roundw
        case rel =>
         refine ⟨ds ++ [⟨l3, hl3, HO3.out⟩], _, p6, bd6, by simp, by simp; omega, G2.out, ?_⟩
         have hst := ST3.out
         have hyr := JX.out
         cases ho : rIn s p3 with
         | ok x t =>
          rw [ho] at hst hyr
          obtain ⟨rfl, rfl, rfl, hps⟩ := hst
          refine .inl ⟨rfl, hps, ys ++ [x], by simp [hyl], by simp [JY.out], ?_⟩
          rw [← hyr]
          simp only [Rs.map, Rs.bind, List.length_append, List.length_cons, List.length_nil]
          cases rMany (rIn s) (mi - (ds.length + 1)) p6 <;> simp
         | bad t =>
          rw [ho] at hst hyr
          exact .inr ⟨t, hst, by rw [← hyr]; rfl⟩
        case measure =>
         simp [intOf]
         omega
      ·have hl2 : ¬ (ds.length : Int) < (mi : Int) := by omega
       have hr3 : R3 = .ok ys p3 := by
        rw [← hyr, show mi - ds.length = 0 by omega]
        simp [rMany, Rs.map, Rs.bind]
       have HST : Hid ((((-1 : Int) = -1 ∧ p3 ≤ s.size ∧ ∃ zs : List Fu, zs.length = cs.length + 1 ∧ (cs.flatMap (fun c => c.1)) ++ [D.v (.string fnm), D.v (.int .i64 a), D.v (.int .i64 c), D.sl ds.length (ds.flatMap fun c => c.1)] = zs.flatMap Fu.ds ∧ (rMany (rFn s) (n - (cs.length + 1)) p3).map (fun l => zs ++ l) = R2) ∨ ∃ t : Nat, (-1 : Int) = (t : Int) ∧ R2 = .bad t)) := Lib.hid (.inl ⟨rfl, hp3, xs ++ [⟨fnm, a, c, ys⟩], by simp [hxl], by simp [KY.out, Fu.ds, hyl, hyc], by
        have h := KX.out
        rw [HFn.out, hr3] at h
        rw [← h]
        simp only [Rs.map, Rs.bind]
        cases rMany (rFn s) (n - (cs.length + 1)) p3 <;> simp⟩)
       clear hr3 hyr hyc
       have LA := Lib.hid (LO.out.alloc (.cells #[.string fnm, .int .i64 a, .int .i64 c, .slice B ds.length dcap] 45))
       have DA : Hid (DVs (wr.alloc (.cells #[.string fnm, .int .i64 a, .int .i64 c, .slice B ds.length dcap] 45)) (fun g => w0.heap.size ≤ g) [D.v (.string fnm), D.v (.int .i64 a), D.v (.int .i64 c), D.sl ds.length (ds.flatMap fun c => c.1)] (#[.string fnm, .int .i64 a, .int .i64 c, .slice B ds.length dcap] : Array Value).toList) := Lib.hid (DVs.only ((Only.refl [] wr).alloc _) (by simp) (fun _ h => h) ⟨_, _, rfl, DV.v.2 rfl, _, _, rfl, DV.v.2 rfl, _, _, rfl, DV.v.2 rfl, _, _, rfl, DV.more (fun g hg => by omega) FL.out.own.dv, rfl⟩)
       have HO4 : Hid (∀ d ∈ [D.v (.string fnm), D.v (.int .i64 a), D.v (.int .i64 c), D.sl ds.length (ds.flatMap fun c => c.1)], d.One) := Lib.hid (fun d hd => by
        simp only [List.mem_cons, List.not_mem_nil, or_false] at hd
        rcases hd with rfl | rfl | rfl | rfl <;> first | rfl | trivial)
       have szw := FL.out.on.size
       go_wp2_with (first
        | (refine wpList_load_row (by rfl) 45 _ (by rfl) w0.heap.size (by rfl) 45 #[.string fnm, .int .i64 a, .int .i64 c, .slice B ds.length dcap] (0, 0) _ FB.out Tryz.underlying45 (by rfl) (by rw [size4]; rfl) ?_)
        | (refine wpList_appC KFu (by rfl) _ _ (by rfl) (base := w.heap.size + 2) (v := .slice A cs.length cap) (cs := cs) (by rfl) LA.out.own _ #[.string fnm, .int .i64 a, .int .i64 c, .slice B ds.length dcap] [D.v (.string fnm), D.v (.int .i64 a), D.v (.int .i64 c), D.sl ds.length (ds.flatMap fun c => c.1)] (by rfl) (Bk.newAt (by simp)) w0 (by rw [size_al]; exact Nat.le_succ_of_le szw) (fun g hg => (KL.out.own.block hg).2) (by omega) DA.out rfl HO4.out hcl _ rfl ?_; intro g5 cap5 w5 hown hgrow; have GG := LW.gro LA.out hown hgrow rfl hbl 1 rfl; have y10 := GG.1.t.cell0 (i := 1) rfl; have fy10 := GG.1.t.free 1; have G2' := Lib.hid GG.2; clear GG hown hgrow))
       go_roundw
       case rel =>
        refine ⟨cs ++ [⟨[D.v (.string fnm), D.v (.int .i64 a), D.v (.int .i64 c), D.sl ds.length (ds.flatMap fun c => c.1)], rfl, HO4.out⟩], _, p3, _, by simp, by simp; omega, G2'.out, ?_⟩
        have := HST.out
        simpa using this
       case measure =>
        simp [intOf]
        omega
     ·have ht0 : ¬ (t : Int) < 0 := by omega
      have htd : decide ((t : Int) < 0) = false := decide_eq_false ht0
      have HST : Hid ((((t : Int) = -1 ∧ p3 ≤ s.size ∧ ∃ zs : List Fu, zs.length = cs.length + 1 ∧ (cs.flatMap (fun c => c.1)) ++ [D.v (.string fnm), D.v (.int .i64 a), D.v (.int .i64 c), D.sl ds.length (ds.flatMap fun c => c.1)] = zs.flatMap Fu.ds ∧ (rMany (rFn s) (n - (cs.length + 1)) p3).map (fun l => zs ++ l) = R2) ∨ ∃ t' : Nat, (t : Int) = (t' : Int) ∧ R2 = .bad t')) := Lib.hid (.inr ⟨t, rfl, by
       have h := KX.out
       rw [HFn.out, hRb] at h
       exact h.symm⟩)
      clear hRb
      by_cases hlt2 : ds.length < mi
      ·have hl2 : (ds.length : Int) < (mi : Int) := by omega
       have LA := Lib.hid (LO.out.alloc (.cells #[.string fnm, .int .i64 a, .int .i64 c, .slice B ds.length dcap] 45))
       have DA : Hid (DVs (wr.alloc (.cells #[.string fnm, .int .i64 a, .int .i64 c, .slice B ds.length dcap] 45)) (fun g => w0.heap.size ≤ g) [D.v (.string fnm), D.v (.int .i64 a), D.v (.int .i64 c), D.sl ds.length (ds.flatMap fun c => c.1)] (#[.string fnm, .int .i64 a, .int .i64 c, .slice B ds.length dcap] : Array Value).toList) := Lib.hid (DVs.only ((Only.refl [] wr).alloc _) (by simp) (fun _ h => h) ⟨_, _, rfl, DV.v.2 rfl, _, _, rfl, DV.v.2 rfl, _, _, rfl, DV.v.2 rfl, _, _, rfl, DV.more (fun g hg => by omega) FL.out.own.dv, rfl⟩)
       have HO4 : Hid (∀ d ∈ [D.v (.string fnm), D.v (.int .i64 a), D.v (.int .i64 c), D.sl ds.length (ds.flatMap fun c => c.1)], d.One) := Lib.hid (fun d hd => by
        simp only [List.mem_cons, List.not_mem_nil, or_false] at hd
        rcases hd with rfl | rfl | rfl | rfl <;> first | rfl | trivial)
       have szw := FL.out.on.size
       go_wp2_with (first
        | (refine wpList_load_row (by rfl) 45 _ (by rfl) w0.heap.size (by rfl) 45 #[.string fnm, .int .i64 a, .int .i64 c, .slice B ds.length dcap] (0, 0) _ FB.out Tryz.underlying45 (by rfl) (by rw [size4]; rfl) ?_)
        | (refine wpList_appC KFu (by rfl) _ _ (by rfl) (base := w.heap.size + 2) (v := .slice A cs.length cap) (cs := cs) (by rfl) LA.out.own _ #[.string fnm, .int .i64 a, .int .i64 c, .slice B ds.length dcap] [D.v (.string fnm), D.v (.int .i64 a), D.v (.int .i64 c), D.sl ds.length (ds.flatMap fun c => c.1)] (by rfl) (Bk.newAt (by simp)) w0 (by rw [size_al]; exact Nat.le_succ_of_le szw) (fun g hg => (KL.out.own.block hg).2) (by omega) DA.out rfl HO4.out hcl _ rfl ?_; intro g5 cap5 w5 hown hgrow; have GG := LW.gro LA.out hown hgrow rfl hbl 1 rfl; have y10 := GG.1.t.cell0 (i := 1) rfl; have fy10 := GG.1.t.free 1; have G2' := Lib.hid GG.2; clear GG hown hgrow))
       go_roundw
       case rel =>
        refine ⟨cs ++ [⟨[D.v (.string fnm), D.v (.int .i64 a), D.v (.int .i64 c), D.sl ds.length (ds.flatMap fun c => c.1)], rfl, HO4.out⟩], _, p3, _, by simp, by simp; omega, G2'.out, ?_⟩
        have := HST.out
        simpa using this
       case measure =>
        simp [intOf]
        omega
      ·have hl2 : ¬ (ds.length : Int) < (mi : Int) := by omega
       have LA := Lib.hid (LO.out.alloc (.cells #[.string fnm, .int .i64 a, .int .i64 c, .slice B ds.length dcap] 45))
       have DA : Hid (DVs (wr.alloc (.cells #[.string fnm, .int .i64 a, .int .i64 c, .slice B ds.length dcap] 45)) (fun g => w0.heap.size ≤ g) [D.v (.string fnm), D.v (.int .i64 a), D.v (.int .i64 c), D.sl ds.length (ds.flatMap fun c => c.1)] (#[.string fnm, .int .i64 a, .int .i64 c, .slice B ds.length dcap] : Array Value).toList) := Lib.hid (DVs.only ((Only.refl [] wr).alloc _) (by simp) (fun _ h => h) ⟨_, _, rfl, DV.v.2 rfl, _, _, rfl, DV.v.2 rfl, _, _, rfl, DV.v.2 rfl, _, _, rfl, DV.more (fun g hg => by omega) FL.out.own.dv, rfl⟩)
       have HO4 : Hid (∀ d ∈ [D.v (.string fnm), D.v (.int .i64 a), D.v (.int .i64 c), D.sl ds.length (ds.flatMap fun c => c.1)], d.One) := Lib.hid (fun d hd => by
        simp only [List.mem_cons, List.not_mem_nil, or_false] at hd
        rcases hd with rfl | rfl | rfl | rfl <;> first | rfl | trivial)
       have szw := FL.out.on.size
       go_wp2_with (first
        | (refine wpList_load_row (by rfl) 45 _ (by rfl) w0.heap.size (by rfl) 45 #[.string fnm, .int .i64 a, .int .i64 c, .slice B ds.length dcap] (0, 0) _ FB.out Tryz.underlying45 (by rfl) (by rw [size4]; rfl) ?_)
        | (refine wpList_appC KFu (by rfl) _ _ (by rfl) (base := w.heap.size + 2) (v := .slice A cs.length cap) (cs := cs) (by rfl) LA.out.own _ #[.string fnm, .int .i64 a, .int .i64 c, .slice B ds.length dcap] [D.v (.string fnm), D.v (.int .i64 a), D.v (.int .i64 c), D.sl ds.length (ds.flatMap fun c => c.1)] (by rfl) (Bk.newAt (by simp)) w0 (by rw [size_al]; exact Nat.le_succ_of_le szw) (fun g hg => (KL.out.own.block hg).2) (by omega) DA.out rfl HO4.out hcl _ rfl ?_; intro g5 cap5 w5 hown hgrow; have GG := LW.gro LA.out hown hgrow rfl hbl 1 rfl; have y10 := GG.1.t.cell0 (i := 1) rfl; have fy10 := GG.1.t.free 1; have G2' := Lib.hid GG.2; clear GG hown hgrow))
       go_roundw
       case rel =>
        refine ⟨cs ++ [⟨[D.v (.string fnm), D.v (.int .i64 a), D.v (.int .i64 c), D.sl ds.length (ds.flatMap fun c => c.1)], rfl, HO4.out⟩], _, p3, _, by simp, by simp; omega, G2'.out, ?_⟩
        have := HST.out
        simpa using this
       case measure =>
        simp [intOf]
        omega
   ·have hl' : ¬ (cs.length : Int) < (n : Int) := by omega
    have hr2 : R2 = .ok xs p2 := by
     rw [← hxr, show n - cs.length = 0 by omega]
     simp [rMany, Rs.map, Rs.bind]
    have KN : Hid (DM s b w.heap.size w w0 p2 (-1) [.v (.string nm), .sl cs.length (cs.flatMap fun c => c.1)] #[.string nm, .slice A cs.length cap]) := Lib.hid ⟨KL.out.fr, KL.out.rd, KL.out.on, ZM_dvs _ KL.out.own.dv⟩
    have HRE : Hid (R = .ok (⟨nm, xs⟩ : Md) p2) := Lib.hid (by rw [HRE0.out, hr2]; rfl)
    have STK : Hid (StOk s Md.ds (.ok (⟨nm, xs⟩ : Md) p2) [.v (.string nm), .sl cs.length (cs.flatMap fun c => c.1)] p2 (-1)) := Lib.hid ⟨by simp only [Md.ds, hxl, hxc], rfl, rfl, hp2⟩
    clear hr2 hxr hxc HRE0
    have hone : (#[.string nm, .slice A cs.length cap] : Array Value).all (·.oneCell') = true := by simp [Value.oneCell']
    have HE := Lib.hid (fun W' => DSt.fin (w' := W') KN.out rfl hbl)
    go_wp2_with (first
     | (refine wpList_load_row (by rfl) 24 _ (by rfl) (w.heap.size + 1) (by rfl) 24 #[.string nm, .slice A cs.length cap] (0, 0) _ KN.out.fr.t Tryz.underlying24 (by rfl) (by rw [size2]; rfl) ?_)
     | (refine wpList_store_row (by rfl) _ _ _ (by rfl) w.heap.size #[.string nm, .slice A cs.length cap] (by rfl) (by rfl) 24 ZM KN.out.fr.o (by rw [size2]; rfl) (by rfl) hone ?_; have HE2 := HE.out _ rfl; generalize World.setRow _ _ _ = W5 at HE2 ⊢; clear HE; obtain ⟨e1, e2⟩ := HE2; have E2 := Lib.hid e2; obtain ⟨z0, z1⟩ := Bk.two2 e1; clear e1 e2))
    refine bodyPost_ret (v := .agg #[.string nm, .slice A cs.length cap]) (by simp [results, Tryz.results11, go_sem, z0, z1]) rfl ?_
    rw [HRE.out]
    exact ⟨#[.string nm, .slice A cs.length cap], _, _, _, rfl, rfl, rfl, ZM_one _ _ _, E2.out.1, E2.out.2.1, E2.out.2.2, STK.out⟩
  ·have ht0 : ¬ (t : Int) < 0 := by omega
   have htd : decide ((t : Int) < 0) = false := decide_eq_false ht0
   have KN : Hid (DM s b w.heap.size w w0 p2 (t : Int) [.v (.string nm), .sl cs.length (cs.flatMap fun c => c.1)] #[.string nm, .slice A cs.length cap]) := Lib.hid ⟨KL.out.fr, KL.out.rd, KL.out.on, ZM_dvs _ KL.out.own.dv⟩
   have HRE : Hid (R = .bad t) := Lib.hid (by rw [HRE0.out, hRb]; rfl)
   have STK : Hid (StOk s Md.ds (.bad t : Rs Md) [.v (.string nm), .sl cs.length (cs.flatMap fun c => c.1)] p2 (t : Int)) := Lib.hid rfl
   clear hRb HRE0
   by_cases hlt : cs.length < n
   ·have hl' : (cs.length : Int) < (n : Int) := by omega
    have hone : (#[.string nm, .slice A cs.length cap] : Array Value).all (·.oneCell') = true := by simp [Value.oneCell']
    have HE := Lib.hid (fun W' => DSt.fin (w' := W') KN.out rfl hbl)
    go_wp2_with (first
     | (refine wpList_load_row (by rfl) 24 _ (by rfl) (w.heap.size + 1) (by rfl) 24 #[.string nm, .slice A cs.length cap] (0, 0) _ KN.out.fr.t Tryz.underlying24 (by rfl) (by rw [size2]; rfl) ?_)
     | (refine wpList_store_row (by rfl) _ _ _ (by rfl) w.heap.size #[.string nm, .slice A cs.length cap] (by rfl) (by rfl) 24 ZM KN.out.fr.o (by rw [size2]; rfl) (by rfl) hone ?_; have HE2 := HE.out _ rfl; generalize World.setRow _ _ _ = W5 at HE2 ⊢; clear HE; obtain ⟨e1, e2⟩ := HE2; have E2 := Lib.hid e2; obtain ⟨z0, z1⟩ := Bk.two2 e1; clear e1 e2))
    refine bodyPost_ret (v := .agg #[.string nm, .slice A cs.length cap]) (by simp [results, Tryz.results11, go_sem, z0, z1]) rfl ?_
    rw [HRE.out]
    exact ⟨#[.string nm, .slice A cs.length cap], _, _, _, rfl, rfl, rfl, ZM_one _ _ _, E2.out.1, E2.out.2.1, E2.out.2.2, STK.out⟩
   ·have hl' : ¬ (cs.length : Int) < (n : Int) := by omega
    have hone : (#[.string nm, .slice A cs.length cap] : Array Value).all (·.oneCell') = true := by simp [Value.oneCell']
    have HE := Lib.hid (fun W' => DSt.fin (w' := W') KN.out rfl hbl)
    go_wp2_with (first
     | (refine wpList_load_row (by rfl) 24 _ (by rfl) (w.heap.size + 1) (by rfl) 24 #[.string nm, .slice A cs.length cap] (0, 0) _ KN.out.fr.t Tryz.underlying24 (by rfl) (by rw [size2]; rfl) ?_)
     | (refine wpList_store_row (by rfl) _ _ _ (by rfl) w.heap.size #[.string nm, .slice A cs.length cap] (by rfl) (by rfl) 24 ZM KN.out.fr.o (by rw [size2]; rfl) (by rfl) hone ?_; have HE2 := HE.out _ rfl; generalize World.setRow _ _ _ = W5 at HE2 ⊢; clear HE; obtain ⟨e1, e2⟩ := HE2; have E2 := Lib.hid e2; obtain ⟨z0, z1⟩ := Bk.two2 e1; clear e1 e2))
    refine bodyPost_ret (v := .agg #[.string nm, .slice A cs.length cap]) (by simp [results, Tryz.results11, go_sem, z0, z1]) rfl ?_
    rw [HRE.out]
    exact ⟨#[.string nm, .slice A cs.length cap], _, _, _, rfl, rfl, rfl, ZM_one _ _ _, E2.out.1, E2.out.2.1, E2.out.2.2, STK.out⟩
theorem dmod_no (s : ByteArray) (b : Nat) (w : World) (hm : isMod s = false) (hb : Rdc w b s 0 (-1)) (hs : s.size ≤ 262144) :
 Calls Tryz.prog 11 #[.pointer (some ⟨b, 0, none⟩)] w fun e w' => DS b s 2 Md.ds (rMod s) w e w' := by
 have hbl := Bk.lt hb
 have KS0 : Hid (DM s b w.heap.size w ((w.alloc (.cells ZM 24)).alloc (.cells ZM 24)) 0 (-1) [.v (.string ⟨#[]⟩), .sl 0 []] ZM) := Lib.hid (DSt.made hb (ZM_dvs _ (DV.none0 _ _)))
 obtain ⟨R, hR⟩ : ∃ R, rMod s = R := ⟨_, rfl⟩
 have HRE : Hid (R = .bad 0) := Lib.hid (by rw [← hR]; unfold rMod; rw [if_neg (by rw [hm]; decide)])
 rw [hR]
 have c0 := (Rdc.three KS0.out.rd).1
 have c1 : ((w.alloc (.cells #[.string ⟨#[]⟩, .slice none 0 0] 24)).alloc (.cells #[.string ⟨#[]⟩, .slice none 0 0] 24)).cell? ⟨b, 1, none⟩ = some (.int .i64 0) := (Rdc.three KS0.out.rd).2.1
 have z0 : ∀ x : Cm ((w.alloc (.cells ZM 24)).alloc (.cells ZM 24)), x.1.cell? ⟨b, 0, none⟩ = some (.string s) := Cm.cell c0
 have z1 : ∀ x : Cm ((w.alloc (.cells ZM 24)).alloc (.cells ZM 24)), x.1.cell? ⟨b, 1, none⟩ = some (.int .i64 0) := Cm.cell c1
 have HW : Hid (∀ w1, Rdc w1 b s 0 (-1) → Calls Tryz.prog 27 #[.pointer (some ⟨b, 0, none⟩), .int .i64 0] w1 fun e w' => e = .returned (.tuple #[]) ∧ Rdc w' b s 0 ((0 : Nat) : Int) ∧ Only [b] w1 w') := Lib.hid (fun w1 h => wrong_any b s 0 0 w1 h)
 clear hR
 by_cases h4 : 4 ≤ s.size
 ·have heq := isMod_no hm h4
  have hd4 : decide ((s.size : Int) < 4) = false := decide_eq_false (by omega)
  have hl4 : (4 : Int) ≤ (s.size : Int) := by omega
  clear hm
  go_enter Tryz.func11, Tryz.ntmps11
  go_wp2_with fail
  refine wp_region_calm (by kernel_rfl) (by kernel_rfl) ?_
  repeat (go_big_quiet_step (fail))
  refine wpQuiet_nil ?_
  rintro w5 ⟨⟨w5', o5⟩, e5⟩
  obtain rfl : w5 = w5' := e5
  have KA := Lib.hid (KS0.out.call0 o5 hbl)
  clear z0 z1 o5 c0 c1
  go_wp2_with fail
  (with_reducible refine (HW.out _ KA.out.rd).mono ?_)
  rintro e w6 ⟨rfl, g3, g4⟩
  have KN : Hid (DM s b w.heap.size w w6 0 ((0 : Nat) : Int) [.v (.string ⟨#[]⟩), .sl 0 []] #[.string ⟨#[]⟩, .slice none 0 0]) := Lib.hid (KA.out.call g4 g3 hbl)
  clear g3 g4 HW
  have hone : (#[.string ⟨#[]⟩, .slice none 0 0] : Array Value).all (·.oneCell') = true := by simp [Value.oneCell']
  have HE := Lib.hid (fun W' => DSt.fin (w' := W') KN.out rfl hbl)
  go_wp2_with (first
   | (refine wpList_load_row (by rfl) 24 _ (by rfl) (w.heap.size + 1) (by rfl) 24 #[.string ⟨#[]⟩, .slice none 0 0] (0, 0) _ KN.out.fr.t Tryz.underlying24 (by rfl) (by rw [size2]; rfl) ?_)
   | (refine wpList_store_row (by rfl) _ _ _ (by rfl) w.heap.size #[.string ⟨#[]⟩, .slice none 0 0] (by rfl) (by rfl) 24 ZM KN.out.fr.o (by rw [size2]; rfl) (by rfl) hone ?_; have HE2 := HE.out _ rfl; generalize World.setRow _ _ _ = W5 at HE2 ⊢; clear HE; obtain ⟨e1, e2⟩ := HE2; have E2 := Lib.hid e2; obtain ⟨z0, z1⟩ := Bk.two2 e1; clear e1 e2))
  refine bodyPost_ret (v := .agg #[.string ⟨#[]⟩, .slice none 0 0]) (by simp [results, Tryz.results11, go_sem, z0, z1]) rfl ?_
  rw [HRE.out]
  exact ⟨#[.string ⟨#[]⟩, .slice none 0 0], _, _, _, rfl, rfl, rfl, ZM_one _ _ _, E2.out.1, E2.out.2.1, E2.out.2.2, rfl⟩
 ·have hd4 : decide ((s.size : Int) < 4) = true := decide_eq_true (by omega)
  clear hm
  go_enter Tryz.func11, Tryz.ntmps11
  go_wp2_with fail
  refine wp_region_calm (by kernel_rfl) (by kernel_rfl) ?_
  repeat (go_big_quiet_step (fail))
  refine wpQuiet_nil ?_
  rintro w5 ⟨⟨w5', o5⟩, e5⟩
  obtain rfl : w5 = w5' := e5
  have KA := Lib.hid (KS0.out.call0 o5 hbl)
  clear z0 z1 o5 c0 c1
  go_wp2_with fail
  (with_reducible refine (HW.out _ KA.out.rd).mono ?_)
  rintro e w6 ⟨rfl, g3, g4⟩
  have KN : Hid (DM s b w.heap.size w w6 0 ((0 : Nat) : Int) [.v (.string ⟨#[]⟩), .sl 0 []] #[.string ⟨#[]⟩, .slice none 0 0]) := Lib.hid (KA.out.call g4 g3 hbl)
  clear g3 g4 HW
  have hone : (#[.string ⟨#[]⟩, .slice none 0 0] : Array Value).all (·.oneCell') = true := by simp [Value.oneCell']
  have HE := Lib.hid (fun W' => DSt.fin (w' := W') KN.out rfl hbl)
  go_wp2_with (first
   | (refine wpList_load_row (by rfl) 24 _ (by rfl) (w.heap.size + 1) (by rfl) 24 #[.string ⟨#[]⟩, .slice none 0 0] (0, 0) _ KN.out.fr.t Tryz.underlying24 (by rfl) (by rw [size2]; rfl) ?_)
   | (refine wpList_store_row (by rfl) _ _ _ (by rfl) w.heap.size #[.string ⟨#[]⟩, .slice none 0 0] (by rfl) (by rfl) 24 ZM KN.out.fr.o (by rw [size2]; rfl) (by rfl) hone ?_; have HE2 := HE.out _ rfl; generalize World.setRow _ _ _ = W5 at HE2 ⊢; clear HE; obtain ⟨e1, e2⟩ := HE2; have E2 := Lib.hid e2; obtain ⟨z0, z1⟩ := Bk.two2 e1; clear e1 e2))
  refine bodyPost_ret (v := .agg #[.string ⟨#[]⟩, .slice none 0 0]) (by simp [results, Tryz.results11, go_sem, z0, z1]) rfl ?_
  rw [HRE.out]
  exact ⟨#[.string ⟨#[]⟩, .slice none 0 0], _, _, _, rfl, rfl, rfl, ZM_one _ _ _, E2.out.1, E2.out.2.1, E2.out.2.2, rfl⟩
theorem dmod_any (s : ByteArray) (b : Nat) (w : World) (hb : Rdc w b s 0 (-1)) (hs : s.size ≤ 262144) :
 Calls Tryz.prog 11 #[.pointer (some ⟨b, 0, none⟩)] w fun e w' => DS b s 2 Md.ds (rMod s) w e w' := by
 cases hm : isMod s with
 | true => exact dmod_go s b w hm hb hs
 | false => exact dmod_no s b w hm hb hs
end Go.Proofs.YtcdefnbehlcgeaaGreatDoor
