/- The law TieBoth, given what the program's ties answer. TieLoads and TieBoth of arguments as they come, given the program's contracts. The program's monitors of one who goes: the closures, maps.DeleteFunc. -/
import Derived.Test.YtkodblhompphjaaVba
import Derived.Test.YtkodblhompphjaaVc
import Derived.Test.YtkodblhompphjaaVg
namespace Go.Proofs.Ytkodblhompphjaa
open Go.RowKit
set_option maxRecDepth 20000

theorem linksT_len (l : List Te) (p : Pd) (h : l.length ≤ 1024) : (linksT l p).length ≤ 2048 := by
  have h1 := l1T_len l p
  have h2 := l2T_len l p
  unfold linksT
  rw [List.length_append]
  omega
theorem rd_of {α : Type} {K : Sk α} {W : World} {base : Nat} {B : Option Addr} {n c : Nat} {l : List α} (ho : OwnS K W base (.slice B n c) l) : RdS K W B l := by
  obtain ⟨B', c', e, -, -, r, -⟩ := ho.form
  injection e with e
  subst e
  exact r
/-- The loop over the script: where it stands. -/
structure BRel (R : TiesRep) (w wr : World) (b : Nat) (p : Pd) : Prop where
  ex : ∃ F l, R.rep wr b F l ∧ Only [] w wr ∧ (∀ g ∈ F, w.heap.size < g) ∧ Bk wr w.heap.size 32 p.cs
theorem brel_goes {R : TiesRep} {w w0 w1 : World} {b : Nat} {p : Pd} {F F' : List Nat} {l : List Te} (hr : R.rep w1 b F' l) (ho : Only [] w w0) (h01 : Only F w0 w1) (hF : ∀ g ∈ F, w.heap.size < g) (hF' : ∀ g ∈ F', g ∈ F ∨ w0.heap.size ≤ g) (hb : Bk w0 w.heap.size 32 p.cs) : BRel R w w1 b p :=
  ⟨F', l, hr, ho.trans h01 (fun g hg => .inr (by have := hF g hg; omega)), fun g hg => by
    rcases hF' g hg with h | h
    · exact hF g h
    · have := hb.lt
      omega, hb.only h01 (fun hm => by have := hF _ hm; omega)⟩
theorem BRel.only {R : TiesRep} {w w1 w2 : World} {b : Nat} {p : Pd} (h : BRel R w w1 b p) (o : Only [] w1 w2) : BRel R w w2 b p := by
  obtain ⟨F, l, hr, h1, hF, hb⟩ := h
  exact ⟨F, l, R.only hr o (by simp), h1.trans o (by simp), hF, hb.only o (by simp)⟩
set_option maxHeartbeats 8000000 in
theorem both_any (R : TiesRep) (D : TiesDoes R) (hA : AwakeOk15) (A : Option Addr) (xs : List TOp) (cap : Nat) (p : Pd) (w : World) (h : RdS KO w A xs) (hl : xs.length * 48 + 4096 ≤ 140737488355328) :
    Calls Try.prog 5 #[.slice A xs.length cap, .agg p.cs] w fun e w' => e = .returned (.bool true) ∧ Only [] w w' := by
  have H := Lib.hid h
  have B0 := Lib.hid (Bk.made w 32 p.cs)
  have O0 := Lib.hid ((Only.refl [] w).alloc (.cells p.cs 32))
  have hs0 : (w.alloc (.cells p.cs 32)).heap.size = w.heap.size + 1 := by simp
  have K1 := Lib.hid (D.new (w.alloc (.cells p.cs 32)))
  clear h
  go_enter Try.func5, Try.ntmps5
  go_wp2_with fail
  (with_reducible refine K1.out.mono ?_)
  rintro e w1 ⟨b, F, rfl, hr, hF, o1⟩
  have REL := Lib.hid (show BRel R w w1 b p from ⟨F, [], hr, O0.out.trans o1 (by simp), fun g hg => by have := hF g hg; omega, B0.out.only o1 (by simp)⟩)
  clear hr hF o1 K1
  go_wp2_with fail
  go_loopw [6] (fun iv wr => ∃ i : Nat, iv = .int .i64 i ∧ i ≤ xs.length ∧ BRel R w wr b p) (fun iv _ => xs.length - (intOf iv).toNat)
  case atStart => exact ⟨0, rfl, Nat.zero_le _, REL.out⟩
  case round =>
    clear REL
    obtain ⟨i, rfl, hi, F, l, hr, o, hF, bp⟩ := hrel
    by_cases hlt : i < xs.length
    · obtain ⟨bl, off, rfl, hb, hc⟩ := RdO.at6 (H.out.only o (by simp)) (by omega)
      obtain ⟨x, hx⟩ := some_at hlt
      obtain ⟨x0, x1, x2, x3, x4, x5⟩ := hc i x hx
      have hbo := Bk.made wr 34 x.cs
      have y0 := hbo.cell0 (i := 0) rfl
      have BO := Lib.hid hbo
      have o2 := (Only.refl [] wr).alloc (.cells x.cs 34)
      have R1 := Lib.hid hr
      have R2 := Lib.hid (R.only hr o2 (by simp))
      have O2 := Lib.hid (o.trans o2 (by simp))
      have P2 := Lib.hid (bp.only o2 (by simp))
      have HF := Lib.hid hF
      have HM := Lib.hid (D.may hr)
      clear hx hc hr o hF bp o2 hbo
      go_upto_region 9 with fail
      have HG : Hid (∀ g ∈ F, g ≠ wr.heap.size) := Lib.hid (fun g hg e => by have := R.lt R1.out g hg; omega)
      by_cases k1 : x.kd = 1
      · have q1 : (x.kd == 1) = true := by simp [k1]
        have KL := Lib.hid (D.link ⟨x.an, x.ag⟩ ⟨x.bn, x.bg⟩ R2.out)
        have HOK := Lib.hid (fun h0 => linkF_ok (l := l) (a := ⟨x.an, x.ag⟩) (p := ⟨x.bn, x.bg⟩) HM.out.1 h0)
        have y2 := BO.out.cell0 (i := 2) rfl
        have y3 := BO.out.cell0 (i := 3) rfl
        have y4 := BO.out.cell0 (i := 4) rfl
        have y5 := BO.out.cell0 (i := 5) rfl
        generalize hW : wr.alloc (.cells x.cs 34) = w3 at *
        clear hW
        go_wp2_with fail
        (with_reducible refine KL.out.mono ?_)
        rintro e w4 ⟨rfl, F', hr4, hF4, o4⟩
        have hbF : wr.heap.size ∉ F := fun hm => HG.out _ hm rfl
        have REL := Lib.hid (brel_goes hr4 O2.out o4 HF.out hF4 P2.out)
        have R4 := Lib.hid hr4
        have B4 := Lib.hid (BO.out.only o4 hbF)
        have HL4 := Lib.hid (D.may hr4)
        clear hr4 hF4 o4 KL y0 y2 y3 y4 y5 hbF
        generalize (linkF l ⟨x.an, x.ag⟩ ⟨x.bn, x.bg⟩).2 = ec at *
        generalize (linkF l ⟨x.an, x.ag⟩ ⟨x.bn, x.bg⟩).1 = l4 at *
        have z2 := B4.out.cell0 (i := 2) rfl
        have z3 := B4.out.cell0 (i := 3) rfl
        have z4 := B4.out.cell0 (i := 4) rfl
        have z5 := B4.out.cell0 (i := 5) rfl
        by_cases h0 : ec = 0
        · subst h0
          have HM4 := Lib.hid (HOK.out rfl)
          clear HOK
          have R5 := Lib.hid (R.only R4.out ((Only.refl [] w4).drew) (by simp))
          have KA := Lib.hid (R.links ⟨x.an, x.ag⟩ R5.out)
          have hla := linksT_len l4 ⟨x.an, x.ag⟩ HL4.out.2
          have hlb := linksT_len l4 ⟨x.bn, x.bg⟩ HL4.out.2
          have HLA := Lib.hid hla
          have HLB := Lib.hid hlb
          clear hla hlb
          go_upto_region 11 with fail
          go_region_held3 (fun w' => w'.cell? ⟨wr.heap.size, 2, none⟩ = some (.int .i64 x.an) ∧ w'.cell? ⟨wr.heap.size, 3, none⟩ = some (.int .i64 x.ag) ∧ w'.cell? ⟨wr.heap.size, 4, none⟩ = some (.int .i64 x.bn) ∧ w'.cell? ⟨wr.heap.size, 5, none⟩ = some (.int .i64 x.bg)) (first | assumption | go_keep)
            (first
              | (go_at_call 18; (with_reducible refine KA.out.mono ?_); rintro e w5 ⟨v5, rfl, hv5, o5⟩; obtain ⟨A5, c5, e5, -, -, -, -⟩ := hv5.form; subst e5; have O5 := Lib.hid (((Only.refl [] w4).drew).trans o5 (by simp)); have R6 := Lib.hid (R.only R5.out o5 (by simp)); have B5 := Lib.hid (B4.out.only O5.out (by simp)); have t5 := And.intro (B5.out.cell0 (i := 2) (v := .int .i64 x.an) rfl) (And.intro (B5.out.cell0 (i := 3) (v := .int .i64 x.ag) rfl) (And.intro (B5.out.cell0 (i := 4) (v := .int .i64 x.bn) rfl) (B5.out.cell0 (i := 5) (v := .int .i64 x.bg) rfl))); have KI := in_any A5 (linksT l4 ⟨x.an, x.ag⟩) c5 ⟨x.bn, x.bg⟩ w5 (rd_of hv5) (by have := HLA.out; omega); rw [decide_eq_true HM4.out.1] at KI; have KI := Lib.hid KI; clear hv5 o5 KA)
              | (go_at_call 17; (with_reducible refine KI.out.mono ?_); rintro e w6 ⟨rfl, o6⟩; have O6 := Lib.hid (O5.out.trans o6 (by simp)); have R7 := Lib.hid (R.only R6.out o6 (by simp)); have B6 := Lib.hid (B5.out.only o6 (by simp)); have t6 := And.intro (B6.out.cell0 (i := 2) (v := .int .i64 x.an) rfl) (And.intro (B6.out.cell0 (i := 3) (v := .int .i64 x.ag) rfl) (And.intro (B6.out.cell0 (i := 4) (v := .int .i64 x.bn) rfl) (B6.out.cell0 (i := 5) (v := .int .i64 x.bg) rfl))); have KB := Lib.hid (R.links ⟨x.bn, x.bg⟩ R7.out); clear o6 KI)
              | (go_at_call 18; (with_reducible refine KB.out.mono ?_); rintro e w7 ⟨v7, rfl, hv7, o7⟩; obtain ⟨A7, c7, e7, -, -, -, -⟩ := hv7.form; subst e7; have O7 := Lib.hid (O6.out.trans o7 (by simp)); have B7 := Lib.hid (B6.out.only o7 (by simp)); have t7 := And.intro (B7.out.cell0 (i := 2) (v := .int .i64 x.an) rfl) (And.intro (B7.out.cell0 (i := 3) (v := .int .i64 x.ag) rfl) (And.intro (B7.out.cell0 (i := 4) (v := .int .i64 x.bn) rfl) (B7.out.cell0 (i := 5) (v := .int .i64 x.bg) rfl))); have KJ := in_any A7 (linksT l4 ⟨x.bn, x.bg⟩) c7 ⟨x.an, x.ag⟩ w7 (rd_of hv7) (by have := HLB.out; omega); rw [decide_eq_true HM4.out.2] at KJ; have KJ := Lib.hid KJ; clear hv7 o7 KB)
              | (go_at_call 17; (with_reducible refine KJ.out.mono ?_); rintro e w8 ⟨rfl, o8⟩; have O8 := Lib.hid (O7.out.trans o8 (by simp)); have B8 := Lib.hid (B7.out.only o8 (by simp)); have t8 := And.intro (B8.out.cell0 (i := 2) (v := .int .i64 x.an) rfl) (And.intro (B8.out.cell0 (i := 3) (v := .int .i64 x.ag) rfl) (And.intro (B8.out.cell0 (i := 4) (v := .int .i64 x.bn) rfl) (B8.out.cell0 (i := 5) (v := .int .i64 x.bg) rfl))); clear o8 KJ))
          go_wp2_with fail
          go_roundw
          case rel => exact ⟨i + 1, by go_num, by omega, REL.out.only O8.out⟩
          case measure => simp [intOf]; omega
        · have q0 : (ec == 0) = false := by simp [h0]
          go_wp2_with fail
          go_quiet (fail)
          go_wp2
          go_roundw
          case rel => exact ⟨i + 1, by go_num, by omega, REL.out.only ((Only.refl [] w4).drewN _)⟩
          case measure => simp [intOf]; omega
      · have q1 : (x.kd == 1) = false := by simp [k1]
        by_cases k2 : x.kd = 2
        · have q2 : (x.kd == 2) = true := by simp [k2]
          have KL := Lib.hid (D.unlink ⟨x.an, x.ag⟩ ⟨x.bn, x.bg⟩ R2.out)
          have HOK := Lib.hid (fun h0 => unlinkF_ok (l := l) (a := ⟨x.an, x.ag⟩) (p := ⟨x.bn, x.bg⟩) HM.out.1 h0)
          have y2 := BO.out.cell0 (i := 2) rfl
          have y3 := BO.out.cell0 (i := 3) rfl
          have y4 := BO.out.cell0 (i := 4) rfl
          have y5 := BO.out.cell0 (i := 5) rfl
          generalize hW : wr.alloc (.cells x.cs 34) = w3 at *
          clear hW
          go_wp2_with fail
          (with_reducible refine KL.out.mono ?_)
          rintro e w4 ⟨rfl, F', hr4, hF4, o4⟩
          have hbF : wr.heap.size ∉ F := fun hm => HG.out _ hm rfl
          have REL := Lib.hid (brel_goes hr4 O2.out o4 HF.out hF4 P2.out)
          have R4 := Lib.hid hr4
          have B4 := Lib.hid (BO.out.only o4 hbF)
          have HL4 := Lib.hid (D.may hr4)
          clear hr4 hF4 o4 KL y0 y2 y3 y4 y5 hbF
          generalize (unlinkF l ⟨x.an, x.ag⟩ ⟨x.bn, x.bg⟩).2 = ec at *
          generalize (unlinkF l ⟨x.an, x.ag⟩ ⟨x.bn, x.bg⟩).1 = l4 at *
          have z2 := B4.out.cell0 (i := 2) rfl
          have z3 := B4.out.cell0 (i := 3) rfl
          have z4 := B4.out.cell0 (i := 4) rfl
          have z5 := B4.out.cell0 (i := 5) rfl
          by_cases h0 : ec = 0
          · subst h0
            have HM4 := Lib.hid (HOK.out rfl)
            clear HOK
            have R5 := Lib.hid (R.only R4.out ((Only.refl [] w4).drew) (by simp))
            have KA := Lib.hid (R.links ⟨x.an, x.ag⟩ R5.out)
            have hla := linksT_len l4 ⟨x.an, x.ag⟩ HL4.out.2
            have hlb := linksT_len l4 ⟨x.bn, x.bg⟩ HL4.out.2
            have HLA := Lib.hid hla
            have HLB := Lib.hid hlb
            clear hla hlb
            go_upto_region 15 with fail
            go_region_held3 (fun w' => w'.cell? ⟨wr.heap.size, 2, none⟩ = some (.int .i64 x.an) ∧ w'.cell? ⟨wr.heap.size, 3, none⟩ = some (.int .i64 x.ag) ∧ w'.cell? ⟨wr.heap.size, 4, none⟩ = some (.int .i64 x.bn) ∧ w'.cell? ⟨wr.heap.size, 5, none⟩ = some (.int .i64 x.bg)) (first | assumption | go_keep)
              (first
                | (go_at_call 18; (with_reducible refine KA.out.mono ?_); rintro e w5 ⟨v5, rfl, hv5, o5⟩; obtain ⟨A5, c5, e5, -, -, -, -⟩ := hv5.form; subst e5; have O5 := Lib.hid (((Only.refl [] w4).drew).trans o5 (by simp)); have R6 := Lib.hid (R.only R5.out o5 (by simp)); have B5 := Lib.hid (B4.out.only O5.out (by simp)); have t5 := And.intro (B5.out.cell0 (i := 2) (v := .int .i64 x.an) rfl) (And.intro (B5.out.cell0 (i := 3) (v := .int .i64 x.ag) rfl) (And.intro (B5.out.cell0 (i := 4) (v := .int .i64 x.bn) rfl) (B5.out.cell0 (i := 5) (v := .int .i64 x.bg) rfl))); have KI := in_any A5 (linksT l4 ⟨x.an, x.ag⟩) c5 ⟨x.bn, x.bg⟩ w5 (rd_of hv5) (by have := HLA.out; omega); rw [decide_eq_false HM4.out.1] at KI; have KI := Lib.hid KI; clear hv5 o5 KA)
                | (go_at_call 17; (with_reducible refine KI.out.mono ?_); rintro e w6 ⟨rfl, o6⟩; have O6 := Lib.hid (O5.out.trans o6 (by simp)); have R7 := Lib.hid (R.only R6.out o6 (by simp)); have B6 := Lib.hid (B5.out.only o6 (by simp)); have t6 := And.intro (B6.out.cell0 (i := 2) (v := .int .i64 x.an) rfl) (And.intro (B6.out.cell0 (i := 3) (v := .int .i64 x.ag) rfl) (And.intro (B6.out.cell0 (i := 4) (v := .int .i64 x.bn) rfl) (B6.out.cell0 (i := 5) (v := .int .i64 x.bg) rfl))); have KB := Lib.hid (R.links ⟨x.bn, x.bg⟩ R7.out); clear o6 KI)
                | (go_at_call 18; (with_reducible refine KB.out.mono ?_); rintro e w7 ⟨v7, rfl, hv7, o7⟩; obtain ⟨A7, c7, e7, -, -, -, -⟩ := hv7.form; subst e7; have O7 := Lib.hid (O6.out.trans o7 (by simp)); have B7 := Lib.hid (B6.out.only o7 (by simp)); have t7 := And.intro (B7.out.cell0 (i := 2) (v := .int .i64 x.an) rfl) (And.intro (B7.out.cell0 (i := 3) (v := .int .i64 x.ag) rfl) (And.intro (B7.out.cell0 (i := 4) (v := .int .i64 x.bn) rfl) (B7.out.cell0 (i := 5) (v := .int .i64 x.bg) rfl))); have KJ := in_any A7 (linksT l4 ⟨x.bn, x.bg⟩) c7 ⟨x.an, x.ag⟩ w7 (rd_of hv7) (by have := HLB.out; omega); rw [decide_eq_false HM4.out.2] at KJ; have KJ := Lib.hid KJ; clear hv7 o7 KB)
                | (go_at_call 17; (with_reducible refine KJ.out.mono ?_); rintro e w8 ⟨rfl, o8⟩; have O8 := Lib.hid (O7.out.trans o8 (by simp)); have B8 := Lib.hid (B7.out.only o8 (by simp)); have t8 := And.intro (B8.out.cell0 (i := 2) (v := .int .i64 x.an) rfl) (And.intro (B8.out.cell0 (i := 3) (v := .int .i64 x.ag) rfl) (And.intro (B8.out.cell0 (i := 4) (v := .int .i64 x.bn) rfl) (B8.out.cell0 (i := 5) (v := .int .i64 x.bg) rfl))); clear o8 KJ))
            go_wp2_with fail
            go_roundw
            case rel => exact ⟨i + 1, by go_num, by omega, REL.out.only O8.out⟩
            case measure => simp [intOf]; omega
          · have q0 : (ec == 0) = false := by simp [h0]
            go_wp2_with fail
            go_quiet (fail)
            go_wp2
            go_roundw
            case rel => exact ⟨i + 1, by go_num, by omega, REL.out.only ((Only.refl [] w4).drewN _)⟩
            case measure => simp [intOf]; omega
        · have q2 : (x.kd == 2) = false := by simp [k2]
          by_cases k3 : x.kd = 3
          · have q3 : (x.kd == 3) = true := by simp [k3]
            have KL := Lib.hid (D.monitor x.rf ⟨x.an, x.ag⟩ ⟨x.bn, x.bg⟩ R2.out)
            have y1 := BO.out.cell0 (i := 1) rfl
            have y2 := BO.out.cell0 (i := 2) rfl
            have y3 := BO.out.cell0 (i := 3) rfl
            have y4 := BO.out.cell0 (i := 4) rfl
            have y5 := BO.out.cell0 (i := 5) rfl
            generalize hW : wr.alloc (.cells x.cs 34) = w3 at *
            clear hW
            go_wp2_with fail
            (with_reducible refine KL.out.mono ?_)
            rintro e w4 ⟨rfl, F', hr4, hF4, o4⟩
            have REL := Lib.hid (brel_goes hr4 O2.out o4 HF.out hF4 P2.out)
            clear hr4 hF4 o4 KL y0 y1 y2 y3 y4 y5
            go_wp2_with fail
            go_roundw
            case rel => exact ⟨i + 1, by go_num, by omega, REL.out⟩
            case measure => simp [intOf]; omega
          · have q3 : (x.kd == 3) = false := by simp [k3]
            have REL := Lib.hid (show BRel R w (wr.alloc (.cells x.cs 34)) b p from ⟨F, l, R2.out, O2.out, HF.out, P2.out⟩)
            generalize hW : wr.alloc (.cells x.cs 34) = w3 at *
            clear hW
            go_wp2_with fail
            go_roundw
            case rel => exact ⟨i + 1, by go_num, by omega, REL.out⟩
            case measure => simp [intOf]; omega
    · have HM := Lib.hid (D.may hr)
      have hle := (D.may hr).2
      have LT := Lib.hid (linksT_len l p hle)
      have LM := Lib.hid (show (toldT l p).length ≤ 1024 from Nat.le_trans (List.length_filter_le _ _) hle)
      have LG := Lib.hid (show (goneT l p).length ≤ 1024 from Nat.le_trans (List.length_filter_le _ _) hle)
      have KL := Lib.hid (R.links p hr)
      have RR := Lib.hid hr
      have HFl := Lib.hid (R.lt hr)
      have HF := Lib.hid hF
      have O := Lib.hid o
      have BP := Lib.hid bp
      obtain ⟨p0, p1⟩ := bp.pid
      clear hr hF o bp hle
      go_wp2_with fail
      (with_reducible refine KL.out.mono ?_)
      rintro e w2 ⟨v2, rfl, hv2, o2⟩
      obtain ⟨A2, c2, e2, -, -, -, -⟩ := hv2.form
      subst e2
      have V2 := Lib.hid hv2
      have O2 := Lib.hid (O.out.trans o2 (by simp))
      have Z2 := Lib.hid (show wr.heap.size ≤ w2.heap.size from o2.size)
      have B2 := Lib.hid (BP.out.only o2 (by simp))
      have KG := Lib.hid (D.gone p (R.only RR.out o2 (by simp)))
      clear hv2 o2 KL p0 p1
      obtain ⟨p0, p1⟩ := B2.out.pid
      go_wp2_with fail
      (with_reducible refine KG.out.mono ?_)
      rintro e w3 ⟨v3, v4, F3, rfl, hv3, hv4, hr3, hF3, hd3, o3⟩
      obtain ⟨A3, c3, e3, -, -, -, -⟩ := hv3.form
      subst e3
      obtain ⟨A4, c4, e4, -, -, -, -⟩ := hv4.form
      subst e4
      have V23 := Lib.hid (V2.out.only o3 (fun g hg hm => by have h1 := HFl.out g hm; have h2 := (V2.out.block hg).1; omega))
      have V33 := Lib.hid hv3
      have V43 := Lib.hid hv4
      have O3 := Lib.hid (O2.out.trans o3 (fun g hg => .inr (by have := HF.out g hg; omega)))
      have B3 := Lib.hid (B2.out.only o3 (fun hm => by have := HF.out _ hm; omega))
      have R3 := Lib.hid hr3
      clear hv3 hv4 hr3 hF3 hd3 o3 KG p0 p1
      have R4 := Lib.hid (R.only R3.out ((Only.refl [] w3).drew) (by simp))
      have B4 := Lib.hid (show Bk w3.drew w.heap.size 32 p.cs from B3.out.drew)
      have O4 := Lib.hid (show Only [] w w3.drew from O3.out.drew)
      have V44 := Lib.hid (show OwnS KT w3.drew w2.heap.size (.slice A4 (toldT l p).length c4) (toldT l p) from V43.out.drewN 1)
      have q4 : w3.drew.cell? ⟨w.heap.size, 0, none⟩ = some (.int .i64 p.n) ∧ w3.drew.cell? ⟨w.heap.size, 1, none⟩ = some (.int .i64 p.g) := B4.out.pid
      have KS := rpids_any A2 A3 (linksT l p) (linksT l p) c2 c3 w3.drew (rd_of (V23.out.drewN 1)) (rd_of (V33.out.drewN 1)) (by have := LT.out; omega) (by have := LT.out; omega)
      rw [decide_eq_true rfl] at KS
      have KS := Lib.hid KS
      have w00 : IntKind.i64.wrap ((0 : Int) + (0 : Int)) = 0 := by rfl
      go_upto_region 21 with fail
      go_region_held3 (fun w' => w'.cell? ⟨w.heap.size, 0, none⟩ = some (.int .i64 p.n) ∧ w'.cell? ⟨w.heap.size, 1, none⟩ = some (.int .i64 p.g)) (first | assumption | go_keep)
        (first
          | (go_at_call 22; (with_reducible refine KS.out.mono ?_); rintro e w5 ⟨rfl, hk5⟩; have D5 : Hid (Only [] w3.drew w5) := Lib.hid (by obtain ⟨k, rfl⟩ := hk5; exact (Only.refl [] w3.drew).drewN k); clear hk5; have R5 := Lib.hid (R.only R4.out D5.out (by simp)); have B5 := Lib.hid (B4.out.only D5.out (by simp)); have q5 := Bk.pid (x := p) B5.out; have K6 := R.links p R5.out; rw [(gone_links l p).1] at K6; have K6 := Lib.hid K6; clear KS)
          | (go_at_call 18; (with_reducible refine K6.out.mono ?_); rintro e w6 ⟨v6, rfl, hv6, o6⟩; obtain ⟨A6, c6, e6, -, -, -, -⟩ := hv6.form; subst e6; have D6 := Lib.hid (D5.out.trans o6 (by simp)); have R6 := Lib.hid (R.only R5.out o6 (by simp)); have B6 := Lib.hid (B5.out.only o6 (by simp)); have q6 := Bk.pid (x := p) B6.out; have K7 := R.watchers p R6.out; rw [(gone_links l p).2] at K7; have K7 := Lib.hid K7; clear hv6 o6 K6)
          | (go_at_call 23; (with_reducible refine K7.out.mono ?_); rintro e w7 ⟨v7, rfl, hv7, o7⟩; obtain ⟨A7, c7, e7, -, -, -, -⟩ := hv7.form; subst e7; have D7 := Lib.hid (D6.out.trans o7 (by simp)); have R7 := Lib.hid (R.only R6.out o7 (by simp)); have B7 := Lib.hid (B6.out.only o7 (by simp)); have q7 := Bk.pid (x := p) B7.out; clear hv7 o7 K7))
      have W7 := Lib.hid (V44.out.only D7.out (by simp))
      have O7 := Lib.hid (O4.out.trans D7.out (by simp))
      clear q4 q5 q6 q7
      go_wp2_with fail
      go_loopw [13] (fun iv wq => ∃ i : Nat, iv = .int .i64 i ∧ i ≤ (toldT l p).length ∧ Only [] w7 wq) (fun iv _ => (toldT l p).length - (intOf iv).toNat)
      case atStart => exact ⟨0, rfl, Nat.zero_le _, Only.refl _ _⟩
      case round =>
        obtain ⟨i, rfl, hi, o⟩ := hrel
        have OQ := Lib.hid o
        clear o
        by_cases hlm : i < (toldT l p).length
        · obtain ⟨x, hx⟩ := some_at hlm
          obtain ⟨hxb, hlo⟩ := told_at HM.out.1 hx
          obtain ⟨eb, ea⟩ := hxb
          obtain ⟨bl4, off4, eA4, -, hc⟩ := RdT.at5 (rd_of (W7.out.only OQ.out (by simp))) (by omega)
          subst eA4
          obtain ⟨x0, x1, x2, x3, x4⟩ := hc i x hx
          obtain ⟨p0, p1⟩ := (B7.out.only OQ.out (by simp)).pid
          have hli : (i : Int) < ((toldT l p).length : Int) := by omega
          simp only [eqP] at eb ea
          by_cases hz : i = 0
          · subst hz
            have g0 : decide ((0 : Int) < ((0 : Nat) : Int)) = false := by rfl
            clear hc hx hlo
            go_wp2_with fail
            go_quiet (fail)
            go_wp2
            go_roundw
            case rel => exact ⟨0 + 1, by go_num, by omega, OQ.out.drewN _⟩
            case measure => simp [intOf]; omega
          · obtain ⟨j, rfl⟩ : ∃ j, i = j + 1 := ⟨i - 1, by omega⟩
            obtain ⟨y, hy⟩ := some_at (show j < (toldT l p).length by omega)
            have hrr := hlo y (by omega) (by rw [Nat.add_sub_cancel]; exact hy)
            obtain ⟨y0, -, -, -, -⟩ := hc j y hy
            have g0 : decide ((0 : Int) < ((j + 1 : Nat) : Int)) = true := decide_eq_true (by omega)
            have hlm1 := LM.out
            have ws : IntKind.i64.wrap (((j + 1 : Nat) : Int) - 1) = (j : Int) := by rw [IntWalk.i64_in _ (by omega)]; omega
            have m2 : (((j + 1 : Nat) : Int) - 1) = (j : Int) := by omega
            have p00 : 0 ≤ (j : Int) := by omega
            have hlj : (j : Int) < ((toldT l p).length : Int) := by omega
            have hge : decide (x.r ≤ y.r) = false := decide_eq_false (by omega)
            clear hc hx hy hlo
            go_wp2_with fail
            go_quiet (fail)
            go_wp2
            go_roundw
            case rel => exact ⟨j + 1 + 1, by go_num, by omega, OQ.out.drewN _⟩
            case measure => simp [intOf]; omega
        · have O8 := Lib.hid (O7.out.trans OQ.out (by simp))
          have B8 := Lib.hid (B7.out.only OQ.out (by simp))
          have K8 := Lib.hid (R.all (R.only R7.out OQ.out (by simp)))
          go_wp2_with fail
          (with_reducible refine K8.out.mono ?_)
          rintro e w9 ⟨v9, rfl, hv9, o9⟩
          obtain ⟨A9, c9, e9, -, -, -, -⟩ := hv9.form
          subst e9
          have V9 := Lib.hid hv9
          have O9 := Lib.hid (O8.out.trans o9 (by simp))
          have B9 := Lib.hid (B8.out.only o9 (by simp))
          clear hv9 o9 K8
          go_wp2_with fail
          go_loopw [15] (fun iv wq => ∃ k : Nat, iv = .int .i64 k ∧ k ≤ (goneT l p).length ∧ Only [] w9 wq) (fun iv _ => (goneT l p).length - (intOf iv).toNat)
          case atStart => exact ⟨0, rfl, Nat.zero_le _, Only.refl _ _⟩
          case round =>
            obtain ⟨k, rfl, hk, o⟩ := hrel
            have OP := Lib.hid o
            clear o
            by_cases hlk : k < (goneT l p).length
            · obtain ⟨x, hx⟩ := some_at hlk
              obtain ⟨-, hna, hnb⟩ := goneT_mem.1 (List.mem_of_getElem? hx)
              obtain ⟨bl9, off9, eA9, -, hc⟩ := RdT.at5 (rd_of (V9.out.only OP.out (by simp))) (by omega)
              subst eA9
              obtain ⟨x0, x1, x2, x3, x4⟩ := hc k x hx
              obtain ⟨p0, p1⟩ := (B9.out.only OP.out (by simp)).pid
              have ea : eqP x.a p = false := by
                cases he : eqP x.a p with
                | false => rfl
                | true => exact absurd (eqP_iff.1 he) hna
              have eb : eqP x.b p = false := by
                cases he : eqP x.b p with
                | false => rfl
                | true => exact absurd (eqP_iff.1 he) hnb
              have hlj : (k : Int) < ((goneT l p).length : Int) := by omega
              have hlg := LG.out
              simp only [eqP] at eb ea
              clear hc hx hna hnb
              go_wp2_with fail
              go_quiet (fail)
              go_wp2
              go_roundw
              case rel => exact ⟨k + 1, by go_num, by omega, OP.out.drewN _⟩
              case measure => simp [intOf]; omega
            · have OX := Lib.hid (O9.out.trans OP.out (by simp))
              have KA := Lib.hid (hA wr)
              go_wp2_with fail
              (with_reducible refine KA.out.mono ?_)
              rintro e w10 ⟨rfl, o10⟩
              go_wp2_with fail
              go_ret
              exact ⟨rfl, OX.out.trans o10 (by simp)⟩
end Go.Proofs.Ytkodblhompphjaa

namespace Go.Proofs.Ytkodblhompphjaa
open Go.RowKit

theorem loads_of {R : TiesRep} (hL : LoadOk R) (hA : AwakeOk15) {w : World} {v : Value} (h : Kd.ok w (.l kT 40) v) : Calls Try.prog 4 #[v] w fun e w' => e = .returned (.bool true) ∧ Only [] w w' := by
  obtain ⟨A, xs, cap, rfl, -, -, s0, d0, -⟩ := RdS.of_ok KT rfl decT h
  exact loads_any R hL hA A xs cap w d0 s0
theorem both_of {R : TiesRep} (D : TiesDoes R) (hA : AwakeOk15) {w : World} {v : Value} {l : List Value} (h0 : Kd.ok w (.l kO 48) v) (h1 : Oks w kP l) :
    Calls Try.prog 5 #[v, .agg ⟨l⟩] w fun e w' => e = .returned (.bool true) ∧ Only [] w w' := by
  obtain ⟨A, xs, cap, rfl, -, -, s0, d0, -⟩ := RdS.of_ok KO rfl decO h0
  obtain ⟨p, -, rfl⟩ := decP l h1
  exact both_any R D hA A xs cap p w d0 s0
end Go.Proofs.Ytkodblhompphjaa

namespace Go.Proofs.Ytkodblhompphjaa
open Go.RowKit Go.Maps
set_option maxRecDepth 20000

set_option maxHeartbeats 1000000 in
/-- Has a monitor to do with p? -/
theorem gone1_any {w : World} {ab : Nat} {p : Pd} (h : Bk w ab 32 p.cs) (r : Int) (t : Te) : Calls Try.prog 47 #[.int .i64 r, .agg t.cs, .pointer (some ⟨ab, 0, none⟩)] w fun e w' => e = .returned (.bool (eqP t.a p || eqP t.b p)) ∧ Only [] w w' := by
  obtain ⟨p0, p1⟩ := (h.alloc (.cells t.cs 45)).pid
  have O := Lib.hid ((Only.refl [] w).alloc (.cells t.cs 45))
  clear h
  cases h1 : eqP t.a p with
  | true =>
    simp only [eqP] at h1
    go_enter Try.func47, Try.ntmps47
    go_wp2_with fail
    go_ret
    exact ⟨rfl, O.out⟩
  | false =>
    cases h2 : eqP t.b p with
    | true =>
      simp only [eqP] at h1 h2
      go_enter Try.func47, Try.ntmps47
      go_wp2_with fail
      go_ret
      exact ⟨rfl, O.out⟩
    | false =>
      simp only [eqP] at h1 h2
      go_enter Try.func47, Try.ntmps47
      go_wp2_with fail
      go_ret
      exact ⟨rfl, O.out⟩
set_option maxHeartbeats 1000000 in
/-- Is a monitor p's own? -/
theorem gone2_any {w : World} {ab : Nat} {p : Pd} (h : Bk w ab 32 p.cs) (t : Te) : Calls Try.prog 49 #[.agg t.cs, .pointer (some ⟨ab, 0, none⟩)] w fun e w' => e = .returned (.bool (eqP t.a p)) ∧ Only [] w w' := by
  obtain ⟨p0, p1⟩ := (h.alloc (.cells t.cs 45)).pid
  have O := Lib.hid ((Only.refl [] w).alloc (.cells t.cs 45))
  clear h
  cases h1 : eqP t.a p with
  | true =>
    simp only [eqP] at h1
    go_enter Try.func49, Try.ntmps49
    go_wp2_with fail
    go_ret
    exact ⟨rfl, O.out⟩
  | false =>
    simp only [eqP] at h1
    go_enter Try.func49, Try.ntmps49
    go_wp2_with fail
    go_ret
    exact ⟨rfl, O.out⟩
/-- A range over monitors that strikes those of d: of S those of c have come. -/
def MnDl (w : World) (g r : Nat) (S : List Te) (d : Te → Bool) (c : List Te) : Prop :=
  ∃ D n left cnt, w.ranges Try.prog 3 tieR g r n D left cnt ∧ Ents kM dM D (S.filter fun x => !d x || !decide (x ∈ c)) ∧ Came kM S left c
theorem MnDl.only {T : List Nat} {w w' : World} {g r : Nat} {S c : List Te} {d : Te → Bool} (h : MnDl w g r S d c) (o : Only T w w') (h1 : g ∉ T) (h2 : r ∉ T) : MnDl w' g r S d c ∧ w'.rangeLeft g r = w.rangeLeft g r := by
  obtain ⟨D, n, left, cnt, h3, h4⟩ := h
  have h5 := ranges_only h3 o h1 h2
  exact ⟨⟨D, n, left, cnt, h5, h4⟩, by rw [h5.left_eq, h3.left_eq]⟩
theorem MnIt.dl {w : World} {g r : Nat} {S : List Te} {d : Te → Bool} (h : MnIt w g r S []) : MnDl w g r S d [] := by
  obtain ⟨D, n, left, cnt, h1, h2, h3⟩ := h
  refine ⟨D, n, left, cnt, h1, ?_, h3⟩
  rw [List.filter_eq_self.2 (fun x _ => by simp)]
  exact h2
section
variable (w : World) {ops : Array Oper} {rest : List Oper} {o : Oper} {a : Act} {Q : Exit → Act → World → Prop}
theorem wpList_next_dl (hg : o.guard = none) (it : Operand) (hop : o.op = Op.next it false) {g r : Nat} {S c : List Te} {d : Te → Bool} (hit : a.eval it = .pointer (some ⟨r, 0, none⟩)) (h : MnDl w g r S d c) (hS : MnS S) (hnd : S.Nodup)
    (hDone : MnM w g (S.filter fun x => !d x) → wpList Try.prog ops Q rest (a.put o.dst (.tuple #[.bool false])) w)
    (hMore : ∀ (t : Te) (w' : World), t ∈ S → (d t = false → MnDl w' g r S d (c ++ [t])) →
      (∀ w1, Only [] w' w1 → d t = true → ∃ w2, (Builtin.delete_ #[mpM, 3] 0 #[.map (some g), .int .i64 t.r]).run Try.prog w1 = .ok (.tuple #[]) w2 ∧ MnDl w2 g r S d (c ++ [t]) ∧ w2.rangeLeft g r ≤ w'.rangeLeft g r ∧ Only [g] w1 w2) →
      w'.rangeLeft g r < w.rangeLeft g r → Only [r] w w' → w'.heap.size = w.heap.size →
      (Instr.entry (.pointer (some ⟨r, 0, none⟩))).run Try.prog w' = .ok (.tuple #[.int .i64 t.r, .agg t.cs]) w' → wpList Try.prog ops Q rest (a.put o.dst (.tuple #[.bool true, .int .i64 t.r, .agg t.cs])) w') :
    wpList Try.prog ops Q (o :: rest) a w := by
  obtain ⟨D, n, left, cnt, h1, h2, h3⟩ := h
  refine wpList_plain hg fun K' hK' => ?_
  unfold Oper.wp
  rcases h1.next keyInt o.type with ⟨h0, hl, hrun⟩ | ⟨key, v, kl, y, w', cnt', hkey, hlk, hv, hat, hrun, hrg, hlt, hgr, hsz, hen⟩
  · simp [execOp, hop, hit, hrun, Result.andThen]
    refine hK' _ _ (hDone ⟨D, n, h1.owns, ?_⟩)
    have hp := h3.perm hnd hl
    have e : (S.filter fun x => !d x || !decide (x ∈ c)) = S.filter fun x => !d x := List.filter_congr fun x hx => by
      rw [decide_eq_true (hp.mem_iff.2 hx)]; simp
    rw [e] at h2
    exact h2
  · obtain ⟨t, ht0, rfl, e2⟩ := h2.at_ hat
    have ht := (List.mem_filter.1 ht0).1
    have h0 := okTie_ab (hS.1 t ht).1
    obtain rfl := keyInt.inj hkey (kM_of (r := t.r) (by omega))
    obtain ⟨t', rfl, rfl⟩ := tieR_inv hv
    obtain rfl := dM_inj e2
    have hs := h3.step (mn_keys hS) ht hlk
    simp [execOp, hop, hit, hrun, Result.andThen]
    refine hK' _ _ (hMore t w' ht (fun hd => ⟨D, n, _, _, hrg, ?_, hs⟩) (fun w1 o1 hd => ?_) (by rw [hrg.left_eq, h1.left_eq]; exact hlt) (Only.of_grown hgr) hsz hen)
    · refine h2.perm (List.Perm.of_eq (List.filter_congr fun x hx => ?_))
      by_cases e : x = t
      · rw [e, hd]; rfl
      · simp [e]
    · obtain ⟨w2, cnt2, hr2, r1, r2, r3⟩ := (ranges_only hrg o1 (by simp) (by simp)).drop keyInt Try.underlying59 (kM_of (r := t.r) (by omega)) 0
      refine ⟨w2, hr2, ⟨_, n, _, cnt2, r1, ?_, ?_⟩, by rw [r1.left_eq, hrg.left_eq]; exact r2, only_turned r3⟩
      · have h4 := h2.del (kM t)
        refine h4.perm (List.Perm.of_eq ?_)
        rw [List.filter_filter]
        refine List.filter_congr fun x hx => ?_
        by_cases e : x = t
        · rw [e, hd, WideAt.sameKey_self (kM_key t)]
          simp
        · have : (kM x).sameKey (kM t) = false := by
            cases hk : (kM x).sameKey (kM t) with
            | false => rfl
            | true => exact absurd ((mn_keys hS).inj x hx t ht (WideAt.sameKey_eq hk)) e
          rw [this]
          simp [e]
      · have e := strike_twice left (kM t)
        show Came kM S (fun x => (left x && !x.sameKey (kM t)) && !x.sameKey (kM t)) (c ++ [t])
        rw [e]
        exact hs
end
/-- What the loop of maps.DeleteFunc keeps. -/
structure DfR (w : World) (g ab : Nat) (p : Pd) (S : List Te) (c : List Te) (wr : World) : Prop where
  it : MnDl wr g w.heap.size S (fun t => eqP t.a p || eqP t.b p) c
  ba : Bk wr ab 32 p.cs
  o : Only [g] w wr
set_option maxHeartbeats 8000000 in
theorem mdel_any {w : World} {g ab : Nat} {p : Pd} {S : List Te} (hb : Bk w ab 32 p.cs) (h : MnM w g S) (hS : MnS S) (hnd : S.Nodup) :
    Calls Try.prog 46 #[.map (some g), .func (.func 47) #[] #[.pointer (some ⟨ab, 0, none⟩)]] w fun e w' =>
      e = .returned (.tuple #[]) ∧ MnM w' g (S.filter fun t => !eqP t.a p && !eqP t.b p) ∧ Only [g] w w' := by
  have hgb : g ≠ ab := h.apart hb
  have HL := Lib.hid hb.lt
  have HGB := Lib.hid hgb
  have H := Lib.hid h
  have HS := Lib.hid hS
  have HN := Lib.hid hnd
  have HB := Lib.hid hb
  clear h hS hnd hb
  go_enter Try.func46, Try.ntmps46
  go_wp2_with (first | (at_range; refine wpList_range_mn _ (by rfl) _ (by rfl) (by rfl) H.out HS.out ?_; intro w1 hit ho hsz) | fail)
  go_frame
  have R0 : Hid (DfR w g ab p S [] w1) := Lib.hid ⟨hit.dl, HB.out.only ho (by simp), ho.more (by simp)⟩
  clear hit ho hsz H HB
  go_loopw [4, 5] (fun _ _ wr => ∃ c, DfR w g ab p S c wr) (fun _ _ wr => wr.rangeLeft g w.heap.size)
  case atStart => exact ⟨[], R0.out⟩
  case round =>
    clear R0
    obtain ⟨c, hr⟩ := hrel
    have R := Lib.hid hr
    clear hr
    go_wp2_with (first | (at_next; refine wpList_next_dl _ (by rfl) _ (by rfl) (by rfl) R.out.it HS.out HN.out ?_ ?_) | fail)
    · intro hm
      have HM := Lib.hid hm
      clear hm
      go_wp2_with fail
      go_end0
      exact ⟨rfl, HM.out, R.out.o⟩
    · intro t w2 ht hkeep hdel hlt ho hsz hen
      have hab := HL.out
      have o2 : Only [g] w w2 := R.out.o.trans ho (by simp)
      have b2 : Bk w2 ab 32 p.cs := R.out.ba.only ho (by simp; omega)
      have O2 := Lib.hid o2
      have B2 := Lib.hid b2
      have O1 := Lib.hid ((Only.refl [] w2).alloc (.cells t.cs 45))
      have K := Lib.hid (gone1_any (b2.alloc (.cells t.cs 45)) t.r t)
      have HK := Lib.hid hkeep
      have HD := Lib.hid hdel
      have LT := Lib.hid hlt
      have T0 := Bk.made w2 45 t.cs
      obtain ⟨t0, t1, t2, t3, t4⟩ := T0.tie
      clear R o2 b2 hkeep hdel hlt ho hsz T0
      cases hd : (eqP t.a p || eqP t.b p) with
      | false =>
        rw [hd] at K
        have M := Lib.hid (HK.out (Bool.or_eq_false_iff.1 hd).1 (Bool.or_eq_false_iff.1 hd).2)
        clear HK HD hd
        go_wp2_with fail
        (with_reducible refine K.out.mono ?_)
        rintro e w3 ⟨rfl, o3⟩
        have o4 := O1.out.trans o3 (by simp)
        have M4 := Lib.hid (M.out.only o4 (by simp) (by simp))
        have R4 : Hid (DfR w g ab p S (c ++ [t]) w3) := Lib.hid ⟨M4.out.1, B2.out.only o4 (by simp), O2.out.trans o4 (by simp)⟩
        clear o3 o4
        go_wp2_with fail
        go_roundw
        case rel => exact ⟨_, R4.out⟩
        case measure => rw [M4.out.2]; exact LT.out
      | true =>
        rw [hd] at K
        have HD2 := Lib.hid (fun w1 o => HD.out w1 o (by simpa using hd))
        clear HK HD hd
        go_wp2_with fail
        (with_reducible refine K.out.mono ?_)
        rintro e w3 ⟨rfl, o3⟩
        have o4 := O1.out.trans o3 (by simp)
        obtain ⟨w4, hrun, hm, hle, o5⟩ := HD2.out w3 o4
        have R4 : Hid (DfR w g ab p S (c ++ [t]) w4) := Lib.hid ⟨hm, (B2.out.only o4 (by simp)).only o5 (by have := HGB.out; simp; omega), (O2.out.trans o4 (by simp)).trans o5 (by simp)⟩
        have L4 := Lib.hid hle
        clear o3 o4 hm hle o5
        go_wp2_with fail
        go_roundw
        case rel => exact ⟨_, R4.out⟩
        case measure => exact Nat.lt_of_le_of_lt L4.out LT.out
end Go.Proofs.Ytkodblhompphjaa
