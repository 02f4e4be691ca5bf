/- The document: flow.. -/
import Derived.Test.YtcdefnbehlcgeaaGreatDoorWbf
import Derived.Test.YtcdefnbehlcgeaaGreatDoorWbj
import Derived.BigQuiet
set_option maxHeartbeats 16000000
set_option maxRecDepth 20000
set_option linter.unusedSimpArgs false
set_option linter.unusedVariables false
namespace Go.Proofs.YtcdefnbehlcgeaaGreatDoor
open Go.RowKit
structure RFw (w : World) (mb fb hb gb : Nat) (mc fc : Array Value) (H : List Int) (g : List Bool) : Prop where
 m : Bk w mb 24 mc
 f : Bk w fb 45 fc
 h : Bk w hb 3 (iA H)
 g : Bk w gb 4 (bA g)
section
variable {w : World} {mb fb hb gb : Nat} {mc fc : Array Value} {H : List Int} {g : List Bool}
theorem RFw.apart (h : RFw w mb fb hb gb mc fc H g) : mb ≠ hb ∧ mb ≠ gb ∧ fb ≠ hb ∧ fb ≠ gb ∧ hb ≠ gb := ⟨h.m.apart h.h (by decide), h.m.apart h.g (by decide), h.f.apart h.h (by decide), h.f.apart h.g (by decide), h.h.apart h.g (by decide)⟩
theorem RFw.same {w' : World} (h : RFw w mb fb hb gb mc fc H g) (o : Only [] w w') : RFw w' mb fb hb gb mc fc H g := ⟨h.m.only o (by simp), h.f.only o (by simp), h.h.only o (by simp), h.g.only o (by simp)⟩
theorem RFw.setH (h : RFw w mb fb hb gb mc fc H g) (t : Nat) (b : Int) : RFw (w.setCell ⟨hb, t, none⟩ (.int .i64 b)) mb fb hb gb mc fc (H.set t b) g :=
 have ⟨a1, _, a3, _, a5⟩ := h.apart
 ⟨h.m.away (p := ⟨hb, t, none⟩) a1 _, h.f.away (p := ⟨hb, t, none⟩) a3 _, by rw [← iA_set]; exact h.h.set t _, h.g.away (p := ⟨hb, t, none⟩) (Ne.symm a5) _⟩
theorem RFw.setG (h : RFw w mb fb hb gb mc fc H g) (t : Nat) (b : Bool) : RFw (w.setCell ⟨gb, t, none⟩ (.bool b)) mb fb hb gb mc fc H (g.set t b) :=
 have ⟨_, a2, _, a4, a5⟩ := h.apart
 ⟨h.m.away (p := ⟨gb, t, none⟩) a2 _, h.f.away (p := ⟨gb, t, none⟩) a4 _, h.h.away (p := ⟨gb, t, none⟩) a5 _, by rw [← bA_set]; exact h.g.set t _⟩
end
open Classical in
noncomputable def mes (J : Nat → World → Prop) (wr : World) : Nat := if h : ∃ j, J j wr ∧ ∀ i, i < j → ¬ J i wr then Classical.choose h else 0
theorem mes_least {J : Nat → World → Prop} {wr : World} (h : ∃ k, J k wr) : J (mes J wr) wr := by
 obtain ⟨k, hk⟩ := h
 have h' : ∃ j, J j wr ∧ ∀ i, i < j → ¬ J i wr := least k hk
 unfold mes
 rw [dif_pos h']
 exact (Classical.choose_spec h').1
theorem mes_le {J : Nat → World → Prop} {wr : World} {k : Nat} (h : J k wr) : mes J wr ≤ k := by
 have h' : ∃ j, J j wr ∧ ∀ i, i < j → ¬ J i wr := least k h
 unfold mes
 rw [dif_pos h']
 exact Nat.le_of_not_lt fun hh => (Classical.choose_spec h').2 k hh h
def Laid (n : Nat) (H : List Int) (k : Nat) : Prop := H.length = n ∧ H[0]? = some 0 ∧ ∀ i, 1 ≤ i → i < k → H[i]? = some (-1)
theorem Laid.set {n : Nat} {H : List Int} {k : Nat} (h : Laid n H k) (h1 : 1 ≤ k) (hk : k < n) : Laid n (H.set k (-1)) (k + 1) := by
 refine ⟨by rw [List.length_set]; exact h.1, by rw [List.getElem?_set_ne (by omega)]; exact h.2.1, fun i h2 h3 => ?_⟩
 by_cases e : i = k
 ·subst e
  rw [List.getElem?_set_self (by rw [h.1]; exact hk)]
 ·rw [List.getElem?_set_ne (by omega)]
  exact h.2.2 i h2 (by omega)
theorem Laid.done {n : Nat} {H : List Int} (h : Laid n H n) (h1 : 1 ≤ n) : H = 0 :: List.replicate (n - 1) (-1) := by
 apply List.ext_getElem?
 intro i
 cases i with
 | zero => exact h.2.1
 | succ i =>
  rw [List.getElem?_cons_succ, List.getElem?_replicate]
  by_cases hi : i + 1 < n
  ·rw [h.2.2 (i + 1) (by omega) hi, if_pos (by omega)]
  ·rw [if_neg (by omega)]
   exact List.getElem?_eq_none (by rw [h.1]; omega)
theorem Laid.start {n : Nat} (h1 : 1 ≤ n) : Laid n (List.replicate n 0) 1 := ⟨by simp, by rw [List.getElem?_replicate, if_pos (by omega)], fun i h2 h3 => by omega⟩
def HBd (n : Nat) (H : List Int) : Prop := H.length = n ∧ ∀ t, t < n → -1 ≤ H.getD t (-1) ∧ H.getD t (-1) ≤ 256
theorem HBd.set {n : Nat} {H : List Int} (h : HBd n H) {t : Nat} (ht : t < n) {b : Int} (hb : -1 ≤ b ∧ b ≤ 256) : HBd n (H.set t b) := by
 refine ⟨by rw [List.length_set]; exact h.1, fun i hi => ?_⟩
 rw [getD_set _ _ _ _ _ (by rw [h.1]; exact ht)]
 split
 ·exact hb
 ·exact h.2 i hi
theorem HBd.start {n : Nat} (h1 : 1 ≤ n) : HBd n (0 :: List.replicate (n - 1) (-1)) := by
 refine ⟨by simp; omega, fun t ht => ?_⟩
 cases t with
 | zero => exact ⟨by simp, by simp⟩
 | succ t =>
  rw [List.getD_eq_getElem?_getD, List.getElem?_cons_succ, List.getElem?_replicate, if_pos (by omega)]
  exact ⟨by simp, by simp⟩
def LayRel (w : World) (n mb fb hb gb : Nat) (mc fc : Array Value) (v : Value) (wr : World) : Prop :=
 ∃ (k : Nat) (H : List Int), v = .int .i64 k ∧ 1 ≤ k ∧ k ≤ n ∧ Laid n H k ∧ RFw wr mb fb hb gb mc fc H (List.replicate n false) ∧ Only [] w wr
def OutJ (w : World) (fs : List Fu) (code : List In) (E : Int) (mb fb hb gb : Nat) (mc fc : Array Value) (k : Nat) (wr : World) : Prop :=
 ∃ (H : List Int) (g : List Bool), HBd code.length H ∧ g.length = code.length ∧ RFw wr mb fb hb gb mc fc H g ∧ flowF fs code k H g = E ∧ g.count false ≤ k ∧ Only [] w wr
def FdRel (w : World) (n : Nat) (H : List Int) (g : List Bool) (v : Value) (wr : World) : Prop :=
 ∃ i : Nat, v = .int .i64 i ∧ i ≤ n ∧ (∀ q, q < i → pend H g q = false) ∧ w = wr
def ReRel (w w2 : World) (n mb fb hb gb : Nat) (mc fc : Array Value) (g : List Bool) (b : Int) (R : List Int) (RR : Int × List Int) (v : Value) (wr : World) : Prop :=
 ∃ (j : Nat) (H : List Int), v = .int .i64 j ∧ j ≤ R.length ∧ reachAll n b (R.drop j) H = RR ∧ HBd n H ∧ RFw wr mb fb hb gb mc fc H g ∧ Only [] w wr ∧ Only [hb] w2 wr
theorem reffect_any (i : In) (fs : List Fu) (L : Int) (nm : ByteArray) (FA : Option Addr) (nf cf : Nat) (F : Nat → Prop) (st sa : Value) (w : World) (hf : FL w F fs (.slice FA nf cf)) (hl : fs.length ≤ 262144) (hg : i.Good) (hm : mayI fs.length L i = true) (hp : ∀ f ∈ fs, 0 ≤ f.params ∧ f.params ≤ 32) :
 Calls Tryz.prog 61 #[.agg #[.string nm, .slice FA nf cf], .agg (ics i.op i.a i.b i.t st sa)] w fun e w' => EffE w (eff fs i) e w' := by
 have hnf : nf = fs.length := by
  obtain ⟨A, c, hv⟩ := hf.slice
  injection hv
 refine reffect_go nm FA nf cf fs F i.op i.a i.b i.t st sa (eff fs i) w hf (by omega) ?_ (eff_case hg hm hp)
 obtain ⟨n, h1, h2, h3⟩ := hg.op
 rw [h1]
 simp [isOpB]
 omega
theorem pend_at {H : List Int} {g : List Bool} {i : Nat} (h : i < g.length) : pend H g i = (decide (0 ≤ H.getD i (-1)) && !(g.getD i false)) := by
 unfold pend
 rw [getD_lt h true false]
theorem rflow_any (nm : ByteArray) (FA : Option Addr) (nf cf : Nat) (fs : List Fu) (F : Nat → Prop) (f : Fu) (sc : Value) (L E : Int) (w : World) (hf : FL w F fs (.slice FA nf cf)) (hi : IL w F f.code sc) (ok : CodeOk fs f.code L) (h1 : 1 ≤ f.code.length) (h2 : f.code.length ≤ 1024) (hE : flE fs f = E) :
 Calls Tryz.prog 36 #[.agg #[.string nm, .slice FA nf cf], .agg (fcs f sc)] w fun e w' => ∃ (v : Value) (x : Int), e = .returned (.tuple #[v, .int .i64 E, .int .i64 x]) ∧ Only [] w w' := by
 have rs := store_com
 unfold flE at hE
 obtain ⟨fname, fpar, floc, code⟩ := f
 dsimp only at hi ok h1 h2 hE
 unfold fcs
 dsimp only
 obtain ⟨CA, cc, rfl⟩ := hi.slice
 obtain ⟨ib, io, _, _, _, _, _, _, hA, hib, hFi, -, -, -, -⟩ := in_at hi (show 0 < code.length by omega)
 subst hA
 have HIN := Lib.hid (fun t (ht : t < code.length) => show ∃ TA tn tc AA an ac, TV w F (code[t]'ht).t (.slice TA tn tc) ∧ AL w F (code[t]'ht).arms (.slice AA an ac) ∧ ∀ q u, ((ics (code[t]'ht).op (code[t]'ht).a (code[t]'ht).b (code[t]'ht).t (.slice TA tn tc) (.slice AA an ac)).toList)[q]? = some u → w.cell? ⟨ib, io + t * 11 + q, none⟩ = some u from by
  obtain ⟨ib', io', TA, tn, tc, AA, an, ac, e, -, -, -, htv, hal, hcs⟩ := in_at hi ht
  injection e with e
  injection e with e1 e2
  subst e1 e2
  exact ⟨TA, tn, tc, AA, an, ac, htv, hal, hcs⟩)
 have HB := Lib.hid hib
 have HFL := Lib.hid hf
 have OK := Lib.hid ok
 have HE := Lib.hid hE
 have hmi := make_ints code.length h2
 have hmb := make_bools code.length h2
 obtain ⟨n, hn⟩ : ∃ n, code.length = n := ⟨_, rfl⟩
 obtain ⟨ZI, hZI⟩ : ∃ ZI, iA (List.replicate n 0) = ZI := ⟨_, rfl⟩
 obtain ⟨ZB, hZB⟩ : ∃ ZB, bA (List.replicate n false) = ZB := ⟨_, rfl⟩
 rw [hn] at hmi hmb h1 h2 ⊢
 rw [hZI] at hmi
 rw [hZB] at hmb
 have HN := Lib.hid hn
 have HZI := Lib.hid hZI
 have HZB := Lib.hid hZB
 have O0 := Lib.hid (((((Only.refl [] w).alloc (.cells #[.string nm, .slice FA nf cf] 24)).alloc (.cells #[.string fname, .int .i64 fpar, .int .i64 floc, .slice (some ⟨ib, io, none⟩) n cc] 45)).alloc (.cells ZI 3)).alloc (.cells ZB 4))
 have HR0 := Lib.hid (show RFw ((((w.alloc (.cells #[.string nm, .slice FA nf cf] 24)).alloc (.cells #[.string fname, .int .i64 fpar, .int .i64 floc, .slice (some ⟨ib, io, none⟩) n cc] 45)).alloc (.cells ZI 3)).alloc (.cells ZB 4)) w.heap.size (w.heap.size + 1) (w.heap.size + 1 + 1) (w.heap.size + 1 + 1 + 1) #[.string nm, .slice FA nf cf] #[.string fname, .int .i64 fpar, .int .i64 floc, .slice (some ⟨ib, io, none⟩) n cc] (List.replicate n 0) (List.replicate n false) from
  ⟨(((Bk.made w 24 #[.string nm, .slice FA nf cf]).alloc _).alloc _).alloc _, ((Bk.madeAt (w := (w.alloc (.cells #[.string nm, .slice FA nf cf] 24))) (t := 45) (cs := #[.string fname, .int .i64 fpar, .int .i64 floc, .slice (some ⟨ib, io, none⟩) n cc]) (b := w.heap.size + 1) (by simp)).alloc _).alloc _, by rw [hZI]; exact (Bk.madeAt (w := ((w.alloc (.cells #[.string nm, .slice FA nf cf] 24)).alloc (.cells #[.string fname, .int .i64 fpar, .int .i64 floc, .slice (some ⟨ib, io, none⟩) n cc] 45))) (t := 3) (cs := ZI) (b := w.heap.size + 1 + 1) (by simp)).alloc _, by rw [hZB]; exact Bk.madeAt (w := (((w.alloc (.cells #[.string nm, .slice FA nf cf] 24)).alloc (.cells #[.string fname, .int .i64 fpar, .int .i64 floc, .slice (some ⟨ib, io, none⟩) n cc] 45)).alloc (.cells ZI 3))) (t := 4) (cs := ZB) (b := w.heap.size + 1 + 1 + 1) (by simp)⟩)
 obtain ⟨W0, hW0⟩ : ∃ W0, ((((w.alloc (.cells #[.string nm, .slice FA nf cf] 24)).alloc (.cells #[.string fname, .int .i64 fpar, .int .i64 floc, .slice (some ⟨ib, io, none⟩) n cc] 45)).alloc (.cells ZI 3)).alloc (.cells ZB 4)) = W0 := ⟨_, rfl⟩
 rw [hW0] at HR0 O0
 have HW0 := Lib.hid hW0
 clear hf hi ok hE hn hZI hZB hib hW0
 go_enter Tryz.func36, Tryz.ntmps36
 go_wp2_with fail
 rw [HW0.out]
 clear hmi hmb HW0 HZI HZB
 generalize hgb : w.heap.size + 1 + 1 + 1 = gb at *
 generalize hhb : w.heap.size + 1 + 1 = hb at *
 generalize hfb : w.heap.size + 1 = fb at *
 have l1 : w.heap.size ≤ hb := by omega
 have l2 : w.heap.size ≤ gb := by omega
 clear hgb hhb hfb
 have hlen := HN.out
 subst hlen
 clear HN
 go_loopw [10] (fun v wr => LayRel w code.length w.heap.size fb hb gb #[.string nm, .slice FA nf cf] #[.string fname, .int .i64 fpar, .int .i64 floc, .slice (some ⟨ib, io, none⟩) code.length cc] v wr) (fun v _ => code.length - (intOf v).toNat)
 case atStart => exact ⟨1, _, rfl, Nat.le_refl _, h1, Laid.start h1, HR0.out, O0.out⟩
 case round =>
  obtain ⟨k, H, rfl, hk1, hkn, hlaid, hrf, ho⟩ := hrel
  have HLD := Lib.hid hlaid
  have HRF := Lib.hid hrf
  have HO := Lib.hid ho
  clear hlaid ho HR0 O0
  by_cases hlt : k < code.length
  ·have q1 := hrf.h.free k
   have k1 := hrf.h.cell0 (iA_at (show k < H.length by rw [HLD.out.1]; exact hlt))
   have k1' : wr.cell? ⟨hb, 0 + k, none⟩ = some (.int .i64 (H.getD k (-1))) := by rw [Nat.zero_add]; exact k1
   obtain ⟨hk0, hhk0⟩ : ∃ hk0, H.getD k (-1) = hk0 := ⟨_, rfl⟩
   rw [hhk0] at k1 k1'
   clear hhk0
   have hti : (k : Int) < (code.length : Int) := by omega
   have HX := Lib.hid (show LayRel w code.length w.heap.size fb hb gb #[.string nm, .slice FA nf cf] #[.string fname, .int .i64 fpar, .int .i64 floc, .slice (some ⟨ib, io, none⟩) code.length cc] (.int .i64 ((k : Int) + 1)) (wr.setCell ⟨hb, k, none⟩ (.int .i64 (-1))) from ⟨k + 1, _, by go_num, by omega, by omega, HLD.out.set hk1 hlt, HRF.out.setH k (-1), HO.out.set (p := ⟨hb, k, none⟩) (.inr l1) _⟩)
   clear hrf
   go_wp2_with fail
   go_roundw
   case rel => exact HX.out
   case measure => simp [intOf]; omega
  ·have hke : k = code.length := by omega
   subst hke
   have hH := HLD.out.done h1
   subst hH
   clear hrf HLD hkn hlt
   go_wp2_with fail
   go_loopw [] (fun wq => ∃ k, OutJ w fs code E w.heap.size fb hb gb #[.string nm, .slice FA nf cf] #[.string fname, .int .i64 fpar, .int .i64 floc, .slice (some ⟨ib, io, none⟩) code.length cc] k wq) (fun wq => mes (OutJ w fs code E w.heap.size fb hb gb #[.string nm, .slice FA nf cf] #[.string fname, .int .i64 fpar, .int .i64 floc, .slice (some ⟨ib, io, none⟩) code.length cc]) wq)
   case atStart => exact ⟨code.length, _, _, HBd.start h1, by simp, HRF.out, HE.out, by simp, HO.out⟩
   case round =>
    obtain ⟨wa, ea⟩ : ∃ wa, wa = wr := ⟨_, rfl⟩
    subst ea
    have hJ := mes_least hrel
    obtain ⟨k, hk⟩ : ∃ k, mes (OutJ w fs code E w.heap.size fb hb gb #[.string nm, .slice FA nf cf] #[.string fname, .int .i64 fpar, .int .i64 floc, .slice (some ⟨ib, io, none⟩) code.length cc]) wa = k := ⟨_, rfl⟩
    have HK := Lib.hid hk
    rw [hk] at hJ
    obtain ⟨H, g, hbd, hgl, hrf, hfl, hcn, ho⟩ := hJ
    have ABD := Lib.hid hbd
    have ARF := Lib.hid hrf
    have AFL := Lib.hid hfl
    have ACN := Lib.hid hcn
    have AO := Lib.hid ho
    clear hk hrel hbd hrf hfl hcn ho HRF HE HO
    go_wp2_with fail
    go_loopw [11] (fun v wq => FdRel wa code.length H g v wq) (fun v _ => code.length - (intOf v).toNat)
    case atStart => exact ⟨0, rfl, Nat.zero_le _, fun q hq => by omega, rfl⟩
    case round =>
     obtain ⟨i, rfl, hi, hlo, ew⟩ := hrel
     subst ew
     have HLO := Lib.hid hlo
     clear hlo
     by_cases hil : i < code.length
     ·have k1 := ARF.out.h.cell0 (iA_at (show i < H.length by rw [ABD.out.1]; exact hil))
      have k2 := ARF.out.g.cell0 (bA_at (show i < g.length by rw [hgl]; exact hil))
      have hpd : pend H g i = (decide (0 ≤ H.getD i (-1)) && !(g.getD i false)) := pend_at (by rw [hgl]; exact hil)
      have hbd := ABD.out.2 i hil
      obtain ⟨hx, hhx⟩ : ∃ hx, H.getD i (-1) = hx := ⟨_, rfl⟩
      obtain ⟨gx, hgx⟩ : ∃ gx, g.getD i false = gx := ⟨_, rfl⟩
      rw [hhx] at k1 hpd hbd
      rw [hgx] at k2 hpd
      have k1' : wa.cell? ⟨hb, 0 + i, none⟩ = some (.int .i64 hx) := by rw [Nat.zero_add]; exact k1
      have k2' : wa.cell? ⟨gb, 0 + i, none⟩ = some (.bool gx) := by rw [Nat.zero_add]; exact k2
      have hti : (i : Int) < (code.length : Int) := by omega
      have HPD := Lib.hid hpd
      have HHX := Lib.hid hhx
      have HGX := Lib.hid hgx
      have HX := Lib.hid (show pend H g i = false → FdRel wa code.length H g (.int .i64 ((i : Int) + 1)) wa from fun h => ⟨i + 1, by go_num, by omega, fun q hq => by
       by_cases e : q = i
       ·rw [e]; exact h
       ·exact HLO.out q (by omega), rfl⟩)
      clear hpd hhx hgx
      by_cases hneg : hx < 0
      ·have HX2 := Lib.hid (HX.out (by rw [HPD.out, decide_eq_false (by omega), Bool.false_and]))
       have e1 : decide (hx < 0) = true := decide_eq_true hneg
       clear hbd
       go_wp2_with fail
       go_roundw
       case rel => exact HX2.out
       case measure => simp [intOf]; omega
      have e1 : decide (hx < 0) = false := decide_eq_false hneg
      cases gx with
      | true =>
       have HX2 := Lib.hid (HX.out (by rw [HPD.out, Bool.not_true, Bool.and_false]))
       clear hbd
       go_wp2_with fail
       go_roundw
       case rel => exact HX2.out
       case measure => simp [intOf]; omega
      | false =>
       have hpt : pend H g i = true := by rw [HPD.out, decide_eq_true (by omega)]; rfl
       have hgc := gone_count (show i < g.length by rw [hgl]; exact hil) (pend_yes hpt).2
       have hcn := ACN.out
       obtain ⟨f', rfl⟩ : ∃ f', k = f' + 1 := ⟨k - 1, by omega⟩
       obtain ⟨TA, tn, tc, AA, an, ac, htv, hal, hcs⟩ := HIN.out i hil
       have hg := OK.out.good _ (List.getElem_mem hil)
       have hmy := OK.out.may _ (List.getElem_mem hil)
       have hto := leads_bd hil (OK.out.goes _ (List.getElem_mem hil))
       have heb := eff_bd hg hmy OK.out.par
       have hstep := (flow_thQ (fs := fs) (f := f') hil (next_is (n := code.length) HLO.out hi (.inr hpt))).symm.trans AFL.out
       have hnf : nf = fs.length := by
        obtain ⟨A, c, hv⟩ := HFL.out.slice
        injection hv
       have HEf := Lib.hid (fun (w' : World) (o : Only [] w w') => reffect_any (code[i]'hil) fs L nm FA nf cf F (.slice TA tn tc) (.slice AA an ac) w' (HFL.out.same o) OK.out.fl hg hmy OK.out.par)
       have HLd := Lib.hid (fun (w' : World) (o : Only [] w w') => goes_any (code[i]'hil) hg.rl i (by omega) (.slice TA tn tc) AA an ac F w' (hal.same o))
       have hRl : ((code[i]'hil).leads i).length ≤ 262146 := by
        unfold In.leads In.to
        have := hg.rl
        rw [List.length_append, List.length_append, List.length_map]
        split <;> split <;> simp <;> omega
       unfold thQ at hstep
       rw [HHX.out] at hstep
       clear htv hal hg hmy hnf
       generalize code[i]'hil = ins at *
       obtain ⟨R, hR⟩ : ∃ R, ins.leads i = R := ⟨_, rfl⟩
       obtain ⟨⟨tk, lv⟩, hEq⟩ : ∃ q, eff fs ins = q := ⟨_, rfl⟩
       rw [hR] at HLd hto hRl hstep
       rw [hEq] at HEf heb hstep
       dsimp only at heb hstep
       have HST := Lib.hid hstep
       have HGC := Lib.hid (show (g.set i true).count false ≤ f' by omega)
       have BRF := Lib.hid (ARF.out.setG i true)
       have BO := Lib.hid (AO.out.set (p := ⟨gb, i, none⟩) (.inr l2) (.bool true))
       have q1 := ARF.out.g.free i
       have HIC := Lib.hid (fun (w' : World) (o : Only [] w w') => in_eleven (g := ib) (o := io + i * 11) (w := w') fun q u hu => (o.cell (p := ⟨ib, io + i * 11 + q, none⟩) HB.out (by simp)).trans (hcs q u hu))
       clear hR hEq hstep hcs hgc hcn HX HPD HGX hpt
       go_wp2_with fail
       clear q1 k1 k1' k2 k2'
       generalize wa.setCell ⟨gb, i, none⟩ (.bool true) = wb at *
       have u0 : ∀ x : Cm wb, x.1.cell? ⟨w.heap.size, 0, none⟩ = some (.string nm) := Cm.cell (BRF.out.m.cell0 rfl)
       have u1 : ∀ x : Cm wb, x.1.cell? ⟨w.heap.size, 1, none⟩ = some (.slice FA nf cf) := Cm.cell (BRF.out.m.cell0 rfl)
       have u3 : ∀ x : Cm wb, x.1.cell? ⟨fb, 3, none⟩ = some (.slice (some ⟨ib, io, none⟩) code.length cc) := Cm.cell (BRF.out.f.cell0 rfl)
       have v0 : ∀ x : Cm wb, x.1.cell? ⟨ib, io + i * 11, none⟩ = some (.int .i64 ins.op) := fun x => (HIC.out _ (BO.out.trans x.o (by simp))).1
       have v1 : ∀ x : Cm wb, x.1.cell? ⟨ib, io + i * 11 + 1, none⟩ = some (.int .i64 ins.a) := fun x => (HIC.out _ (BO.out.trans x.o (by simp))).2.1
       have v2 : ∀ x : Cm wb, x.1.cell? ⟨ib, io + i * 11 + 2, none⟩ = some (.int .i64 ins.b) := fun x => (HIC.out _ (BO.out.trans x.o (by simp))).2.2.1
       have v3 : ∀ x : Cm wb, x.1.cell? ⟨ib, io + i * 11 + 3, none⟩ = some (.int .i64 ins.t.k) := fun x => (HIC.out _ (BO.out.trans x.o (by simp))).2.2.2.1
       have v4 : ∀ x : Cm wb, x.1.cell? ⟨ib, io + i * 11 + 4, none⟩ = some (.int .i64 ins.t.n) := fun x => (HIC.out _ (BO.out.trans x.o (by simp))).2.2.2.2.1
       have v5 : ∀ x : Cm wb, x.1.cell? ⟨ib, io + i * 11 + 5, none⟩ = some (.complex .f64 ins.t.x ins.t.y) := fun x => (HIC.out _ (BO.out.trans x.o (by simp))).2.2.2.2.2.1
       have v6 : ∀ x : Cm wb, x.1.cell? ⟨ib, io + i * 11 + 6, none⟩ = some (.string ins.t.S) := fun x => (HIC.out _ (BO.out.trans x.o (by simp))).2.2.2.2.2.2.1
       have v7 : ∀ x : Cm wb, x.1.cell? ⟨ib, io + i * 11 + 7, none⟩ = some (.int .i64 ins.t.a) := fun x => (HIC.out _ (BO.out.trans x.o (by simp))).2.2.2.2.2.2.2.1
       have v8 : ∀ x : Cm wb, x.1.cell? ⟨ib, io + i * 11 + 8, none⟩ = some (.int .i64 ins.t.b) := fun x => (HIC.out _ (BO.out.trans x.o (by simp))).2.2.2.2.2.2.2.2.1
       have v9 : ∀ x : Cm wb, x.1.cell? ⟨ib, io + i * 11 + 9, none⟩ = some (.slice TA tn tc) := fun x => (HIC.out _ (BO.out.trans x.o (by simp))).2.2.2.2.2.2.2.2.2.1
       have v10 : ∀ x : Cm wb, x.1.cell? ⟨ib, io + i * 11 + 10, none⟩ = some (.slice AA an ac) := fun x => (HIC.out _ (BO.out.trans x.o (by simp))).2.2.2.2.2.2.2.2.2.2
       have KE := Lib.hid (fun x : Cm wb => show Calls Tryz.prog 61 #[.agg #[.string nm, .slice FA nf cf], .agg (ics ins.op ins.a ins.b ins.t (.slice TA tn tc) (.slice AA an ac))] x.1 fun e w' => e = .returned (.tuple #[.int .i64 tk, .int .i64 lv, .int .i64 0]) ∧ Only [] x.1 w' from HEf.out x.1 (BO.out.trans x.o (by simp)))
       have q1 : IntKind.i64.wrap (hx - tk) = hx - tk := IntWalk.i64_in _ (by omega)
       have q2 : IntKind.i64.wrap (hx - tk + lv) = hx - tk + lv := IntWalk.i64_in _ (by omega)
       clear HEf
       refine wp_region_calm (by kernel_rfl) (by kernel_rfl) ?_
       repeat (go_big_quiet_step ((go_at_call 61; exact calmS (KE.out _))))
       refine wpQuiet_nil ?_
       rintro w1 ⟨⟨w1', o1⟩, eq1⟩
       obtain rfl : w1 = w1' := eq1
       have O1 := Lib.hid (BO.out.trans o1 (by simp))
       have RF1 := Lib.hid (BRF.out.same o1)
       have kx : w1.cell? ⟨hb, i, none⟩ = some (.int .i64 hx) := by
        rw [← HHX.out]
        exact RF1.out.h.cell0 (iA_at (show i < H.length by rw [ABD.out.1]; exact hil))
       have kx' : w1.cell? ⟨hb, 0 + i, none⟩ = some (.int .i64 hx) := by rw [Nat.zero_add]; exact kx
       have f3 := RF1.out.f.cell0 (i := 3) rfl
       obtain ⟨i0, i1, i2, i3, i4, i5, i6, i7, i8, i9, i10⟩ := HIC.out _ O1.out
       clear u0 u1 u3 v0 v1 v2 v3 v4 v5 v6 v7 v8 v9 v10 o1 KE
       by_cases hc : hx < tk ∨ 256 < hx - tk + lv
       ·have HE0 := Lib.hid (show (63 : Int) = E by
         have h := HST.out
         rw [if_pos hc] at h
         exact h)
        by_cases hc1 : hx < tk
        ·have e2 : decide (hx < tk) = true := decide_eq_true hc1
         clear hc
         go_wp2_with fail
         have HF := Lib.hid (show ∃ (v : Value) (x : Int), Ending.returned (.tuple #[.slice (some ⟨hb, 0, none⟩) code.length code.length, .int .i64 63, .int .i64 i]) = .returned (.tuple #[v, .int .i64 E, .int .i64 x]) ∧ Only [] w w1 from ⟨_, _, by rw [HE0.out], O1.out⟩)
         first
          | exact bodyPost_ret (v := .tuple #[.slice (some ⟨hb, 0, none⟩) code.length code.length, .int .i64 63, .int .i64 i]) (by simp [results, Tryz.results36, go_sem]) rfl HF.out
          | exact bodyPost_ret (v := .tuple #[.slice (some ⟨hb, 0, none⟩) code.length code.length, .int .i64 63, .int .i64 i]) (by simp [results, Tryz.results36, go_sem]) rfl (by obtain ⟨v, x, h, o⟩ := HF.out; exact ⟨⟨v, x, h⟩, o⟩)
        ·have e2 : decide (hx < tk) = false := decide_eq_false hc1
         have hc2 : 256 < hx - tk + lv := hc.resolve_left hc1
         have e3 : decide (256 < hx - tk + lv) = true := decide_eq_true hc2
         clear hc
         go_wp2_with fail
         have HF := Lib.hid (show ∃ (v : Value) (x : Int), Ending.returned (.tuple #[.slice (some ⟨hb, 0, none⟩) code.length code.length, .int .i64 63, .int .i64 i]) = .returned (.tuple #[v, .int .i64 E, .int .i64 x]) ∧ Only [] w w1 from ⟨_, _, by rw [HE0.out], O1.out⟩)
         first
          | exact bodyPost_ret (v := .tuple #[.slice (some ⟨hb, 0, none⟩) code.length code.length, .int .i64 63, .int .i64 i]) (by simp [results, Tryz.results36, go_sem]) rfl HF.out
          | exact bodyPost_ret (v := .tuple #[.slice (some ⟨hb, 0, none⟩) code.length code.length, .int .i64 63, .int .i64 i]) (by simp [results, Tryz.results36, go_sem]) rfl (by obtain ⟨v, x, h, o⟩ := HF.out; exact ⟨⟨v, x, h⟩, o⟩)
       ·have e2 : decide (hx < tk) = false := decide_eq_false (fun h => hc (.inl h))
        have e3 : decide (256 < hx - tk + lv) = false := decide_eq_false (fun h => hc (.inr h))
        have hb0 : -1 ≤ hx - tk + lv ∧ hx - tk + lv ≤ 256 := by omega
        have hcn1 : ¬ hx < tk := fun h => hc (.inl h)
        have hcn2 : ¬ 256 < hx - tk + lv := fun h => hc (.inr h)
        have hst := HST.out
        rw [if_neg hc] at hst
        have HST2 := Lib.hid hst
        clear hc hst HST
        go_wp2_with fail
        (with_reducible refine (HLd.out _ O1.out).mono ?_)
        rintro e w2 ⟨RA, rc, rfl, hir, o2⟩
        obtain ⟨RA', rc', hv, hlies⟩ := hir.slice
        injection hv with hv1 hv2 hv3
        subst hv1 hv3
        have O2 := Lib.hid (O1.out.trans o2 (by simp))
        have RF2 := Lib.hid (RF1.out.same o2)
        have HRL := Lib.hid hlies
        have hlb := RF1.out.h.lt
        have HRB := Lib.hid (fun zb (e : (Value.slice RA R.length rc).ownBlock = some zb) => show zb ≠ hb from by
         have := (hir.block e).1
         omega)
        obtain ⟨b, hbq⟩ : ∃ b, hx - tk + lv = b := ⟨_, rfl⟩
        rw [hbq] at hb0 HST2 ⊢
        obtain ⟨RR, hRR⟩ : ∃ RR, reachAll code.length b R H = RR := ⟨_, rfl⟩
        rw [hRR] at HST2
        have HRR := Lib.hid hRR
        clear hir hlies o2 kx kx' f3 i0 i1 i2 i3 i4 i5 i6 i7 i8 i9 i10 q1 q2 e2 e3 hcn1 hcn2 hbq hRR
        go_wp2_with fail
        go_loopw [17] (fun v wq => ReRel w w2 code.length w.heap.size fb hb gb #[.string nm, .slice FA nf cf] #[.string fname, .int .i64 fpar, .int .i64 floc, .slice (some ⟨ib, io, none⟩) code.length cc] (g.set i true) b R RR v wq) (fun v _ => R.length - (intOf v).toNat)
        case atStart => exact ⟨0, H, rfl, Nat.zero_le _, HRR.out, ABD.out, RF2.out, O2.out, Only.refl _ _⟩
        case round =>
         obtain ⟨j, H', rfl, hj, hre, hbd', hrf', ho', hoa⟩ := hrel
         have QBD := Lib.hid hbd'
         have QRF := Lib.hid hrf'
         have QO := Lib.hid ho'
         have QA := Lib.hid hoa
         have QRE := Lib.hid hre
         clear hre hbd' hrf' ho' hoa
         by_cases hjl : j < R.length
         ·obtain ⟨z, hz⟩ : ∃ z, R[j]? = some z := ⟨_, List.getElem?_eq_getElem hjl⟩
          obtain ⟨zb, rfl, cz, hbz⟩ := HRL.out j z hz
          have hz0 := hto z (List.mem_of_getElem? hz)
          have hgn := HRB.out zb rfl
          have dz : wr.cell? ⟨zb, j, none⟩ = some (.int .i64 z) := (QA.out.cell (p := ⟨zb, j, none⟩) (by obtain ⟨cs, hcs⟩ := hbz; exact hcs.lt) (by simp; omega)).trans cz
          have dz' : wr.cell? ⟨zb, 0 + j, none⟩ = some (.int .i64 z) := by rw [Nat.zero_add]; exact dz
          have hre := QRE.out
          rw [List.drop_eq_getElem_cons hjl, show R[j]'hjl = z from by rw [List.getElem?_eq_getElem hjl] at hz; exact Option.some.inj hz, reach_cons] at hre
          have QR2 := Lib.hid hre
          have hjl' : (j : Int) < (R.length : Int) := by omega
          clear hre hz cz hbz
          by_cases hzn : (code.length : Int) ≤ z
          ·have HE0 := Lib.hid (show (64 : Int) = E by
            have h := QR2.out
            rw [if_pos hzn] at h
            have h2 := HST2.out
            rw [← h] at h2
            exact h2)
           have e4 : decide ((code.length : Int) ≤ z) = true := decide_eq_true hzn
           go_wp2_with fail
           have HF := Lib.hid (show ∃ (v : Value) (x : Int), Ending.returned (.tuple #[.slice (some ⟨hb, 0, none⟩) code.length code.length, .int .i64 64, .int .i64 i]) = .returned (.tuple #[v, .int .i64 E, .int .i64 x]) ∧ Only [] w wr from ⟨_, _, by rw [HE0.out], QO.out⟩)
           first
            | exact bodyPost_ret (v := .tuple #[.slice (some ⟨hb, 0, none⟩) code.length code.length, .int .i64 64, .int .i64 i]) (by simp [results, Tryz.results36, go_sem]) rfl HF.out
            | exact bodyPost_ret (v := .tuple #[.slice (some ⟨hb, 0, none⟩) code.length code.length, .int .i64 64, .int .i64 i]) (by simp [results, Tryz.results36, go_sem]) rfl (by obtain ⟨v, x, h, o⟩ := HF.out; exact ⟨⟨v, x, h⟩, o⟩)
          ·have e4 : decide ((code.length : Int) ≤ z) = false := decide_eq_false hzn
           obtain ⟨tz, rfl⟩ : ∃ tz : Nat, z = (tz : Int) := ⟨z.toNat, by omega⟩
           have htz : tz < code.length := by omega
           have htz' : (tz : Int) < (code.length : Int) := by omega
           have hre := QR2.out
           rw [if_neg hzn, Int.toNat_natCast] at hre
           have QR3 := Lib.hid hre
           have c1 := QRF.out.h.cell0 (iA_at (show tz < H'.length by rw [QBD.out.1]; exact htz))
           obtain ⟨hz, hhz⟩ : ∃ hz, H'.getD tz (-1) = hz := ⟨_, rfl⟩
           rw [hhz] at c1 QR3
           have c1' : wr.cell? ⟨hb, 0 + tz, none⟩ = some (.int .i64 hz) := by rw [Nat.zero_add]; exact c1
           have q1 := QRF.out.h.free tz
           clear hre hhz
           have HGO := Lib.hid (fun (h : ¬ (0 ≤ hz ∧ hz ≠ b)) => show ReRel w w2 code.length w.heap.size fb hb gb #[.string nm, .slice FA nf cf] #[.string fname, .int .i64 fpar, .int .i64 floc, .slice (some ⟨ib, io, none⟩) code.length cc] (g.set i true) b R RR (.int .i64 ((j : Int) + 1)) (wr.setCell ⟨hb, tz, none⟩ (.int .i64 b)) from
            ⟨j + 1, _, by go_num, by omega, by have h' := QR3.out; rw [if_neg h] at h'; exact h', QBD.out.set htz hb0, QRF.out.setH tz b, QO.out.set (p := ⟨hb, tz, none⟩) (.inr l1) _, QA.out.set (p := ⟨hb, tz, none⟩) (.inl (by simp)) _⟩)
           by_cases hzz : 0 ≤ hz
           ·have e5 : decide (0 ≤ hz) = true := decide_eq_true hzz
            by_cases hzb : hz = b
            ·have HX2 := Lib.hid (HGO.out (fun h => h.2 hzb))
             have e6 : (hz != b) = false := by simpa using hzb
             clear hzb
             go_wp2_with fail
             go_roundw
             case rel => exact HX2.out
             case measure => simp [intOf]; omega
            ·have HE0 := Lib.hid (show (63 : Int) = E by
              have h := QR3.out
              rw [if_pos ⟨hzz, hzb⟩] at h
              have h2 := HST2.out
              rw [← h] at h2
              exact h2)
             have e6 : (hz != b) = true := by simpa using hzb
             clear hzb
             go_wp2_with fail
             have HF := Lib.hid (show ∃ (v : Value) (x : Int), Ending.returned (.tuple #[.slice (some ⟨hb, 0, none⟩) code.length code.length, .int .i64 63, .int .i64 i]) = .returned (.tuple #[v, .int .i64 E, .int .i64 x]) ∧ Only [] w wr from ⟨_, _, by rw [HE0.out], QO.out⟩)
             first
              | exact bodyPost_ret (v := .tuple #[.slice (some ⟨hb, 0, none⟩) code.length code.length, .int .i64 63, .int .i64 i]) (by simp [results, Tryz.results36, go_sem]) rfl HF.out
              | exact bodyPost_ret (v := .tuple #[.slice (some ⟨hb, 0, none⟩) code.length code.length, .int .i64 63, .int .i64 i]) (by simp [results, Tryz.results36, go_sem]) rfl (by obtain ⟨v, x, h, o⟩ := HF.out; exact ⟨⟨v, x, h⟩, o⟩)
           ·have e5 : decide (0 ≤ hz) = false := decide_eq_false hzz
            have HX2 := Lib.hid (HGO.out (fun h => hzz h.1))
            go_wp2_with fail
            go_roundw
            case rel => exact HX2.out
            case measure => simp [intOf]; omega
         ·have hje : j = R.length := by omega
          subst hje
          have hr0 : (0, H') = RR := by rw [← QRE.out, List.drop_length]; rfl
          have HN2 := Lib.hid (show OutJ w fs code E w.heap.size fb hb gb #[.string nm, .slice FA nf cf] #[.string fname, .int .i64 fpar, .int .i64 floc, .slice (some ⟨ib, io, none⟩) code.length cc] f' wr from ⟨H', g.set i true, QBD.out, by rw [List.length_set]; exact hgl, QRF.out, by
           have h := HST2.out
           rw [← hr0] at h
           exact h, HGC.out, QO.out⟩)
          have HLT := Lib.hid (show mes (OutJ w fs code E w.heap.size fb hb gb #[.string nm, .slice FA nf cf] #[.string fname, .int .i64 fpar, .int .i64 floc, .slice (some ⟨ib, io, none⟩) code.length cc]) wr < mes (OutJ w fs code E w.heap.size fb hb gb #[.string nm, .slice FA nf cf] #[.string fname, .int .i64 fpar, .int .i64 floc, .slice (some ⟨ib, io, none⟩) code.length cc]) wa from by
           rw [HK.out]
           exact Nat.lt_of_le_of_lt (mes_le HN2.out) (Nat.lt_succ_self _))
          clear hr0 hj
          go_wp2_with fail
          go_roundw
          case rel => exact ⟨_, HN2.out⟩
          case measure => exact HLT.out
     ·have hie : i = code.length := by omega
      subst hie
      have HE0 := Lib.hid (show (0 : Int) = E by
       rw [← AFL.out]
       exact (flow_end (next_is HLO.out (Nat.le_refl _) (.inl rfl))).symm)
      clear hi hil
      go_wp2_with fail
      have HF := Lib.hid (show ∃ (v : Value) (x : Int), Ending.returned (.tuple #[.slice (some ⟨hb, 0, none⟩) code.length code.length, .int .i64 0, .int .i64 0]) = .returned (.tuple #[v, .int .i64 E, .int .i64 x]) ∧ Only [] w wa from ⟨_, _, by rw [HE0.out], AO.out⟩)
      first
       | exact bodyPost_ret (v := .tuple #[.slice (some ⟨hb, 0, none⟩) code.length code.length, .int .i64 0, .int .i64 0]) (by simp [results, Tryz.results36, go_sem]) rfl HF.out
       | exact bodyPost_ret (v := .tuple #[.slice (some ⟨hb, 0, none⟩) code.length code.length, .int .i64 0, .int .i64 0]) (by simp [results, Tryz.results36, go_sem]) rfl (by obtain ⟨v, x, h, o⟩ := HF.out; exact ⟨⟨v, x, h⟩, o⟩)
end Go.Proofs.YtcdefnbehlcgeaaGreatDoor
