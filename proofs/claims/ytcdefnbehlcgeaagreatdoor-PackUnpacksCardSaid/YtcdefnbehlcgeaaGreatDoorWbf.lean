/- code: flow.through.. The document: Effect.. -/
import Derived.Test.YtcdefnbehlcgeaaGreatDoorWbc
import Derived.Test.YtcdefnbehlcgeaaGreatDoorWbe
import Derived.Test.YtcdefnbehlcgeaaGreatDoorWf
import Derived.BigQuiet
import Derived.Test.YtcdefnbehlcgeaaGreatDoorWbb
set_option maxHeartbeats 16000000
set_option maxRecDepth 20000
set_option linter.unusedSimpArgs false
set_option linter.unusedVariables false
namespace Go.Proofs.YtcdefnbehlcgeaaGreatDoor
open Go.RowKit
structure FM (w : World) (c : FC) (F : Nat → Prop) (fs : List Fu) (code : List In) : Prop where
 f : FL w F fs (.slice c.FA c.nf c.cf)
 i : IL w F code (.slice c.CA c.n c.cc)
 F : ∀ b, F b → b < w.heap.size
theorem FM.only {S : List Nat} {w w' : World} {c : FC} {F : Nat → Prop} {fs : List Fu} {code : List In} (h : FM w c F fs code) (o : Only S w w') (hS : ∀ b ∈ S, ¬ F b) : FM w' c F fs code := ⟨h.f.only o hS (fun _ h => h), h.i.only o hS (fun _ h => h), fun b hb => Nat.lt_of_lt_of_le (h.F b hb) o.size⟩
theorem FM.same {w w' : World} {c : FC} {F : Nat → Prop} {fs : List Fu} {code : List In} (h : FM w c F fs code) (o : Only [] w w') : FM w' c F fs code := h.only o (by simp)
structure CodeOk (fs : List Fu) (code : List In) (L : Int) : Prop where
 fl : fs.length ≤ 262144
 cl : code.length ≤ 262144
 par : ∀ f ∈ fs, 0 ≤ f.params ∧ f.params ≤ 32
 good : ∀ i ∈ code, i.Good
 may : ∀ i ∈ code, mayI fs.length L i = true
 goes : ∀ i ∈ code, i.to.all (fun z => decide (0 ≤ z) && decide (z < (code.length : Int))) = true
theorem eff_case {fs : List Fu} {i : In} {L : Int} (hg : i.Good) (hm : mayI fs.length L i = true) (hp : ∀ f ∈ fs, 0 ≤ f.params ∧ f.params ≤ 32) :
 (i.op = 3 ∧ 0 ≤ i.a ∧ i.a ≤ 254 ∧ (i.a + 1, i.a + 2) = eff fs i) ∨ (i.op = 18 ∧ 0 ≤ i.a ∧ i.a ≤ 255 ∧ (i.a, 1) = eff fs i) ∨ (i.op = 19 ∧ 0 ≤ i.a ∧ i.a ≤ 255 ∧ (i.a, 1) = eff fs i) ∨
  (i.op = 28 ∧ ∃ (k : Nat) (h : k < fs.length), i.a = (k : Int) ∧ 0 ≤ (fs[k]'h).params ∧ ((fs[k]'h).params, 1) = eff fs i) ∨ (i.op = 34 ∧ ∃ (k : Nat) (h : k < fs.length), i.a = (k : Int) ∧ 0 ≤ (fs[k]'h).params ∧ ((fs[k]'h).params, 1) = eff fs i) ∨
  (i.op ≠ 3 ∧ i.op ≠ 18 ∧ i.op ≠ 19 ∧ i.op ≠ 28 ∧ i.op ≠ 34 ∧ (tkl.getD i.op.toNat 0, lvl.getD i.op.toNat 0) = eff fs i) := by
 have ha := hg.a0
 unfold mayI at hm
 by_cases h3 : i.op = 3
 ·rw [if_neg (by omega), if_pos h3] at hm
  exact .inl ⟨h3, ha, of_decide_eq_true hm, by unfold eff; rw [if_pos h3]⟩
 by_cases h18 : i.op = 18
 ·rw [if_neg (by omega), if_neg (by omega), if_neg (by omega), if_neg (by omega), if_pos (.inl h18)] at hm
  exact .inr (.inl ⟨h18, ha, of_decide_eq_true hm, by unfold eff; rw [if_neg h3, if_pos (.inl h18)]⟩)
 by_cases h19 : i.op = 19
 ·rw [if_neg (by omega), if_neg (by omega), if_neg (by omega), if_neg (by omega), if_pos (.inr h19)] at hm
  exact .inr (.inr (.inl ⟨h19, ha, of_decide_eq_true hm, by unfold eff; rw [if_neg h3, if_pos (.inr h19)]⟩))
 have hk : ∀ (ho : i.op = 28 ∨ i.op = 34), i.a < (fs.length : Int) → ∃ (k : Nat) (h : k < fs.length), i.a = (k : Int) ∧ 0 ≤ (fs[k]'h).params ∧ ((fs[k]'h).params, 1) = eff fs i := fun ho hlt => by
  have hk : i.a.toNat < fs.length := by omega
  refine ⟨i.a.toNat, hk, by omega, (hp _ (List.getElem_mem hk)).1, ?_⟩
  unfold eff
  rw [if_neg h3, if_neg (by rintro (h | h); exact h18 h; exact h19 h), if_pos ho, List.getElem?_eq_getElem hk]
  rfl
 by_cases h28 : i.op = 28
 ·rw [if_neg (by omega), if_neg (by omega), if_neg (by omega), if_neg (by omega), if_neg (by omega), if_neg (by omega), if_pos h28] at hm
  exact .inr (.inr (.inr (.inl ⟨h28, hk (.inl h28) (of_decide_eq_true hm)⟩)))
 by_cases h34 : i.op = 34
 ·rw [if_neg (by omega), if_neg (by omega), if_neg (by omega), if_neg (by omega), if_neg (by omega), if_neg (by omega), if_neg (by omega), if_neg (by omega), if_pos h34, Bool.and_eq_true] at hm
  exact .inr (.inr (.inr (.inr (.inl ⟨h34, hk (.inr h34) (of_decide_eq_true hm.1)⟩))))
 ·exact .inr (.inr (.inr (.inr (.inr ⟨h3, h18, h19, h28, h34, by unfold eff; rw [if_neg h3, if_neg (by rintro (h | h); exact h18 h; exact h19 h), if_neg (by rintro (h | h); exact h28 h; exact h34 h)]⟩))))
theorem effect_any (i : In) (fs : List Fu) (L : Int) (nm : ByteArray) (FA : Option Addr) (nf cf : Nat) (F : Nat → Prop) (st sa : Value) (w : World) (hf : FL w F fs (.slice FA nf cf)) (hl : fs.length ≤ 262144) (hg : i.Good) (hm : mayI fs.length L i = true) (hp : ∀ f ∈ fs, 0 ≤ f.params ∧ f.params ≤ 32) :
 Calls Tryz.prog 99 #[.agg #[.string nm, .slice FA nf cf], .agg (ics i.op i.a i.b i.t st sa)] w fun e w' => EffE w (eff fs i) e w' := by
 have hnf : nf = fs.length := by
  obtain ⟨A, c, hv⟩ := hf.slice
  injection hv
 refine effect_go nm FA nf cf fs F i.op i.a i.b i.t st sa (eff fs i) w hf (by omega) ?_ (eff_case hg hm hp)
 obtain ⟨n, h1, h2, h3⟩ := hg.op
 rw [h1]
 simp [isOpB]
 omega
def LdRel (c : FC) (fl hb vb : Nat) (g : List Bool) (w w2 : World) (b : Int) (R : List Int) (RR : Int × List Int) (v : Value) (wr : World) : Prop :=
 ∃ (j : Nat) (H : List Int) (V : List Bool) (nx : Nat), v = .int .i64 j ∧ j ≤ R.length ∧ reachAll c.n b (R.drop j) H = RR ∧ HtOk c.n H g V nx ∧ Flw wr c fl hb vb H V nx ∧ Only [hb, vb, fl] w2 wr ∧ Only [hb, vb, fl] w wr
def ThE (c : FC) (fl hb vb : Nat) (g : List Bool) (w : World) (q : Int × List Int) (e : Ending) (w' : World) : Prop :=
 e = .returned (.int .i64 q.1) ∧ Only [hb, vb, fl] w w' ∧ (q.1 = 0 → ∃ V nx, HtOk c.n q.2 g V nx ∧ Flw w' c fl hb vb q.2 V nx)
def thQ (fs : List Fu) (code : List In) (i : In) (t : Nat) (H : List Int) : Int × List Int :=
 if H.getD t (-1) < (eff fs i).1 ∨ 256 < H.getD t (-1) - (eff fs i).1 + (eff fs i).2 then (63, H) else reachAll code.length (H.getD t (-1) - (eff fs i).1 + (eff fs i).2) (i.leads t) H
theorem through_any' (w : World) (c : FC) (fl hb vb : Nat) (F : Nat → Prop) (fs : List Fu) (code : List In) (L : Int) (ok : CodeOk fs code L) (hm : FM w c F fs code) (H : List Int) (g V : List Bool) (nx t : Nat) (ht : t < code.length) (hs : HtOk c.n H g V nx) (hf : Flw w c fl hb vb H V nx) :
 Calls Tryz.prog 87 #[.pointer (some ⟨fl, 0, none⟩), .int .i64 t] w fun e w' => ThE c fl hb vb g w (thQ fs code (code[t]'ht) t H) e w' := by
 have rs := store_com
 obtain ⟨nm, FA, nf, cf, CA, n, cc⟩ := c
 have hcn : n = code.length := by
  obtain ⟨A, c, hv⟩ := hm.i.slice
  injection hv
 subst hcn
 obtain ⟨ib, io, TA, tn, tc, AA, an, ac, hA, hib, hFi, -, htv, hal, hcs⟩ := in_at hm.i ht
 dsimp only at hA
 subst hA
 have hg := ok.good _ (List.getElem_mem ht)
 have hmy := ok.may _ (List.getElem_mem ht)
 have hto := leads_bd ht (ok.goes _ (List.getElem_mem ht))
 have heb := eff_bd hg hmy ok.par
 have hbd := hs.bd t ht
 have k1 : ∀ w', Only [] w w' → w'.cell? ⟨hb, t, none⟩ = some (.int .i64 (H.getD t (-1))) := fun w' o => (hf.same o).h.cell0 (iA_at (by rw [hs.hl]; exact ht))
 have HFM := Lib.hid hm
 have HST := Lib.hid hs
 have HFL := Lib.hid hf
 have HAL := Lib.hid hal
 have hla := hf.b.lt
 have hlb := hf.h.lt
 have hlc := hf.v.lt
 have HEf := Lib.hid (fun (w' : World) (o : Only [] w w') => effect_any (code[t]'ht) fs L nm FA nf cf F (.slice TA tn tc) (.slice AA an ac) w' (hm.f.same o) ok.fl hg hmy ok.par)
 have HLd := Lib.hid (fun (w' : World) (o : Only [] w w') => leads_any (code[t]'ht) hg.rl t (by have := ok.cl; omega) (.slice TA tn tc) AA an ac F w' (hal.same o))
 have hti : (t : Int) < (code.length : Int) := by omega
 have hRl : ((code[t]'ht).leads t).length ≤ 262146 := by
  unfold In.leads In.to
  have := hg.rl
  rw [List.length_append, List.length_append, List.length_map]
  split <;> split <;> simp <;> omega
 have hcl := ok.cl
 obtain ⟨RR, hQ⟩ : ∃ RR, thQ fs code (code[t]'ht) t H = RR := ⟨_, rfl⟩
 rw [hQ]
 unfold thQ at hQ
 clear hm hs hf hal htv ok hg hmy
 generalize code[t]'ht = i at *
 obtain ⟨R, hR⟩ : ∃ R, i.leads t = R := ⟨_, rfl⟩
 obtain ⟨⟨tk, lv⟩, hE⟩ : ∃ q, eff fs i = q := ⟨_, rfl⟩
 rw [hR] at HLd hto hRl hQ
 rw [hE] at HEf heb hQ
 dsimp only at heb hQ
 obtain ⟨hx, hhx⟩ : ∃ hx, H.getD t (-1) = hx := ⟨_, rfl⟩
 rw [hhx] at k1 hbd hQ
 have HQ := Lib.hid hQ
 have HW0 := Lib.hid (show ∀ (w' : World), Only [] w w' → w'.cell? ⟨fl, 0, none⟩ = some (.string nm) ∧ w'.cell? ⟨fl, 1, none⟩ = some (.slice FA nf cf) ∧ w'.cell? ⟨fl, 2, none⟩ = some (.slice (some ⟨ib, io, none⟩) code.length cc) ∧ w'.cell? ⟨fl, 3, none⟩ = some (.slice (some ⟨hb, 0, none⟩) code.length code.length) ∧ w'.cell? ⟨fl, 4, none⟩ = some (.slice (some ⟨vb, 0, none⟩) code.length code.length) ∧ w'.cell? ⟨fl, 5, none⟩ = some (.int .i64 nx) from fun w' o => (HFL.out.same o).fs)
 have HIC := Lib.hid (fun (w' : World) (o : Only [] w w') => in_eleven (g := ib) (o := io + t * 11) (w := w') fun q u hu => (o.cell (p := ⟨ib, io + t * 11 + q, none⟩) hib (by simp)).trans (hcs q u hu))
 clear hcs hR hE hhx hQ
 have u0 : ∀ x : Cm w, x.1.cell? ⟨fl, 0, none⟩ = some (.string nm) := fun x => (HW0.out _ x.o).1
 have u1 : ∀ x : Cm w, x.1.cell? ⟨fl, 1, none⟩ = some (.slice FA nf cf) := fun x => (HW0.out _ x.o).2.1
 have u2 : ∀ x : Cm w, x.1.cell? ⟨fl, 2, none⟩ = some (.slice (some ⟨ib, io, none⟩) code.length cc) := fun x => (HW0.out _ x.o).2.2.1
 have v0 : ∀ x : Cm w, x.1.cell? ⟨ib, io + t * 11, none⟩ = some (.int .i64 i.op) := fun x => (HIC.out _ x.o).1
 have v1 : ∀ x : Cm w, x.1.cell? ⟨ib, io + t * 11 + 1, none⟩ = some (.int .i64 i.a) := fun x => (HIC.out _ x.o).2.1
 have v2 : ∀ x : Cm w, x.1.cell? ⟨ib, io + t * 11 + 2, none⟩ = some (.int .i64 i.b) := fun x => (HIC.out _ x.o).2.2.1
 have v3 : ∀ x : Cm w, x.1.cell? ⟨ib, io + t * 11 + 3, none⟩ = some (.int .i64 i.t.k) := fun x => (HIC.out _ x.o).2.2.2.1
 have v4 : ∀ x : Cm w, x.1.cell? ⟨ib, io + t * 11 + 4, none⟩ = some (.int .i64 i.t.n) := fun x => (HIC.out _ x.o).2.2.2.2.1
 have v5 : ∀ x : Cm w, x.1.cell? ⟨ib, io + t * 11 + 5, none⟩ = some (.complex .f64 i.t.x i.t.y) := fun x => (HIC.out _ x.o).2.2.2.2.2.1
 have v6 : ∀ x : Cm w, x.1.cell? ⟨ib, io + t * 11 + 6, none⟩ = some (.string i.t.S) := fun x => (HIC.out _ x.o).2.2.2.2.2.2.1
 have v7 : ∀ x : Cm w, x.1.cell? ⟨ib, io + t * 11 + 7, none⟩ = some (.int .i64 i.t.a) := fun x => (HIC.out _ x.o).2.2.2.2.2.2.2.1
 have v8 : ∀ x : Cm w, x.1.cell? ⟨ib, io + t * 11 + 8, none⟩ = some (.int .i64 i.t.b) := fun x => (HIC.out _ x.o).2.2.2.2.2.2.2.2.1
 have v9 : ∀ x : Cm w, x.1.cell? ⟨ib, io + t * 11 + 9, none⟩ = some (.slice TA tn tc) := fun x => (HIC.out _ x.o).2.2.2.2.2.2.2.2.2.1
 have v10 : ∀ x : Cm w, x.1.cell? ⟨ib, io + t * 11 + 10, none⟩ = some (.slice AA an ac) := fun x => (HIC.out _ x.o).2.2.2.2.2.2.2.2.2.2
 have KE := Lib.hid (fun x : Cm w => show Calls Tryz.prog 99 #[.agg #[.string nm, .slice FA nf cf], .agg (ics i.op i.a i.b i.t (.slice TA tn tc) (.slice AA an ac))] x.1 fun e w' => e = .returned (.tuple #[.int .i64 tk, .int .i64 lv, .int .i64 0]) ∧ Only [] x.1 w' from HEf.out x.1 x.o)
 have q1 : IntKind.i64.wrap (hx - tk) = hx - tk := IntWalk.i64_in _ (by omega)
 have q2 : IntKind.i64.wrap (hx - tk + lv) = hx - tk + lv := IntWalk.i64_in _ (by omega)
 clear HEf
 go_enter Tryz.func87, Tryz.ntmps87
 go_wp2_with fail
 refine wp_region_calm (by kernel_rfl) (by kernel_rfl) ?_
 repeat (go_big_quiet_step ((go_at_call 99; exact calmS (KE.out _))))
 refine wpQuiet_nil ?_
 rintro w1 ⟨⟨w1', o1⟩, e1⟩
 obtain rfl : w1 = w1' := e1
 have O1 := Lib.hid o1
 obtain ⟨c0, c1, c2, c3, c4, c5⟩ := HW0.out _ o1
 have kx := k1 _ o1
 have kx' : w1.cell? ⟨hb, 0 + t, none⟩ = some (.int .i64 hx) := by rw [Nat.zero_add]; exact kx
 obtain ⟨i0, i1, i2, i3, i4, i5, i6, i7, i8, i9, i10⟩ := HIC.out _ o1
 clear u0 u1 u2 v0 v1 v2 v3 v4 v5 v6 v7 v8 v9 v10 o1 KE
 by_cases hc : hx < tk ∨ 256 < hx - tk + lv
 ·have hq := HQ.out
  rw [if_pos hc] at hq
  have HE := Lib.hid (show ThE ⟨nm, FA, nf, cf, some ⟨ib, io, none⟩, code.length, cc⟩ fl hb vb g w RR (.returned (.int .i64 63)) w1 from hq ▸ ⟨rfl, O1.out.more (by simp), fun e => by cases e⟩)
  by_cases hc1 : hx < tk
  ·have e1 : decide (hx < tk) = true := decide_eq_true hc1
   clear hc hq
   go_wp2_with fail
   go_ret
   exact HE.out
  ·have e1 : decide (hx < tk) = false := decide_eq_false hc1
   have e2 : decide (256 < hx - tk + lv) = true := decide_eq_true (hc.resolve_left hc1)
   clear hc hc1 hq
   go_wp2_with fail
   go_ret
   exact HE.out
 ·have hq := HQ.out
  rw [if_neg hc] at hq
  have HRR := Lib.hid hq
  have e1 : decide (hx < tk) = false := decide_eq_false (fun h => hc (.inl h))
  have e2 : decide (256 < hx - tk + lv) = false := decide_eq_false (fun h => hc (.inr h))
  have hb0 : 0 ≤ hx - tk + lv ∧ hx - tk + lv ≤ 256 := by omega
  clear hc hq HQ
  go_wp2_with fail
  (with_reducible refine (HLd.out _ O1.out).mono ?_)
  rintro e w2 ⟨RA, rc, rfl, hir, o2⟩
  obtain ⟨RA', rc', hv, hlies⟩ := hir.slice
  injection hv with hv1 hv2 hv3
  subst hv1 hv3
  have O2 := Lib.hid (O1.out.trans o2 (by simp))
  have HRL := Lib.hid hlies
  have hsz := O1.out.size
  have HRB := Lib.hid (fun gb (e : (Value.slice RA R.length rc).ownBlock = some gb) => show gb ≠ hb ∧ gb ≠ vb ∧ gb ≠ fl from by
   have := (hir.block e).1
   omega)
  generalize hx - tk + lv = b at *
  clear hir hlies o2 c0 c1 c2 c3 c4 c5 kx kx' i0 i1 i2 i3 i4 i5 i6 i7 i8 i9 i10
  go_wp2_with fail
  go_loopw [64] (fun v wr => LdRel ⟨nm, FA, nf, cf, some ⟨ib, io, none⟩, code.length, cc⟩ fl hb vb g w w2 b R RR v wr) (fun v _ => R.length - (intOf v).toNat)
  case atStart => exact ⟨0, H, V, nx, rfl, Nat.zero_le _, HRR.out, HST.out, HFL.out.same O2.out, Only.refl _ _, O2.out.more (by simp)⟩
  case round =>
   obtain ⟨j, H', V', nx', rfl, hj, hre, hst, hfl, hoa, hob⟩ := hrel
   have QST := Lib.hid hst
   have QFL := Lib.hid hfl
   have QA := Lib.hid hoa
   have QB := Lib.hid hob
   have QRE := Lib.hid hre
   clear hst hfl hoa hob hre
   by_cases hjl : j < R.length
   ·obtain ⟨z, hz⟩ : ∃ z, R[j]? = some z := ⟨_, List.getElem?_eq_getElem hjl⟩
    obtain ⟨gb, rfl, cz, hbz⟩ := HRL.out j z hz
    have hz0 := hto z (List.mem_of_getElem? hz)
    have hgn := HRB.out gb rfl
    have dz : wr.cell? ⟨gb, j, none⟩ = some (.int .i64 z) := (QA.out.cell (p := ⟨gb, j, none⟩) (by obtain ⟨cs, hcs⟩ := hbz; exact hcs.lt) (by simp; omega)).trans cz
    have dz' : wr.cell? ⟨gb, 0 + j, none⟩ = some (.int .i64 z) := by rw [Nat.zero_add]; exact dz
    have hre := QRE.out
    rw [List.drop_eq_getElem_cons hjl, show R[j]'hjl = z from by rw [List.getElem?_eq_getElem hjl] at hz; exact Option.some.inj hz, reach_cons] at hre
    have QR2 := Lib.hid hre
    obtain ⟨c0, c1, c2, c3, c4, c5⟩ := QFL.out.fs
    dsimp only at c2
    clear hre hz cz hbz
    by_cases hzn : z = (code.length : Int)
    ·have HE := Lib.hid (show ThE ⟨nm, FA, nf, cf, some ⟨ib, io, none⟩, code.length, cc⟩ fl hb vb g w RR (.returned (.int .i64 64)) wr from by
      have h := QR2.out
      rw [if_pos (show (code.length : Int) ≤ z by omega)] at h
      rw [← h]
      exact ⟨rfl, QB.out, fun e => by cases e⟩)
     subst hzn
     go_wp2_with fail
     go_ret
     exact HE.out
    ·have e4 : (z == (code.length : Int)) = false := by simpa using hzn
     obtain ⟨tz, rfl⟩ : ∃ tz : Nat, z = (tz : Int) := ⟨z.toNat, by omega⟩
     have htz : tz < code.length := by omega
     have hre := QR2.out
     rw [if_neg (by show ¬ (code.length : Int) ≤ _; omega), Int.toNat_natCast] at hre
     have hb2 := QST.out.bd tz htz
     by_cases hm1 : H'.getD tz (-1) = -1
     ·have HRe := Lib.hid (reach_new wr ⟨nm, FA, nf, cf, some ⟨ib, io, none⟩, code.length, cc⟩ fl hb vb H' V' nx' tz (tz : Int) b rfl htz QST.out.hl QST.out.vl QFL.out hm1 hcl QST.out.nl)
      rw [if_neg (fun h => by rw [hm1] at h; exact absurd h.1 (by decide))] at hre
      have QS2 := Lib.hid (QST.out.reach htz hb0 hm1)
      have QR3 := Lib.hid hre
      clear hre hm1 hzn QR2
      go_wp2_with fail
      (with_reducible refine (HRe.out).mono ?_)
      rintro e w3 ⟨rfl, o3, hf3⟩
      have HX := Lib.hid (show LdRel ⟨nm, FA, nf, cf, some ⟨ib, io, none⟩, code.length, cc⟩ fl hb vb g w w2 b R RR (.int .i64 ((j : Int) + 1)) w3 from ⟨j + 1, _, _, _, by go_num, by omega, QR3.out, QS2.out, hf3, QA.out.trans o3 (fun i hi => .inl hi), QB.out.trans o3 (fun i hi => .inl hi)⟩)
      clear o3 hf3
      go_wp2_with fail
      go_roundw
      case rel => exact HX.out
      case measure => simp [intOf]; omega
     ·by_cases hme : H'.getD tz (-1) = b
      ·have HRe := Lib.hid (reach_old wr ⟨nm, FA, nf, cf, some ⟨ib, io, none⟩, code.length, cc⟩ fl hb vb H' V' nx' tz (tz : Int) b true rfl htz QST.out.hl QFL.out hm1 (by simpa using hme))
       rw [if_neg (by rw [hme]; simp), ← hme, set_same (by rw [QST.out.hl]; exact htz)] at hre
       rw [hme] at hre
       have HX := Lib.hid (show LdRel ⟨nm, FA, nf, cf, some ⟨ib, io, none⟩, code.length, cc⟩ fl hb vb g w w2 b R RR (.int .i64 ((j : Int) + 1)) wr from ⟨j + 1, _, _, _, by go_num, by omega, hre, QST.out, QFL.out, QA.out, QB.out⟩)
       clear hre hm1 hme hzn QR2
       go_wp2_with fail
       (with_reducible refine (HRe.out).mono ?_)
       rintro e w3 ⟨rfl, rfl⟩
       go_wp2_with fail
       go_roundw
       case rel => exact HX.out
       case measure => simp [intOf]; omega
      ·have HRe := Lib.hid (reach_old wr ⟨nm, FA, nf, cf, some ⟨ib, io, none⟩, code.length, cc⟩ fl hb vb H' V' nx' tz (tz : Int) b false rfl htz QST.out.hl QFL.out hm1 (by simpa using hme))
       rw [if_pos ⟨by omega, hme⟩] at hre
       have HE := Lib.hid (show ThE ⟨nm, FA, nf, cf, some ⟨ib, io, none⟩, code.length, cc⟩ fl hb vb g w RR (.returned (.int .i64 63)) wr from by
        rw [← hre]
        exact ⟨rfl, QB.out, fun e => by cases e⟩)
       clear hre hm1 hme hzn QR2
       go_wp2_with fail
       (with_reducible refine (HRe.out).mono ?_)
       rintro e w3 ⟨rfl, rfl⟩
       go_wp2_with fail
       go_ret
       exact HE.out
   ·have hje : j = R.length := by omega
    subst hje
    have hre := QRE.out
    rw [List.drop_length, reach_nil] at hre
    have HE := Lib.hid (show ThE ⟨nm, FA, nf, cf, some ⟨ib, io, none⟩, code.length, cc⟩ fl hb vb g w RR (.returned (.int .i64 0)) wr from by
     rw [← hre]
     exact ⟨rfl, QB.out, fun _ => ⟨_, _, QST.out, QFL.out⟩⟩)
    clear hj hre
    go_wp2_with fail
    go_ret
    exact HE.out
open Go.RowKit
theorem reffect_go (nm : ByteArray) (FA : Option Addr) (nf cf : Nat) (fs : List Fu) (F : Nat → Prop) (op a b : Int) (t : T) (st sa : Value) (q : Int × Int) (w : World) (hf : FL w F fs (.slice FA nf cf)) (hl : nf ≤ 262144) (ho : isOpB op = true)
 (hc : (op = 3 ∧ 0 ≤ a ∧ a ≤ 254 ∧ (a + 1, a + 2) = q) ∨ (op = 18 ∧ 0 ≤ a ∧ a ≤ 255 ∧ (a, 1) = q) ∨ (op = 19 ∧ 0 ≤ a ∧ a ≤ 255 ∧ (a, 1) = q) ∨
   (op = 28 ∧ ∃ (k : Nat) (h : k < fs.length), a = (k : Int) ∧ 0 ≤ (fs[k]'h).params ∧ ((fs[k]'h).params, 1) = q) ∨ (op = 34 ∧ ∃ (k : Nat) (h : k < fs.length), a = (k : Int) ∧ 0 ≤ (fs[k]'h).params ∧ ((fs[k]'h).params, 1) = q) ∨
   (op ≠ 3 ∧ op ≠ 18 ∧ op ≠ 19 ∧ op ≠ 28 ∧ op ≠ 34 ∧ (tkl.getD op.toNat 0, lvl.getD op.toNat 0) = q)) :
 Calls Tryz.prog 61 #[.agg #[.string nm, .slice FA nf cf], .agg (ics op a b t st sa)] w fun e w' => EffE w q e w' := by
 have rs := store_com
 have BM := Lib.hid ((Bk.made w 24 #[.string nm, .slice FA nf cf]).alloc (.cells (ics op a b t st sa) 55))
 have BI := Lib.hid (Bk.madeAt (w := w.alloc (.cells #[.string nm, .slice FA nf cf] 24)) (t := 55) (cs := ics op a b t st sa) (b := w.heap.size + 1) (by simp))
 have O0 := Lib.hid (((Only.refl [] w).alloc (.cells #[.string nm, .slice FA nf cf] 24)).alloc (.cells (ics op a b t st sa) 55))
 have HF := Lib.hid hf
 rcases hc with ⟨rfl, h1, h2, rfl⟩ | hc
 ·have p1 : ¬ a < 0 := by omega
  have p2 : ¬ 256 < a := by omega
  have q1 : IntKind.i64.wrap (a + 1) = a + 1 := IntWalk.i64_in _ (by omega)
  have q2 : IntKind.i64.wrap (a + 2) = a + 2 := IntWalk.i64_in _ (by omega)
  have k1 := BI.out.cell0 (i := 1) rfl
  clear hf h1 h2 hl
  go_enter Tryz.func61, Tryz.ntmps61
  go_wp2_with fail
  go_quiet (fail)
  go_wp2_with fail
  exact bodyPost_ret (v := .tuple #[.int .i64 (a + 1), .int .i64 (a + 2), .int .i64 0]) (by simp [results, Tryz.results61, go_sem]) rfl ⟨rfl, O0.out.drewN _⟩
 rcases hc with hc | hc | hc
 all_goals try (
  obtain ⟨rfl, h1, h2, rfl⟩ := hc
  have p1 : ¬ a < 0 := by omega
  have p2 : ¬ 256 < a := by omega
  have k1 := BI.out.cell0 (i := 1) rfl
  clear hf h1 h2 hl
  go_enter Tryz.func61, Tryz.ntmps61
  go_wp2_with fail
  exact bodyPost_ret (v := .tuple #[.int .i64 a, .int .i64 1, .int .i64 0]) (by simp [results, Tryz.results61, go_sem]) rfl ⟨rfl, O0.out⟩)
 rcases hc with hc | hc | hc
 ·obtain ⟨rfl, k, hk, rfl, h1, rfl⟩ := hc
  obtain ⟨bl, off, sc, rfl, h2, h3, rfl, h4, c0, c1, c2, c3⟩ := fcs_at hf hk
  have k1 := BI.out.cell0 (i := 1) rfl
  have m0 := BM.out.cell0 (i := 0) rfl
  have m1 := BM.out.cell0 (i := 1) rfl
  have hkl : (k : Int) < (fs.length : Int) := by omega
  have hkn : ¬ (fs.length : Int) ≤ (k : Int) := by omega
  have hk0 : ¬ (k : Int) < 0 := by omega
  generalize (fs[k]'hk).params = pr at *
  have hp : ¬ pr < 0 := by omega
  have x1 := k1
  have z1 : ((w.alloc (.cells #[.string nm, .slice (some ⟨bl, off, none⟩) fs.length cf] 24)).alloc (.cells (ics 28 (k : Int) b t st sa) 55)).cell? ⟨bl, off + k * 4 + 1, none⟩ = some (.int .i64 pr) := (O0.out.cell (p := ⟨bl, off + k * 4 + 1, none⟩) h2 (by simp)).trans c1
  clear hf hl h4 c0 c1 c2 c3 h1
  go_enter Tryz.func61, Tryz.ntmps61
  go_wp2_with fail
  exact bodyPost_ret (v := .tuple #[.int .i64 pr, .int .i64 1, .int .i64 0]) (by simp [results, Tryz.results61, go_sem]) rfl ⟨rfl, O0.out⟩
 ·obtain ⟨rfl, k, hk, rfl, h1, rfl⟩ := hc
  obtain ⟨bl, off, sc, rfl, h2, h3, rfl, h4, c0, c1, c2, c3⟩ := fcs_at hf hk
  have k1 := BI.out.cell0 (i := 1) rfl
  have m0 := BM.out.cell0 (i := 0) rfl
  have m1 := BM.out.cell0 (i := 1) rfl
  have hkl : (k : Int) < (fs.length : Int) := by omega
  have hkn : ¬ (fs.length : Int) ≤ (k : Int) := by omega
  have hk0 : ¬ (k : Int) < 0 := by omega
  generalize (fs[k]'hk).params = pr at *
  have hp : ¬ pr < 0 := by omega
  have x1 := k1
  have z1 : ((w.alloc (.cells #[.string nm, .slice (some ⟨bl, off, none⟩) fs.length cf] 24)).alloc (.cells (ics 34 (k : Int) b t st sa) 55)).cell? ⟨bl, off + k * 4 + 1, none⟩ = some (.int .i64 pr) := (O0.out.cell (p := ⟨bl, off + k * 4 + 1, none⟩) h2 (by simp)).trans c1
  clear hf hl h4 c0 c1 c2 c3 h1
  go_enter Tryz.func61, Tryz.ntmps61
  go_wp2_with fail
  exact bodyPost_ret (v := .tuple #[.int .i64 pr, .int .i64 1, .int .i64 0]) (by simp [results, Tryz.results61, go_sem]) rfl ⟨rfl, O0.out⟩
 obtain ⟨h3, h18, h19, h28, h34, rfl⟩ := hc
 have hj : op = 1 ∨ op = 2 ∨ op = 4 ∨ op = 5 ∨ op = 6 ∨ op = 7 ∨ op = 8 ∨ op = 9 ∨ op = 10 ∨ op = 11 ∨ op = 12 ∨ op = 13 ∨ op = 14 ∨ op = 15 ∨ op = 16 ∨ op = 17 ∨ op = 20 ∨ op = 21 ∨ op = 22 ∨ op = 23 ∨ op = 24 ∨ op = 25 ∨ op = 26 ∨ op = 27 ∨ op = 29 ∨ op = 30 ∨ op = 31 ∨ op = 32 ∨ op = 33 ∨ op = 35 ∨ op = 36 ∨ op = 37 ∨ op = 38 ∨ op = 39 ∨ op = 40 ∨ op = 41 ∨ op = 42 ∨ op = 43 ∨ op = 44 ∨ op = 45 ∨ op = 46 := by
  obtain ⟨j, rfl, hj1, hj2⟩ := isOpB_yes ho
  omega
 clear hf hl ho h3 h18 h19 h28 h34
 rcases hj with rfl | rfl | rfl | rfl | rfl | rfl | rfl | rfl | rfl | rfl | rfl | rfl | rfl | rfl | rfl | rfl | rfl | rfl | rfl | rfl | rfl | rfl | rfl | rfl | rfl | rfl | rfl | rfl | rfl | rfl | rfl | rfl | rfl | rfl | rfl | rfl | rfl | rfl | rfl | rfl | rfl
 all_goals
  go_enter Tryz.func61, Tryz.ntmps61
  go_wp2_with fail
 all_goals first
  | exact bodyPost_ret (v := .tuple #[.int .i64 0, .int .i64 0, .int .i64 0]) (by simp [results, Tryz.results61, go_sem]) rfl ⟨rfl, O0.out⟩
  | exact bodyPost_ret (v := .tuple #[.int .i64 0, .int .i64 1, .int .i64 0]) (by simp [results, Tryz.results61, go_sem]) rfl ⟨rfl, O0.out⟩
  | exact bodyPost_ret (v := .tuple #[.int .i64 1, .int .i64 0, .int .i64 0]) (by simp [results, Tryz.results61, go_sem]) rfl ⟨rfl, O0.out⟩
  | exact bodyPost_ret (v := .tuple #[.int .i64 1, .int .i64 1, .int .i64 0]) (by simp [results, Tryz.results61, go_sem]) rfl ⟨rfl, O0.out⟩
  | exact bodyPost_ret (v := .tuple #[.int .i64 2, .int .i64 1, .int .i64 0]) (by simp [results, Tryz.results61, go_sem]) rfl ⟨rfl, O0.out⟩
end Go.Proofs.YtcdefnbehlcgeaaGreatDoor
