/- pattern: walk.through and throughAll: what they keep, in memory and in numbers; throughAll. pattern: walk.through where it stops at once, and of any pattern but a local.. pattern: walk.through of a local; of any pattern; Check.. -/
import Derived.Test.YtcdefnbehlcgeaaGreatDoorWt
import Derived.Deep.AppendLies
import Derived.Deep.RegionLaw
set_option maxHeartbeats 8000000
set_option maxRecDepth 20000
namespace Go.Proofs.YtcdefnbehlcgeaaGreatDoor
open Go.RowKit
structure WH (w : World) (wb : Nat) (L : Int) (met : Nat) (bs : List Int) (bv : Value) : Prop where
 b : Bk w wb 172 #[.int .i64 L, .int .i64 met, bv]
 r : w.ownsRow wb 3 1 bv bs.length (bs.map fun z => Value.int .i64 z)
structure Turns (wb : Nat) (bv : Value) (w w' : World) (bv' : Value) : Prop where
 o : Only (wb :: bv.ownBlock.toList) w w'
 n : ∀ g, bv'.ownBlock = some g → bv.ownBlock = some g ∨ w.heap.size ≤ g
theorem Turns.of0 {wb : Nat} {bv : Value} {w w' : World} (o : Only [] w w') : Turns wb bv w w' bv := ⟨o.more (by simp), fun _ h => .inl h⟩
theorem Turns.trans {wb : Nat} {bv bv1 bv2 : Value} {w w1 w2 : World} (h : Turns wb bv w w1 bv1) (k : Turns wb bv1 w1 w2 bv2) : Turns wb bv w w2 bv2 := by
 refine ⟨h.o.trans k.o fun i hi => ?_, fun g hg => ?_⟩
 ·rcases List.mem_cons.1 hi with rfl | hi
  ·exact .inl (by simp)
  ·rcases h.n i (by simpa using hi) with h1 | h1
   ·exact .inl (by simp [h1])
   ·exact .inr h1
 ·rcases k.n g hg with h1 | h1
  ·exact h.n g h1
  ·exact .inr (Nat.le_trans h.o.size h1)
theorem WH.same {w w' : World} {wb : Nat} {L : Int} {met : Nat} {bs : List Int} {bv : Value} (h : WH w wb L met bs bv) (o : Only [] w w') : WH w' wb L met bs bv := ⟨h.b.only o (by simp), Row.only h.r o (by simp)⟩
theorem WH.slice {w : World} {wb : Nat} {L : Int} {met : Nat} {bs : List Int} {bv : Value} (h : WH w wb L met bs bv) : ∃ A cap, bv = .slice A bs.length cap ∧ Lies w A bs := by
 rcases h.r.2 with ⟨hv, h0⟩ | ⟨g, cap, cur, hv, _, hg, _⟩
 ·refine ⟨none, 0, by rw [hv, h0], fun k z hz => ?_⟩
  rw [List.length_eq_zero_iff.1 h0] at hz
  simp at hz
 ·refine ⟨some ⟨g, 0, none⟩, cap, hv, fun k z hz => ⟨g, rfl, ?_, cur, hg⟩⟩
  have hr := h.r
  rw [hv] at hr
  exact Row.cell hr k _ (by rw [List.getElem?_map, hz]; rfl)
theorem Turns.cell {wb : Nat} {bv bv' : Value} {w w' : World} (h : Turns wb bv w w' bv') {p : Addr} (hp : p.block < w.heap.size) (h1 : p.block ≠ wb) (h2 : bv.ownBlock ≠ some p.block) : w'.cell? p = w.cell? p :=
 h.o.cell hp (by simp; exact ⟨h1, h2⟩)
theorem Turns.bk {wb g : Nat} {bv bv' : Value} {w w' : World} {t : TypeId} {cs : Array Value} (h : Turns wb bv w w' bv') (hb : Bk w g t cs) (h1 : g ≠ wb) (h2 : bv.ownBlock ≠ some g) : Bk w' g t cs :=
 hb.only h.o (by simp; exact ⟨h1, h2⟩)
def Off (w : World) (wb : Nat) (bv : Value) (F : Nat → Prop) : Prop := ∀ b, F b → b < w.heap.size ∧ b ≠ wb ∧ bv.ownBlock ≠ some b
theorem Off.turns {w w' : World} {wb : Nat} {bv bv' : Value} {F : Nat → Prop} (h : Off w wb bv F) (k : Turns wb bv w w' bv') : Off w' wb bv' F := fun b hb => by
 obtain ⟨h1, h2, h3⟩ := h b hb
 refine ⟨Nat.lt_of_lt_of_le h1 k.o.size, h2, fun e => ?_⟩
 rcases k.n b e with h4 | h4
 ·exact h3 h4
 ·omega
def PV (w : World) (F : Nat → Prop) (t : QT) (st sl sr : Value) : Prop := TV w F t.tm st ∧ QL w F t.l sl ∧ QL w F t.r sr
theorem PV.only {S : List Nat} {w w' : World} {F F' : Nat → Prop} (o : Only S w w') (hS : ∀ b ∈ S, ¬ F b) (hF : ∀ b, F b → F' b) {t : QT} {st sl sr : Value} (h : PV w F t st sl sr) : PV w' F' t st sl sr := ⟨TV.only o hS hF _ _ h.1, h.2.1.only o hS hF, h.2.2.only o hS hF⟩
theorem PV.same {w w' : World} {F : Nat → Prop} (o : Only [] w w') {t : QT} {st sl sr : Value} (h : PV w F t st sl sr) : PV w' F t st sl sr := h.only o (by simp) (fun _ h => h)
theorem PV.slices {w : World} {F : Nat → Prop} {t : QT} {st sl sr : Value} (h : PV w F t st sl sr) : ∃ S0 s1 s2 A c B d, st = .slice S0 s1 s2 ∧ sl = .slice A t.l.length c ∧ sr = .slice B t.r.length d := by
 obtain ⟨S0, s1, s2, h1⟩ := h.1.slice
 obtain ⟨A, c, h2⟩ := h.2.1.slice
 obtain ⟨B, d, h3⟩ := h.2.2.slice
 exact ⟨S0, s1, s2, A, c, B, d, h1, h2, h3⟩
theorem Off.pv {w w' : World} {wb : Nat} {bv bv' : Value} {F : Nat → Prop} (h : Off w wb bv F) (k : Turns wb bv w w' bv') {t : QT} {st sl sr : Value} (ht : PV w F t st sl sr) : PV w' F t st sl sr :=
 PV.only k.o (fun b hb hf => by
  obtain ⟨_, h2, h3⟩ := h b hf
  rcases List.mem_cons.1 hb with rfl | hb
  ·exact h2 rfl
  ·exact h3 (by simpa using hb)) (fun _ h => h) ht
theorem Off.ql {w w' : World} {wb : Nat} {bv bv' : Value} {F : Nat → Prop} (h : Off w wb bv F) (k : Turns wb bv w w' bv') {l : List QT} {sl : Value} (ht : QL w F l sl) : QL w' F l sl :=
 RowV.only k.o (fun b hb hf => by
  obtain ⟨_, h2, h3⟩ := h b hf
  rcases List.mem_cons.1 hb with rfl | hb
  ·exact h2 rfl
  ·exact h3 (by simpa using hb)) (fun _ h => h) ht
theorem KN.turns {w w' : World} {wb : Nat} {L : Int} {met : Nat} {bs : List Int} {bv bv' : Value} (h : KN w) (hg : 1 < wb) (hw : WH w wb L met bs bv) (k : Turns wb bv w w' bv') : KN w' :=
 h.only k.o fun hm => by
  rcases List.mem_cons.1 hm with e | hm
  ·omega
  ·have := (Row.block hw.r (g := 1) (by simpa using hm)).1
   omega
def ThrE (L : Int) (w : World) (wb : Nat) (bv : Value) (q : Nat × List Int × Int) (e : Ending) (w' : World) : Prop := e = .returned (.int .i64 q.2.2) ∧ ∃ bv', Turns wb bv w w' bv' ∧ (q.2.2 = 0 → WH w' wb L q.1 q.2.1 bv')
def QThrOk (L : Int) (t : QT) : Prop := ∀ (st sl sr : Value) (F : Nat → Prop) (met : Nat) (bs : List Int) (deep wb : Nat) (bv : Value) (w : World), PV w F t st sl sr → Off w wb bv F → KN w → 1 < wb → WH w wb L met bs bv → bs.length ≤ met → met ≤ 1024 → deep ≤ 64 →
 Calls Tryz.prog 111 #[.pointer (some ⟨wb, 0, none⟩), .agg (qcs t.k t.n t.tm st sl sr), .int .i64 deep] w fun e w' => ThrE L w wb bv (qthr L t met bs deep) e w'
def QThrAll (L : Int) (l : List QT) : Prop := ∀ (sl : Value) (F : Nat → Prop) (met : Nat) (bs : List Int) (deep wb : Nat) (bv : Value) (w : World), QL w F l sl → Off w wb bv F → KN w → 1 < wb → WH w wb L met bs bv → bs.length ≤ met → met ≤ 1024 → deep ≤ 64 →
 Calls Tryz.prog 125 #[.pointer (some ⟨wb, 0, none⟩), sl, .int .i64 deep] w fun e w' => ThrE L w wb bv (qthrs L l met bs deep) e w'
theorem QThrOk.use {L : Int} {t : QT} (h : QThrOk L t) {st sl sr : Value} {F : Nat → Prop} {met : Nat} {bs : List Int} {deep wb : Nat} {bv : Value} {D : Int} {w : World} {q : Nat × List Int × Int} (h1 : PV w F t st sl sr) (h2 : Off w wb bv F) (h3 : KN w) (h4 : 1 < wb) (h5 : WH w wb L met bs bv) (h6 : bs.length ≤ met) (h7 : met ≤ 1024) (h8 : deep ≤ 64) (hD : D = (deep : Int)) (hq : qthr L t met bs deep = q) :
 Calls Tryz.prog 111 #[.pointer (some ⟨wb, 0, none⟩), .agg #[.int .i64 t.k, .int .i64 t.n, .int .i64 t.tm.k, .int .i64 t.tm.n, .complex .f64 t.tm.x t.tm.y, .string t.tm.S, .int .i64 t.tm.a, .int .i64 t.tm.b, st, sl, sr], .int .i64 D] w fun e w' => ThrE L w wb bv q e w' := by
 subst hD hq
 exact h st sl sr F met bs deep wb bv w h1 h2 h3 h4 h5 h6 h7 h8
theorem QThrAll.use {L : Int} {l : List QT} (h : QThrAll L l) {A : Option Addr} {m c : Nat} {F : Nat → Prop} {met : Nat} {bs : List Int} {deep wb : Nat} {bv : Value} {D : Int} {w : World} {q : Nat × List Int × Int} (h1 : QL w F l (.slice A m c)) (h2 : Off w wb bv F) (h3 : KN w) (h4 : 1 < wb) (h5 : WH w wb L met bs bv) (h6 : bs.length ≤ met) (h7 : met ≤ 1024) (h8 : deep ≤ 64) (hD : D = (deep : Int)) (hq : qthrs L l met bs deep = q) :
 Calls Tryz.prog 125 #[.pointer (some ⟨wb, 0, none⟩), .slice A m c, .int .i64 D] w fun e w' => ThrE L w wb bv q e w' := by
 subst hD hq
 exact h _ F met bs deep wb bv w h1 h2 h3 h4 h5 h6 h7 h8
def QARel (L : Int) (w : World) (l : List QT) (met : Nat) (bs : List Int) (deep wb : Nat) (bv : Value) (v : Value) (wr : World) : Prop :=
 ∃ (j m : Nat) (bs' : List Int) (bv' : Value), v = .int .i64 j ∧ j ≤ l.length ∧ m ≤ 1024 ∧ bs'.length ≤ m ∧ qthrs L (l.drop j) m bs' deep = qthrs L l met bs deep ∧ WH wr wb L m bs' bv' ∧ Turns wb bv w wr bv'
theorem ThrE.mk {L : Int} {w w' : World} {wb : Nat} {bv bv' : Value} {q : Nat × List Int × Int} {r : Int} (hr : q.2.2 = r) (h1 : Turns wb bv w w' bv') (h2 : r = 0 → WH w' wb L q.1 q.2.1 bv') : ThrE L w wb bv q (.returned (.int .i64 r)) w' := ⟨by rw [hr], bv', h1, fun e => h2 (hr ▸ e)⟩
theorem qcs_eleven {k n : Int} {t : T} {st sl sr : Value} {w : World} {g o : Nat} (h : ∀ q u, ((qcs k n t st sl sr).toList)[q]? = some u → w.cell? ⟨g, o + q, none⟩ = some u) :
 w.cell? ⟨g, o, none⟩ = some (.int .i64 k) ∧ w.cell? ⟨g, o + 1, none⟩ = some (.int .i64 n) ∧ w.cell? ⟨g, o + 2, none⟩ = some (.int .i64 t.k) ∧ w.cell? ⟨g, o + 3, none⟩ = some (.int .i64 t.n) ∧ w.cell? ⟨g, o + 4, none⟩ = some (.complex .f64 t.x t.y) ∧ w.cell? ⟨g, o + 5, none⟩ = some (.string t.S) ∧
  w.cell? ⟨g, o + 6, none⟩ = some (.int .i64 t.a) ∧ w.cell? ⟨g, o + 7, none⟩ = some (.int .i64 t.b) ∧ w.cell? ⟨g, o + 8, none⟩ = some st ∧ w.cell? ⟨g, o + 9, none⟩ = some sl ∧ w.cell? ⟨g, o + 10, none⟩ = some sr :=
 ⟨h 0 _ rfl, h 1 _ rfl, h 2 _ rfl, h 3 _ rfl, h 4 _ rfl, h 5 _ rfl, h 6 _ rfl, h 7 _ rfl, h 8 _ rfl, h 9 _ rfl, h 10 _ rfl⟩
theorem thrAll_any (L : Int) (l : List QT) (ih : ∀ u ∈ l, QThrOk L u) : QThrAll L l := by
 intro sl F met bs deep wb bv w ht hoff hk hgw hw hbm hm hd
 have rs := store_com
 obtain ⟨A, cap, rfl, hlc, hcap, hrows⟩ := ht.mk qds_len
 have HR := Lib.hid hrows
 have HO := Lib.hid hoff
 have HK := Lib.hid hk
 have HW := Lib.hid hw
 have IH := Lib.hid ih
 clear hrows hoff hk hw ih ht
 go_enter Tryz.func125, Tryz.ntmps125
 go_wp2_with fail
 go_loopw [12] (fun v wr => QARel L w l met bs deep wb bv v wr) (fun v _ => l.length - (intOf v).toNat)
 case atStart => exact ⟨0, met, bs, bv, rfl, Nat.zero_le _, hm, hbm, rfl, HW.out, Turns.of0 (Only.refl _ _)⟩
 case round =>
  obtain ⟨j, m, bs', bv', rfl, hj, hm2, hbm2, hq, hw2, ho2⟩ := hrel
  have HW2 := Lib.hid hw2
  have HO2 := Lib.hid ho2
  have HQ := Lib.hid hq
  clear hw2 ho2 hq
  by_cases hjl : j < l.length
  ·rcases HR.out with h0 | ⟨bl, off, rfl, hbl, hFb, hvs⟩
   ·rw [h0] at hjl; simp at hjl
   ·obtain ⟨us, hds, hcs⟩ := hvs j (l[j]'hjl) (List.getElem?_eq_getElem hjl)
    obtain ⟨st', sl', sr', rfl, htv⟩ := q_cells _ hds
    have htv : PV w F (l[j]'hjl) st' sl' sr' := htv
    obtain ⟨S', s1', s2', A', c', B', c2, rfl, rfl, rfl⟩ := htv.slices
    obtain ⟨n', hn'⟩ : ∃ n', (l[j]'hjl).l.length = n' := ⟨_, rfl⟩
    obtain ⟨n2, hn2⟩ : ∃ n2, (l[j]'hjl).r.length = n2 := ⟨_, rfl⟩
    rw [hn', hn2] at htv hcs
    obtain ⟨hf1, hf2, hf3⟩ := HO.out bl hFb
    have hcs2 : ∀ q u, ((qcs (l[j]'hjl).k (l[j]'hjl).n (l[j]'hjl).tm (.slice S' s1' s2') (.slice A' n' c') (.slice B' n2 c2)).toList)[q]? = some u → wr.cell? ⟨bl, off + j * 11 + q, none⟩ = some u := fun q u hu => (HO2.out.cell (p := ⟨bl, off + j * 11 + q, none⟩) hbl hf2 hf3).trans (hcs q u hu)
    obtain ⟨r0, r1, r2, r3, r4, r5, r6, r7, r8, r9, r10⟩ := qcs_eleven hcs2
    have HTV := Lib.hid (HO.out.pv HO2.out htv)
    have HI := Lib.hid (IH.out _ (List.getElem_mem hjl))
    clear hcs hcs2 htv hvs hds hn' hn2
    have HD := Lib.hid (show l.drop j = l[j]'hjl :: l.drop (j + 1) from List.drop_eq_getElem_cons hjl)
    generalize l[j]'hjl = u at HD HI HTV r0 r1 r2 r3 r4 r5 r6 r7 r8 r9 r10
    have hq2 := HQ.out
    rw [HD.out, qthrs_cons] at hq2
    have HQ2 := Lib.hid hq2
    clear hq2
    have hln := qthr_len L u m bs' deep hm2 hbm2
    obtain ⟨q, hqq⟩ : ∃ q, qthr L u m bs' deep = q := ⟨_, rfl⟩
    rw [hqq] at HQ2 hln
    have HQQ := Lib.hid hqq
    clear hqq
    go_wp2_with fail
    (with_reducible refine (HI.out.use (deep := deep) (D := (deep : Int)) (HTV.out.same ((Only.refl [] wr).alloc _)) ((HO.out.turns HO2.out).turns (Turns.of0 ((Only.refl [] wr).alloc _))) ((HK.out.turns hgw HW.out HO2.out).same ((Only.refl [] wr).alloc _)) hgw (HW2.out.same ((Only.refl [] wr).alloc _)) hbm2 hm2 hd rfl HQQ.out).mono ?_)
    rintro e w2 ⟨rfl, bv2, o2, hw3⟩
    have HW3 := Lib.hid hw3
    have HO3 := Lib.hid ((HO2.out.trans (Turns.of0 ((Only.refl [] wr).alloc (.cells (qcs u.k u.n u.tm (.slice S' s1' s2') (.slice A' n' c') (.slice B' n2 c2)) 88)))).trans o2)
    clear o2 hw3
    obtain ⟨r, hr⟩ : ∃ r, q.2.2 = r := ⟨_, rfl⟩
    have HRr := Lib.hid hr
    rw [hr] at HW3 HQ2 ⊢
    clear hr
    by_cases hz : r = 0
    ·subst hz
     have HN := Lib.hid (show QARel L w l met bs deep wb bv (.int .i64 ((j : Int) + 1)) w2 from ⟨j + 1, q.1, q.2.1, bv2, by go_num, by omega, hln.1, hln.2, by rw [← HQ2.out, if_pos rfl], HW3.out rfl, HO3.out⟩)
     go_wp2_with fail
     go_roundw
     case rel => exact HN.out
     case measure => simp [intOf]; omega
    ·have hne : (r != 0) = true := by simpa using hz
     have HE := Lib.hid (show ThrE L w wb bv (qthrs L l met bs deep) (.returned (.int .i64 r)) w2 from ThrE.mk (by rw [← HQ2.out, if_neg hz]; exact HRr.out) HO3.out (fun e => absurd e hz))
     clear hz
     go_wp2_with fail
     go_ret
     exact HE.out
  ·have hje : j = l.length := by omega
   subst hje
   have hq3 := HQ.out
   rw [List.drop_length, qthrs_nil] at hq3
   have HE := Lib.hid (show ThrE L w wb bv (qthrs L l met bs deep) (.returned (.int .i64 0)) wr from ThrE.mk (by rw [← hq3]) HO2.out (fun _ => by rw [← hq3]; exact HW2.out))
   clear hj hq3
   go_wp2_with fail
   go_ret
   exact HE.out
open Go.RowKit
theorem WH.ne {w : World} {wb : Nat} {L : Int} {met : Nat} {bs : List Int} {bv : Value} (h : WH w wb L met bs bv) : bv.ownBlock ≠ some wb := by
 intro e
 rcases h.r.2 with ⟨hv, _⟩ | ⟨g, cap, cur, hv, hb, hg, _⟩
 ·rw [hv] at e; cases e
 ·rw [hv] at e
  injection e with e
  subst e
  have hg2 : Bk w g 3 cur := hg
  exact absurd (Bk.uniq h.b hg2).1 (by decide)
theorem WH.row {w w' : World} {wb : Nat} {L : Int} {met : Nat} {bs : List Int} {bv : Value} (h : WH w wb L met bs bv) (o : Only [wb] w w') : w'.ownsRow wb 3 1 bv bs.length (bs.map fun z => Value.int .i64 z) :=
 Row.only h.r o fun b hb hm => h.ne (by rw [← List.mem_singleton.1 hm]; exact hb)
theorem WH.met {w : World} {wb : Nat} {L : Int} {met : Nat} {bs : List Int} {bv : Value} (h : WH w wb L met bs bv) : WH (w.setCell ⟨wb, 1, none⟩ (.int .i64 ((met : Int) + 1))) wb L (met + 1) bs bv ∧ Turns wb bv w (w.setCell ⟨wb, 1, none⟩ (.int .i64 ((met : Int) + 1))) bv := by
 have o1 : Only [wb] w (w.setCell ⟨wb, 1, none⟩ (.int .i64 ((met : Int) + 1))) := (Only.refl [wb] w).set (.inl (by simp)) _
 exact ⟨⟨h.b.set 1 (.int .i64 ((met + 1 : Nat) : Int)), h.row o1⟩, ⟨o1.more (by simp), fun _ h => .inl h⟩⟩
theorem thr_full (L k n : Int) (tt : T) (st sl sr : Value) (met : Nat) (bs : List Int) (deep wb : Nat) (bv : Value) (w : World) (hw : WH w wb L met bs bv) (hm : met ≤ 1024) (hd : deep ≤ 64) (hc : 1024 ≤ met ∨ 64 ≤ deep) :
 Calls Tryz.prog 111 #[.pointer (some ⟨wb, 0, none⟩), .agg (qcs k n tt st sl sr), .int .i64 deep] w fun e w' => ThrE L w wb bv (met, bs, 34) e w' := by
 have c1 : ∀ o, (w.alloc o).cell? ⟨wb, 1, none⟩ = some (.int .i64 met) := fun o => (hw.b.alloc o).cell0 rfl
 have HE := Lib.hid (show ThrE L w wb bv (met, bs, 34) (.returned (.int .i64 34)) (w.alloc (.cells (qcs k n tt st sl sr) 88)) from ThrE.mk rfl (Turns.of0 ((Only.refl [] w).alloc _)) (fun e => by cases e))
 clear hw
 by_cases h1 : met = 1024
 ·subst h1
  go_enter Tryz.func111, Tryz.ntmps111
  go_wp2_with fail
  go_ret
  exact HE.out
 ·have h2 : deep = 64 := by omega
  have h1' : ((met : Int) == 1024) = false := by simp; omega
  clear hc h1
  subst h2
  go_enter Tryz.func111, Tryz.ntmps111
  go_wp2_with fail
  go_ret
  exact HE.out
theorem thr_no (L k n : Int) (tt : T) (st sl sr : Value) (met : Nat) (bs : List Int) (deep wb : Nat) (bv : Value) (w : World) (hw : WH w wb L met bs bv) (hm : met < 1024) (hd : deep < 64)
 (hM : ∀ w1, Only [] w w1 → Calls Tryz.prog 124 #[.pointer (some ⟨wb, 0, none⟩), .agg (qcs k n tt st sl sr)] w1 fun e w' => e = .returned (.bool false) ∧ Only [] w1 w') :
 Calls Tryz.prog 111 #[.pointer (some ⟨wb, 0, none⟩), .agg (qcs k n tt st sl sr), .int .i64 deep] w fun e w' => ThrE L w wb bv (met, bs, 50) e w' := by
 have rs := store_com
 have c1 : ∀ o, (w.alloc o).cell? ⟨wb, 1, none⟩ = some (.int .i64 met) := fun o => (hw.b.alloc o).cell0 rfl
 have h1 : ((met : Int) == 1024) = false := by simp; omega
 have h2 : ((deep : Int) == 64) = false := by simp; omega
 have HM := Lib.hid hM
 have O0 := Lib.hid ((Only.refl [] w).alloc (.cells (qcs k n tt st sl sr) 88))
 clear hw hM
 go_enter Tryz.func111, Tryz.ntmps111
 go_wp2_with fail
 (with_reducible refine (HM.out _ O0.out).mono ?_)
 rintro e w1 ⟨rfl, o1⟩
 have HE := Lib.hid (show ThrE L w wb bv (met, bs, 50) (.returned (.int .i64 50)) w1 from ThrE.mk rfl (Turns.of0 (O0.out.trans o1 (by simp))) (fun e => by cases e))
 clear o1
 go_wp2_with fail
 go_ret
 exact HE.out
theorem thr_go (L k n : Int) (tt : T) (S0 A B : Option Addr) (s1 s2 m c m' c' : Nat) (l r : List QT) (F : Nat → Prop) (met : Nat) (bs : List Int) (deep wb : Nat) (bv : Value) (q : Nat × List Int × Int) (w : World) (hk2 : k ≠ 2)
 (hM : ∀ w1, Only [] w w1 → Calls Tryz.prog 124 #[.pointer (some ⟨wb, 0, none⟩), .agg (qcs k n tt (.slice S0 s1 s2) (.slice A m c) (.slice B m' c'))] w1 fun e w' => e = .returned (.bool true) ∧ Only [] w1 w')
 (hl : QL w F l (.slice A m c)) (hr : QL w F r (.slice B m' c')) (hL : QThrAll L l) (hR : QThrAll L r) (hoff : Off w wb bv F) (hk : KN w) (hgw : 1 < wb) (hw : WH w wb L met bs bv) (hbm : bs.length ≤ met) (hm : met < 1024) (hd : deep < 64)
 (hq : qthrs L (l ++ r) (met + 1) bs (deep + 1) = q) :
 Calls Tryz.prog 111 #[.pointer (some ⟨wb, 0, none⟩), .agg (qcs k n tt (.slice S0 s1 s2) (.slice A m c) (.slice B m' c')), .int .i64 deep] w fun e w' => ThrE L w wb bv q e w' := by
 have rs := store_com
 have c1 : ∀ o, (w.alloc o).cell? ⟨wb, 1, none⟩ = some (.int .i64 met) := fun o => (hw.b.alloc o).cell0 rfl
 have h1 : ((met : Int) == 1024) = false := by simp; omega
 have h2 : ((deep : Int) == 64) = false := by simp; omega
 have h3 : (k == 2) = false := by simpa using hk2
 have h4 : IntKind.i64.wrap ((met : Int) + 1) = (met : Int) + 1 := IntWalk.i64_in _ (by omega)
 have h5 : IntKind.i64.wrap ((deep : Int) + 1) = (deep : Int) + 1 := IntWalk.i64_in _ (by omega)
 have hlt := hw.b.lt
 have hrl : bv.ownBlock ≠ some w.heap.size := fun e => by have := (Row.block hw.r e).2; omega
 have hne : w.heap.size ≠ wb := by omega
 have HM := Lib.hid hM
 have HW := Lib.hid hw
 have HL := Lib.hid hL
 have HR := Lib.hid hR
 have Hl := Lib.hid hl
 have Hr := Lib.hid hr
 have HK := Lib.hid hk
 have HF := Lib.hid hoff
 have O0 := Lib.hid ((Only.refl [] w).alloc (.cells (qcs k n tt (.slice S0 s1 s2) (.slice A m c) (.slice B m' c')) 88))
 have B0 := Lib.hid (Bk.made w 88 (qcs k n tt (.slice S0 s1 s2) (.slice A m c) (.slice B m' c')))
 rw [qthrs_app] at hq
 have hln := qthrs_len L l (met + 1) bs (deep + 1) (by omega) (by omega)
 obtain ⟨q1, hq1⟩ : ∃ q1, qthrs L l (met + 1) bs (deep + 1) = q1 := ⟨_, rfl⟩
 rw [hq1] at hq hln
 have HQ1 := Lib.hid hq1
 have HQ := Lib.hid hq
 have HRL := Lib.hid hrl
 clear hw hM hL hR hl hr hk hoff hk2 hq1 hq hrl
 go_enter Tryz.func111, Tryz.ntmps111
 go_wp2_with fail
 (with_reducible refine (HM.out _ O0.out).mono ?_)
 rintro e w1 ⟨rfl, o1⟩
 have O1 := Lib.hid (O0.out.trans o1 (by simp))
 have W1 := Lib.hid (HW.out.same O1.out)
 have B1 := Lib.hid (B0.out.only o1 (by simp))
 have d1 := W1.out.b.cell0 (i := 1) rfl
 have f1 := W1.out.b.free 1
 have k0 : ∀ v, (w1.setCell ⟨wb, 1, none⟩ v).cell? ⟨w.heap.size, 0, none⟩ = some (.int .i64 k) := fun v => (B1.out.away (p := ⟨wb, 1, none⟩) hne v).cell0 rfl
 have k9 : ∀ v, (w1.setCell ⟨wb, 1, none⟩ v).cell? ⟨w.heap.size, 9, none⟩ = some (.slice A m c) := fun v => (B1.out.away (p := ⟨wb, 1, none⟩) hne v).cell0 rfl
 have T1 := Lib.hid ((Turns.of0 (wb := wb) (bv := bv) O1.out).trans W1.out.met.2)
 have M1 := Lib.hid W1.out.met.1
 clear o1 c1
 go_wp2_with fail
 (with_reducible refine (HL.out.use (deep := deep + 1) (HF.out.ql T1.out Hl.out) (HF.out.turns T1.out) (HK.out.turns hgw HW.out T1.out) hgw M1.out (by omega) (by omega) (by omega) (by omega) HQ1.out).mono ?_)
 rintro e w3 ⟨rfl, bv3, t3, hw3⟩
 have T3 := Lib.hid (T1.out.trans t3)
 have W3 := Lib.hid hw3
 have B3 := Lib.hid (t3.bk (B1.out.away (p := ⟨wb, 1, none⟩) hne _) hne HRL.out)
 have k10 := B3.out.cell0 (i := 10) rfl
 clear t3 hw3 k0 k9 d1 f1
 obtain ⟨e1, he1⟩ : ∃ e1, q1.2.2 = e1 := ⟨_, rfl⟩
 have HE1 := Lib.hid he1
 rw [he1] at W3 HQ ⊢
 clear he1
 by_cases hz : e1 = 0
 ·subst hz
  have hq3 := HQ.out
  rw [if_pos rfl] at hq3
  have HQ3 := Lib.hid hq3
  clear hq3
  go_wp2_with fail
  (with_reducible refine (HR.out.use (deep := deep + 1) (HF.out.ql T3.out Hr.out) (HF.out.turns T3.out) (HK.out.turns hgw HW.out T3.out) hgw (W3.out trivial) hln.2 hln.1 (by omega) (by omega) HQ3.out).mono ?_)
  rintro e w4 ⟨rfl, bv4, t4, hw4⟩
  have HE := Lib.hid (show ThrE L w wb bv q (.returned (.int .i64 q.2.2)) w4 from ThrE.mk rfl (T3.out.trans t4) hw4)
  clear t4 hw4
  go_wp2_with fail
  go_ret
  exact HE.out
 ·have hne2 : (e1 != 0) = true := by simpa using hz
  have hq3 := HQ.out
  rw [if_neg hz] at hq3
  have HE := Lib.hid (show ThrE L w wb bv q (.returned (.int .i64 e1)) w3 from ThrE.mk (by rw [← hq3]; exact HE1.out) T3.out (fun e => absurd e hz))
  clear hz hq3
  go_wp2_with fail
  go_ret
  exact HE.out
open Go.RowKit
theorem app_wh {W w2 : World} {wb g : Nat} {bv : Value} {cs : Array Value} (h : Bk W wb 172 cs) (hne : bv.ownBlock ≠ some wb) (hgrow : W.grownBy w2 bv.ownBlock) (hat : bv.ownBlock = some g ∨ g = W.heap.size) :
 Bk w2 wb 172 cs ∧ wb ≠ g ∧ Only bv.ownBlock.toList W w2 := by
 have o1 := Only.of_grown hgrow
 have hl := h.lt
 refine ⟨h.only o1 (by simpa using hne), ?_, o1⟩
 rintro rfl
 rcases hat with h1 | h1
 ·exact hne h1
 ·omega
theorem app_end {w W w2 : World} {wb met g cap' : Nat} {L n : Int} {bs : List Int} {bv : Value} (h : Bk w2 wb 172 #[.int .i64 L, .int .i64 (met : Nat), bv]) (hne : wb ≠ g) (hT : Turns wb bv w W bv) (o2 : Only bv.ownBlock.toList W w2) (hat : bv.ownBlock = some g ∨ W.heap.size ≤ g)
 (hown : w2.ownsRow wb 3 1 (.slice (some ⟨g, 0, none⟩) (bs.length + 1) cap') (bs.length + 1) ((bs.map fun z => Value.int .i64 z) ++ [.int .i64 n])) :
 WH (w2.setCell ⟨wb, 2, none⟩ (.slice (some ⟨g, 0, none⟩) (bs.length + 1) cap')) wb L met (bs ++ [n]) (.slice (some ⟨g, 0, none⟩) (bs.length + 1) cap') ∧ Turns wb bv w (w2.setCell ⟨wb, 2, none⟩ (.slice (some ⟨g, 0, none⟩) (bs.length + 1) cap')) (.slice (some ⟨g, 0, none⟩) (bs.length + 1) cap') := by
 have o3 : Only [wb] w2 (w2.setCell ⟨wb, 2, none⟩ (.slice (some ⟨g, 0, none⟩) (bs.length + 1) cap')) := (Only.refl [wb] w2).set (.inl (by simp)) _
 refine ⟨⟨h.set 2 _, ?_⟩, (hT.o.trans (o2.more (T := wb :: bv.ownBlock.toList) (by intro k hk; exact .inl (List.mem_cons_of_mem _ hk))) (fun i hi => .inl hi)).trans (o3.more (T := wb :: bv.ownBlock.toList) (by simp)) (fun i hi => .inl hi), fun g' hg' => ?_⟩
 ·have := Row.only hown o3 fun b hb hm => by
   injection hb with hb
   rw [List.mem_singleton.1 hm] at hb
   exact hne hb.symm
  simp only [List.length_append, List.length_singleton, List.map_append, List.map_cons, List.map_nil]
  exact this
 ·injection hg' with hg'
  subst hg'
  rcases hat with h1 | h1
  ·exact .inl h1
  ·exact .inr (Nat.le_trans hT.o.size h1)
theorem Row.drew {w : World} {base : Nat} {e : TypeId} {size : Nat} {v : Value} {n : Nat} {xs : List Value} (h : w.ownsRow base e size v n xs) : w.drew.ownsRow base e size v n xs := h
theorem Row.alloc {w : World} {base : Nat} {e : TypeId} {size : Nat} {v : Value} {n : Nat} {xs : List Value} (h : w.ownsRow base e size v n xs) (o : Obj) : (w.alloc o).ownsRow base e size v n xs := Row.only h ((Only.refl [] w).alloc o) (by simp)
theorem qinfo {t : TypeId} {z : Value} {n b : Nat} (h : (Tryz.prog.info? t).map (fun i => (i.zero, i.size, i.bytes)) = some (some z, n, b)) : ∃ i, Tryz.prog.info? t = some i ∧ i.zero = some z ∧ i.size = n ∧ i.bytes = b := by
 cases hi : Tryz.prog.info? t with
 | none => rw [hi] at h; cases h
 | some i =>
  rw [hi] at h
  simp only [Option.map_some, Option.some.injEq, Prod.mk.injEq] at h
  exact ⟨i, rfl, h.1, h.2.1, h.2.2⟩
theorem RowV.nil' {α : Type} (f : α → List D) (w : World) (F : Nat → Prop) (A : Option Addr) {c : Nat} (h : c ≤ 9223372036854775807) : RowV f w F [] (.slice A 0 c) := by
 unfold RowV
 simp only [DV]
 exact ⟨A, c, rfl, Nat.zero_le _, h, .inl ⟨rfl, rfl⟩⟩
theorem qint_info : (Tryz.prog.info? 3).map (fun i => (i.zero, i.size, i.bytes)) = some (some (.int .i64 0), 1, 8) := by kernel_rfl
abbrev vcs (n : Int) (X Y : Option Addr) (cx cy : Nat) : Array Value := #[.int .i64 2, .int .i64 n, .int .i64 0, .int .i64 0, .complex .f64 0 0, .string ⟨#[]⟩, .int .i64 0, .int .i64 0, .slice none 0 0, .slice X 0 cx, .slice Y 0 cy]
theorem off_none (w : World) (wb : Nat) (bv : Value) : Off w wb bv (fun _ => False) := fun _ h => h.elim
theorem all_nil (L : Int) : QThrAll L [] := thrAll_any L [] (by simp)
theorem thr_var (L n : Int) (X Y : Option Addr) (cx cy : Nat) (met : Nat) (bs : List Int) (deep wb : Nat) (bv : Value) (w : World) (hX : cx ≤ 9223372036854775807) (hY : cy ≤ 9223372036854775807) (hok : okQ L bs (.var n) = true) (hk : KN w) (hgw : 1 < wb) (hw : WH w wb L met bs bv) (hbm : bs.length ≤ met) (hm : met < 1024) (hd : deep < 64) :
 Calls Tryz.prog 111 #[.pointer (some ⟨wb, 0, none⟩), .agg (vcs n X Y cx cy), .int .i64 deep] w fun e w' => ThrE L w wb bv (met + 1, bs ++ [n], 0) e w' := by
 have rs := store_com
 obtain ⟨A, cap, rfl, hlies⟩ := hw.slice
 have HM := Lib.hid (fun w1 (o1 : Only [] w w1) => qmay_var wb X Y cx cy L met n A cap bs true w1 ((hw.same o1).b) (hlies.same o1) (by omega) hok)
 have c1 : ∀ o, (w.alloc o).cell? ⟨wb, 1, none⟩ = some (.int .i64 met) := fun o => (hw.b.alloc o).cell0 rfl
 have h1 : ((met : Int) == 1024) = false := by simp; omega
 have h2 : ((deep : Int) == 64) = false := by simp; omega
 have h4 : IntKind.i64.wrap ((met : Int) + 1) = (met : Int) + 1 := IntWalk.i64_in _ (by omega)
 have h5 : IntKind.i64.wrap ((deep : Int) + 1) = (deep : Int) + 1 := IntWalk.i64_in _ (by omega)
 have hlt := hw.b.lt
 have hrl : (Value.slice A bs.length cap).ownBlock ≠ some w.heap.size := fun e => by have := (Row.block hw.r e).2; omega
 have hne : w.heap.size ≠ wb := by omega
 have HW := Lib.hid hw
 have HK := Lib.hid hk
 have HRL := Lib.hid hrl
 have O0 := Lib.hid ((Only.refl [] w).alloc (.cells (vcs n X Y cx cy) 88))
 have B0 := Lib.hid (Bk.made w 88 (vcs n X Y cx cy))
 have h63 : bs.length + 1 ≤ maxLen := by unfold maxLen; omega
 obtain ⟨i, hi, hz, hz1, hz2⟩ := qinfo qint_info
 clear hw hlies hk hok hrl
 go_enter Tryz.func111, Tryz.ntmps111
 go_wp2_with fail
 (with_reducible refine (HM.out _ O0.out).mono ?_)
 rintro e w1 ⟨rfl, o1⟩
 have O1 := Lib.hid (O0.out.trans o1 (by simp))
 have W1 := Lib.hid (HW.out.same O1.out)
 have B1 := Lib.hid (B0.out.only o1 (by simp))
 have d1 := W1.out.b.cell0 (i := 1) rfl
 have f1 := W1.out.b.free 1
 obtain ⟨W5, hW5⟩ : ∃ W5, W5 = w1.setCell ⟨wb, 1, none⟩ (.int .i64 ((met : Int) + 1)) := ⟨_, rfl⟩
 have T5 := Lib.hid (show Turns wb (.slice A bs.length cap) w W5 (.slice A bs.length cap) from hW5 ▸ (Turns.of0 O1.out).trans W1.out.met.2)
 have M5 := Lib.hid (show WH W5 wb L (met + 1) bs (.slice A bs.length cap) from hW5 ▸ W1.out.met.1)
 have B5 := Lib.hid (show Bk W5 w.heap.size 88 (vcs n X Y cx cy) from hW5 ▸ B1.out.away (p := ⟨wb, 1, none⟩) hne _)
 clear o1 c1
 have k0 : (w1.setCell ⟨wb, 1, none⟩ (.int .i64 ((met : Int) + 1))).cell? ⟨w.heap.size, 0, none⟩ = some (.int .i64 2) := hW5 ▸ B5.out.cell0 rfl
 go_wp2_with fail
 rw [← hW5] at k0 ⊢
 clear hW5 d1 f1 k0
 have e1 := B5.out.cell0 (i := 1) rfl
 have e2 := M5.out.b.cell0 (i := 2) rfl
 have e1a : ∀ o, (W5.alloc o).cell? ⟨w.heap.size, 1, none⟩ = some (.int .i64 n) := fun o => (B5.out.alloc o).cell0 rfl
 have e2a : ∀ o, (W5.alloc o).cell? ⟨wb, 2, none⟩ = some (.slice A bs.length cap) := fun o => (M5.out.b.alloc o).cell0 rfl
 have hbz : ∀ o, wb ≤ (W5.alloc o).heap.size := fun o => by have := M5.out.b.lt; simp; omega
 have R5 : ∀ o, (W5.alloc o).ownsRow wb 3 1 (.slice A bs.length cap) bs.length (bs.map fun z => Value.int .i64 z) := fun o => Row.alloc M5.out.r o
 go_region_law ((refine step_append_lies _ (by rfl) _ _ _ (by rfl) wb 3 i _ 1 8 Tryz.underlying74 hi hz hz1 hz2 rfl (by omega) _ bs.length (bs.map fun z => Value.int .i64 z) (by rfl) (Row.drew (R5 _)) _ 1 1 [.int .i64 n] (by rfl) rfl (World.news_of_block (Bk.madeAt (w := W5) (b := W5.heap.size) rfl)) (by simp [Value.oneCell']) (by omega) h63 (by omega) (hbz _) _ rfl ?_; intro g cap' w2 hown hgrow hat hlt2; obtain ⟨a1, a2, a3⟩ := app_wh (M5.out.b.alloc _).drew M5.out.ne hgrow hat; have x2 := a1.cell0 (i := 2) rfl; have xf := a1.free 2; have A1 := Lib.hid a1; have A3 := Lib.hid a3; have HO := Lib.hid hown; have HAT := Lib.hid hat; clear a1 a3 hown hgrow hat))
 all_goals
  have hB5 := B5.out.lt
  have hat2 : (Value.slice A bs.length cap).ownBlock = some g ∨ W5.heap.size ≤ g := HAT.out.imp id (fun h => by rw [h]; simp)
  obtain ⟨w9, t9⟩ := app_end A1.out a2 T5.out ((((Only.refl [] W5).alloc _).drew.more (by simp)).trans A3.out (fun i hi => .inl hi)) hat2 HO.out
  have hgx : (Value.slice (some ⟨g, 0, none⟩) (bs.length + 1) cap').ownBlock ≠ some w.heap.size := fun e => by
   have e : g = w.heap.size := Option.some.inj e
   rcases hat2 with h | h
   ·exact HRL.out (by rw [h, e])
   ·omega
  have B9 := Lib.hid (((B5.out.alloc _).drew.only A3.out (by simpa using HRL.out)).away (p := ⟨wb, 2, none⟩) hne (.slice (some ⟨g, 0, none⟩) (bs.length + 1) cap'))
  have k9 := B9.out.cell0 (i := 9) rfl
  have W9 := Lib.hid w9
  have T9 := Lib.hid t9
  have K9 := Lib.hid (HK.out.turns hgw HW.out t9)
  have hlen : (bs ++ [n]).length ≤ met + 1 := by simp; omega
  clear w9 t9 hat2 A1 A3 HO HAT x2 xf e1 e2 e1a e2a R5 hbz
  go_wp2_with fail
  (with_reducible refine ((all_nil L).use (F := fun _ => False) (deep := deep + 1) (RowV.nil' _ _ _ _ (by assumption)) (off_none _ _ _) K9.out hgw W9.out hlen (by omega) (by omega) (by omega) (qthrs_nil L _ _ _)).mono ?_)
  rintro e w3 ⟨rfl, bv3, t3, hw3⟩
  have W3 := Lib.hid (hw3 rfl)
  have T3 := Lib.hid (T9.out.trans t3)
  have K3 := Lib.hid (HK.out.turns hgw HW.out (T9.out.trans t3))
  have B3 := Lib.hid (t3.bk B9.out hne hgx)
  have k10 := B3.out.cell0 (i := 10) rfl
  clear t3 hw3 k9
  go_wp2_with fail
  (with_reducible refine ((all_nil L).use (F := fun _ => False) (deep := deep + 1) (RowV.nil' _ _ _ _ (by assumption)) (off_none _ _ _) K3.out hgw W3.out hlen (by omega) (by omega) (by omega) (qthrs_nil L _ _ _)).mono ?_)
  rintro e w4 ⟨rfl, bv4, t4, hw4⟩
  have HE := Lib.hid (show ThrE L w wb (.slice A bs.length cap) (met + 1, bs ++ [n], 0) (.returned (.int .i64 0)) w4 from ThrE.mk rfl (T3.out.trans t4) hw4)
  clear t4 hw4
  go_wp2_with fail
  go_ret
  exact HE.out
end Go.Proofs.YtcdefnbehlcgeaaGreatDoor
