/- pattern: walk.through and throughAll: what they keep, in memory and in numbers. pattern: walk.throughAll; walk.through of any pattern but a local. pattern: walk.through of any pattern but a local. pattern: walk.through of a local; of any pattern; Check. pattern: walk.through of any pattern; Check. -/
import Derived.Test.YtlilfmpikampgaaGreatDoorPH1
import Derived.Deep.AppendLies
import Derived.Test.YtlilfmpikampgaaGreatDoorPMj
import Derived.Test.YtlilfmpikampgaaGreatDoorPKa
import Derived.Deep.RegionLaw
namespace Go.Proofs.YtlilfmpikampgaaGreatDoor
open Go.RowKit

/-- The walk's block: how many parts were met, which locals. -/
structure WH (w : World) (wb met : Nat) (bs : List Int) (bv : Value) : Prop where
  b : Bk w wb 60 #[.int .i64 32, .int .i64 met, bv]
  r : w.ownsRow wb 3 1 bv bs.length (bs.map fun z => Value.int .i64 z)
/-- What a step of the walk turns: its own block, the locals' row. -/
structure Turns (wb : Nat) (bv : Value) (w w' : World) (bv' : Value) : Prop where
  o : Only (wb :: bv.ownBlock.toList) w w'
  n : ∀ g, bv'.ownBlock = some g → bv.ownBlock = some g ∨ w.heap.size ≤ g
theorem Turns.of0 {wb : Nat} {bv : Value} {w w' : World} (o : Only [] w w') : Turns wb bv w w' bv := ⟨o.more (by simp), fun _ h => .inl h⟩
theorem Turns.trans {wb : Nat} {bv bv1 bv2 : Value} {w w1 w2 : World} (h : Turns wb bv w w1 bv1) (k : Turns wb bv1 w1 w2 bv2) : Turns wb bv w w2 bv2 := by
  refine ⟨h.o.trans k.o fun i hi => ?_, fun g hg => ?_⟩
  · rcases List.mem_cons.1 hi with rfl | hi
    · exact .inl (by simp)
    · rcases h.n i (by simpa using hi) with h1 | h1
      · exact .inl (by simp [h1])
      · exact .inr h1
  · rcases k.n g hg with h1 | h1
    · exact h.n g h1
    · exact .inr (Nat.le_trans h.o.size h1)
theorem WH.same {w w' : World} {wb met : Nat} {bs : List Int} {bv : Value} (h : WH w wb met bs bv) (o : Only [] w w') : WH w' wb met bs bv := ⟨h.b.only o (by simp), Row.only h.r o (by simp)⟩
theorem WH.slice {w : World} {wb met : Nat} {bs : List Int} {bv : Value} (h : WH w wb met bs bv) : ∃ A cap, bv = .slice A bs.length cap ∧ Lies w A bs := by
  rcases h.r.2 with ⟨hv, h0⟩ | ⟨g, cap, cur, hv, _, hg, _⟩
  · refine ⟨none, 0, by rw [hv, h0], fun k z hz => ?_⟩
    rw [List.length_eq_zero_iff.1 h0] at hz
    simp at hz
  · refine ⟨some ⟨g, 0, none⟩, cap, hv, fun k z hz => ⟨g, rfl, ?_, cur, hg⟩⟩
    have hr := h.r
    rw [hv] at hr
    exact Row.cell hr k _ (by rw [List.getElem?_map, hz]; rfl)
/-- What no step turns. -/
theorem Turns.cell {wb : Nat} {bv bv' : Value} {w w' : World} (h : Turns wb bv w w' bv') {p : Addr} (hp : p.block < w.heap.size) (h1 : p.block ≠ wb) (h2 : bv.ownBlock ≠ some p.block) : w'.cell? p = w.cell? p :=
  h.o.cell hp (by simp; exact ⟨h1, h2⟩)
theorem Turns.bk {wb g : Nat} {bv bv' : Value} {w w' : World} {t : TypeId} {cs : Array Value} (h : Turns wb bv w w' bv') (hb : Bk w g t cs) (h1 : g ≠ wb) (h2 : bv.ownBlock ≠ some g) : Bk w' g t cs :=
  hb.only h.o (by simp; exact ⟨h1, h2⟩)
/-- Blocks of a pattern's parts: none that the walk turns. -/
def Off (w : World) (wb : Nat) (bv : Value) (F : Nat → Prop) : Prop := ∀ b, F b → b < w.heap.size ∧ b ≠ wb ∧ bv.ownBlock ≠ some b
theorem Off.turns {w w' : World} {wb : Nat} {bv bv' : Value} {F : Nat → Prop} (h : Off w wb bv F) (k : Turns wb bv w w' bv') : Off w' wb bv' F := fun b hb => by
  obtain ⟨h1, h2, h3⟩ := h b hb
  refine ⟨Nat.lt_of_lt_of_le h1 k.o.size, h2, fun e => ?_⟩
  rcases k.n b e with h4 | h4
  · exact h3 h4
  · omega
theorem Off.qv {w w' : World} {wb : Nat} {bv bv' : Value} {F : Nat → Prop} (h : Off w wb bv F) (k : Turns wb bv w w' bv') {t : QT} {sl sr : Value} (ht : QV w F t sl sr) : QV w' F t sl sr :=
  QV.only k.o (fun b hb hf => by
    obtain ⟨_, h2, h3⟩ := h b hf
    rcases List.mem_cons.1 hb with rfl | hb
    · exact h2 rfl
    · exact h3 (by simpa using hb)) (fun _ h => h) t _ _ ht
theorem Off.ql {w w' : World} {wb : Nat} {bv bv' : Value} {F : Nat → Prop} (h : Off w wb bv F) (k : Turns wb bv w w' bv') {l : List QT} {sl : Value} (ht : QL w F l sl) : QL w' F l sl :=
  QL.only k.o (fun b hb hf => by
    obtain ⟨_, h2, h3⟩ := h b hf
    rcases List.mem_cons.1 hb with rfl | hb
    · exact h2 rfl
    · exact h3 (by simpa using hb)) (fun _ h => h) ht
theorem KN.turns {w w' : World} {wb met : Nat} {bs : List Int} {bv bv' : Value} (h : KN w) (hg : 0 < wb) (hw : WH w wb met bs bv) (k : Turns wb bv w w' bv') : KN w' :=
  h.only (Nat.lt_trans hg hw.b.lt) k.o fun hm => by
    rcases List.mem_cons.1 hm with e | hm
    · omega
    · have := (Row.block hw.r (g := 0) (by simpa using hm)).1
      omega
/-- What a call of through or throughAll tells. -/
def ThrE (w : World) (wb : Nat) (bv : Value) (q : Nat × List Int × Int) (e : Ending) (w' : World) : Prop := e = .returned (.int .i64 q.2.2) ∧ ∃ bv', Turns wb bv w w' bv' ∧ (q.2.2 = 0 → WH w' wb q.1 q.2.1 bv')
def QThrOk (t : QT) : Prop := ∀ (sl sr : Value) (F : Nat → Prop) (met : Nat) (bs : List Int) (deep wb : Nat) (bv : Value) (w : World), QV w F t sl sr → Off w wb bv F → KN w → 0 < wb → WH w wb met bs bv → bs.length ≤ met → met ≤ 1024 → deep ≤ 64 →
  Calls Tryz.prog 22 #[.pointer (some ⟨wb, 0, none⟩), .agg (pcs t.k t.n t.t sl sr), .int .i64 deep] w fun e w' => ThrE w wb bv (qthr t met bs deep) e w'
def QThrAll (l : List QT) : Prop := ∀ (sl : Value) (F : Nat → Prop) (met : Nat) (bs : List Int) (deep wb : Nat) (bv : Value) (w : World), QL w F l sl → Off w wb bv F → KN w → 0 < wb → WH w wb met bs bv → bs.length ≤ met → met ≤ 1024 → deep ≤ 64 →
  Calls Tryz.prog 37 #[.pointer (some ⟨wb, 0, none⟩), sl, .int .i64 deep] w fun e w' => ThrE w wb bv (qthrs l met bs deep) e w'
theorem QThrOk.use {t : QT} (h : QThrOk t) {sl sr : Value} {F : Nat → Prop} {met : Nat} {bs : List Int} {deep wb : Nat} {bv : Value} {D : Int} {w : World} {q : Nat × List Int × Int} (h1 : QV w F t sl sr) (h2 : Off w wb bv F) (h3 : KN w) (h4 : 0 < wb) (h5 : WH w wb met bs bv) (h6 : bs.length ≤ met) (h7 : met ≤ 1024) (h8 : deep ≤ 64) (hD : D = (deep : Int)) (hq : qthr t met bs deep = q) :
    Calls Tryz.prog 22 #[.pointer (some ⟨wb, 0, none⟩), .agg #[.int .i64 t.k, .int .i64 t.n, .int .i64 t.t.k, .int .i64 t.t.n, .complex .f64 t.t.x t.t.y, .string t.t.S, .int .i64 t.t.a, .int .i64 t.t.b, .slice none 0 0, sl, sr], .int .i64 D] w fun e w' => ThrE w wb bv q e w' := by
  subst hD hq
  exact h sl sr F met bs deep wb bv w h1 h2 h3 h4 h5 h6 h7 h8
theorem QThrAll.use {l : List QT} (h : QThrAll l) {A : Option Addr} {m c : Nat} {F : Nat → Prop} {met : Nat} {bs : List Int} {deep wb : Nat} {bv : Value} {D : Int} {w : World} {q : Nat × List Int × Int} (h1 : QL w F l (.slice A m c)) (h2 : Off w wb bv F) (h3 : KN w) (h4 : 0 < wb) (h5 : WH w wb met bs bv) (h6 : bs.length ≤ met) (h7 : met ≤ 1024) (h8 : deep ≤ 64) (hD : D = (deep : Int)) (hq : qthrs l met bs deep = q) :
    Calls Tryz.prog 37 #[.pointer (some ⟨wb, 0, none⟩), .slice A m c, .int .i64 D] w fun e w' => ThrE w wb bv q e w' := by
  subst hD hq
  exact h _ F met bs deep wb bv w h1 h2 h3 h4 h5 h6 h7 h8
/-- As many parts are met as locals bound, or more. -/
theorem qthr_len (t : QT) : t.Good → ∀ met bs deep, met ≤ 1024 → bs.length ≤ met → (qthr t met bs deep).1 ≤ 1024 ∧ (qthr t met bs deep).2.1.length ≤ (qthr t met bs deep).1 := by
  have key : ∀ l : List QT, (∀ t ∈ l, t.Good → ∀ met bs deep, met ≤ 1024 → bs.length ≤ met → (qthr t met bs deep).1 ≤ 1024 ∧ (qthr t met bs deep).2.1.length ≤ (qthr t met bs deep).1) → QGoods l → ∀ met bs deep, met ≤ 1024 → bs.length ≤ met → (qthrs l met bs deep).1 ≤ 1024 ∧ (qthrs l met bs deep).2.1.length ≤ (qthrs l met bs deep).1 := by
    intro l
    induction l with
    | nil => intro _ _ met bs deep h1 h2; rw [qthrs_nil]; exact ⟨h1, h2⟩
    | cons t l ih =>
      intro hh hg met bs deep h1 h2
      obtain ⟨a, b⟩ := hh t (by simp) hg.1 met bs deep h1 h2
      rw [qthrs_cons]
      split
      · exact ih (fun u hu => hh u (by simp [hu])) hg.2 _ _ deep a b
      · exact ⟨a, b⟩
  refine QT.ind (P := fun t => t.Good → ∀ met bs deep, met ≤ 1024 → bs.length ≤ met → (qthr t met bs deep).1 ≤ 1024 ∧ (qthr t met bs deep).2.1.length ≤ (qthr t met bs deep).1) (fun t ht hg met bs deep h1 h2 => ?_) (fun k l r ih ih2 hg met bs deep h1 h2 => ?_) t
  · cases t with
    | seq k l r => exact absurd rfl (ht _ _ _)
    | var n =>
      simp only [qthr]
      split
      · exact ⟨h1, h2⟩
      · split
        · exact ⟨h1, h2⟩
        · exact ⟨by simp only; omega, by simp; omega⟩
    | zero => exact hg.elim
    | _ =>
      simp only [qthr]
      split
      · exact ⟨h1, h2⟩
      · exact ⟨by simp only; omega, by simp only; omega⟩
  · rw [qthr_seq]
    split
    · exact ⟨h1, h2⟩
    · obtain ⟨a, b⟩ := key l ih hg.2.1 (met + 1) bs (deep + 1) (by omega) (by omega)
      split
      · exact key r ih2 hg.2.2 _ _ (deep + 1) a b
      · exact ⟨a, b⟩
theorem qthrs_len (l : List QT) (hg : QGoods l) : ∀ met bs deep, met ≤ 1024 → bs.length ≤ met → (qthrs l met bs deep).1 ≤ 1024 ∧ (qthrs l met bs deep).2.1.length ≤ (qthrs l met bs deep).1 := by
  induction l with
  | nil => intro met bs deep h1 h2; rw [qthrs_nil]; exact ⟨h1, h2⟩
  | cons t l ih =>
    intro met bs deep h1 h2
    obtain ⟨a, b⟩ := qthr_len t hg.1 met bs deep h1 h2
    rw [qthrs_cons]
    split
    · exact ih hg.2 _ _ deep a b
    · exact ⟨a, b⟩
end Go.Proofs.YtlilfmpikampgaaGreatDoor

namespace Go.Proofs.YtlilfmpikampgaaGreatDoor
open Go.RowKit

def QARel (w : World) (l : List QT) (met : Nat) (bs : List Int) (deep wb : Nat) (bv : Value) (v : Value) (wr : World) : Prop :=
  ∃ (j m : Nat) (bs' : List Int) (bv' : Value), v = .int .i64 j ∧ j ≤ l.length ∧ m ≤ 1024 ∧ bs'.length ≤ m ∧ qthrs (l.drop j) m bs' deep = qthrs l met bs deep ∧ WH wr wb m bs' bv' ∧ Turns wb bv w wr bv'
theorem ThrE.mk {w w' : World} {wb : Nat} {bv bv' : Value} {q : Nat × List Int × Int} {r : Int} (hr : q.2.2 = r) (h1 : Turns wb bv w w' bv') (h2 : r = 0 → WH w' wb q.1 q.2.1 bv') : ThrE w wb bv q (.returned (.int .i64 r)) w' := ⟨by rw [hr], bv', h1, fun e => h2 (hr ▸ e)⟩
theorem qcs_eleven {t : QT} {sl sr : Value} {w : World} {g o : Nat} (h : ∀ q u, (t.cs sl sr)[q]? = some u → w.cell? ⟨g, o + q, none⟩ = some u) :
    w.cell? ⟨g, o, none⟩ = some (.int .i64 t.k) ∧ w.cell? ⟨g, o + 1, none⟩ = some (.int .i64 t.n) ∧ w.cell? ⟨g, o + 2, none⟩ = some (.int .i64 t.t.k) ∧ w.cell? ⟨g, o + 3, none⟩ = some (.int .i64 t.t.n) ∧ w.cell? ⟨g, o + 4, none⟩ = some (.complex .f64 t.t.x t.t.y) ∧ w.cell? ⟨g, o + 5, none⟩ = some (.string t.t.S) ∧
      w.cell? ⟨g, o + 6, none⟩ = some (.int .i64 t.t.a) ∧ w.cell? ⟨g, o + 7, none⟩ = some (.int .i64 t.t.b) ∧ w.cell? ⟨g, o + 8, none⟩ = some (.slice none 0 0) ∧ w.cell? ⟨g, o + 9, none⟩ = some sl ∧ w.cell? ⟨g, o + 10, none⟩ = some sr :=
  ⟨h 0 _ rfl, h 1 _ rfl, h 2 _ rfl, h 3 _ rfl, h 4 _ rfl, h 5 _ rfl, h 6 _ rfl, h 7 _ rfl, h 8 _ rfl, h 9 _ rfl, h 10 _ rfl⟩
set_option maxRecDepth 20000 in
set_option maxHeartbeats 8000000 in
theorem thrAll_any (l : List QT) (hg : QGoods l) (ih : ∀ u ∈ l, QThrOk u) : QThrAll l := by
  intro sl F met bs deep wb bv w ht hoff hk hgw hw hbm hm hd
  have rs := store_com
  obtain ⟨A, cap, rfl, hlc, hcap, hrows⟩ := ht
  have HR := Lib.hid hrows
  have HO := Lib.hid hoff
  have HK := Lib.hid hk
  have HW := Lib.hid hw
  have IH := Lib.hid ih
  have HG := Lib.hid hg
  clear hrows hoff hk hw ih hg
  go_enter Tryz.func37, Tryz.ntmps37
  go_wp2_with fail
  go_loopw [12] (fun v wr => QARel w l met bs deep wb bv v wr) (fun v _ => l.length - (intOf v).toNat)
  case atStart => exact ⟨0, met, bs, bv, rfl, Nat.zero_le _, hm, hbm, rfl, HW.out, Turns.of0 (Only.refl _ _)⟩
  case round =>
    obtain ⟨j, m, bs', bv', rfl, hj, hm2, hbm2, hq, hw2, ho2⟩ := hrel
    have HW2 := Lib.hid hw2
    have HO2 := Lib.hid ho2
    have HQ := Lib.hid hq
    clear hw2 ho2 hq
    by_cases hjl : j < l.length
    · rcases HR.out with h0 | ⟨bl, off, rfl, hbl, hFb, hvs⟩
      · rw [h0] at hjl; simp at hjl
      · obtain ⟨sl', sr', htv, hcs⟩ := (QVs.iff.1 hvs) j (l[j]'hjl) (List.getElem?_eq_getElem hjl)
        obtain ⟨A', n', c', B', n2, c2, rfl, rfl⟩ := htv.slices
        obtain ⟨hf1, hf2, hf3⟩ := HO.out bl hFb
        have hcs2 : ∀ q u, ((l[j]'hjl).cs (.slice A' n' c') (.slice B' n2 c2))[q]? = some u → wr.cell? ⟨bl, off + j * 11 + q, none⟩ = some u := fun q u hu => (HO2.out.cell (p := ⟨bl, off + j * 11 + q, none⟩) hbl hf2 hf3).trans (by rw [Nat.mul_comm j 11]; exact hcs q u hu)
        obtain ⟨r0, r1, r2, r3, r4, r5, r6, r7, r8, r9, r10⟩ := qcs_eleven hcs2
        have HTV := Lib.hid (HO.out.qv HO2.out htv)
        have HI := Lib.hid (IH.out _ (List.getElem_mem hjl))
        have HGd := Lib.hid ((QGoods.iff.1 HG.out) _ (List.getElem_mem hjl))
        clear hcs hcs2 htv hvs
        have HD := Lib.hid (show l.drop j = l[j]'hjl :: l.drop (j + 1) from List.drop_eq_getElem_cons hjl)
        generalize l[j]'hjl = u at HD HI HTV HGd r0 r1 r2 r3 r4 r5 r6 r7 r8 r9 r10
        have hq2 := HQ.out
        rw [HD.out, qthrs_cons] at hq2
        have HQ2 := Lib.hid hq2
        clear hq2
        have hln := qthr_len u HGd.out m bs' deep hm2 hbm2
        obtain ⟨q, hqq⟩ : ∃ q, qthr u m bs' deep = q := ⟨_, rfl⟩
        rw [hqq] at HQ2 hln
        have HQQ := Lib.hid hqq
        clear hqq
        go_wp2_with fail
        (with_reducible refine (HI.out.use (deep := deep) (D := (deep : Int)) (HTV.out.same ((Only.refl [] wr).alloc _)) ((HO.out.turns HO2.out).turns (Turns.of0 ((Only.refl [] wr).alloc _))) ((HK.out.turns hgw HW.out HO2.out).only (Nat.lt_trans hgw HW2.out.b.lt) ((Only.refl [] wr).alloc _) (by simp)) hgw (HW2.out.same ((Only.refl [] wr).alloc _)) hbm2 hm2 hd rfl HQQ.out).mono ?_)
        rintro e w2 ⟨rfl, bv2, o2, hw3⟩
        have HW3 := Lib.hid hw3
        have HO3 := Lib.hid ((HO2.out.trans (Turns.of0 ((Only.refl [] wr).alloc (.cells (pcs u.k u.n u.t (.slice A' n' c') (.slice B' n2 c2)) 30)))).trans o2)
        clear o2 hw3
        obtain ⟨r, hr⟩ : ∃ r, q.2.2 = r := ⟨_, rfl⟩
        have HRr := Lib.hid hr
        rw [hr] at HW3 HQ2 ⊢
        clear hr
        by_cases hz : r = 0
        · subst hz
          have HN := Lib.hid (show QARel w l met bs deep wb bv (.int .i64 ((j : Int) + 1)) w2 from ⟨j + 1, q.1, q.2.1, bv2, by go_num, by omega, hln.1, hln.2, by rw [← HQ2.out, if_pos rfl], HW3.out rfl, HO3.out⟩)
          go_wp2_with fail
          go_roundw
          case rel => exact HN.out
          case measure => simp [intOf]; omega
        · have hne : (r != 0) = true := by simpa using hz
          have HE := Lib.hid (show ThrE w wb bv (qthrs l met bs deep) (.returned (.int .i64 r)) w2 from ThrE.mk (by rw [← HQ2.out, if_neg hz]; exact HRr.out) HO3.out (fun e => absurd e hz))
          clear hz
          go_wp2_with fail
          go_ret
          exact HE.out
    · have hje : j = l.length := by omega
      subst hje
      have hq3 := HQ.out
      rw [List.drop_length, qthrs_nil] at hq3
      have HE := Lib.hid (show ThrE w wb bv (qthrs l met bs deep) (.returned (.int .i64 0)) wr from ThrE.mk (by rw [← hq3]) HO2.out (fun _ => by rw [← hq3]; exact HW2.out))
      clear hj hq3
      go_wp2_with fail
      go_ret
      exact HE.out
end Go.Proofs.YtlilfmpikampgaaGreatDoor

namespace Go.Proofs.YtlilfmpikampgaaGreatDoor
open Go.RowKit

theorem WH.ne {w : World} {wb met : Nat} {bs : List Int} {bv : Value} (h : WH w wb met bs bv) : bv.ownBlock ≠ some wb := by
  intro e
  rcases h.r.2 with ⟨hv, _⟩ | ⟨g, cap, cur, hv, hb, hg, _⟩
  · rw [hv] at e; cases e
  · rw [hv] at e
    injection e with e
    subst e
    have hg2 : Bk w g 3 cur := hg
    exact absurd (Bk.uniq h.b hg2).1 (by decide)
theorem WH.row {w w' : World} {wb met : Nat} {bs : List Int} {bv : Value} (h : WH w wb met bs bv) (o : Only [wb] w w') : w'.ownsRow wb 3 1 bv bs.length (bs.map fun z => Value.int .i64 z) :=
  Row.only h.r o fun b hb hm => h.ne (by rw [← List.mem_singleton.1 hm]; exact hb)
theorem WH.met {w : World} {wb met : Nat} {bs : List Int} {bv : Value} (h : WH w wb met bs bv) : WH (w.setCell ⟨wb, 1, none⟩ (.int .i64 ((met : Int) + 1))) wb (met + 1) bs bv ∧ Turns wb bv w (w.setCell ⟨wb, 1, none⟩ (.int .i64 ((met : Int) + 1))) bv := by
  have o1 : Only [wb] w (w.setCell ⟨wb, 1, none⟩ (.int .i64 ((met : Int) + 1))) := (Only.refl [wb] w).set (.inl (by simp)) _
  exact ⟨⟨h.b.set 1 (.int .i64 ((met + 1 : Nat) : Int)), h.row o1⟩, ⟨o1.more (by simp), fun _ h => .inl h⟩⟩
set_option maxRecDepth 20000 in
set_option maxHeartbeats 4000000 in
theorem thr_full (k n : Int) (tt : T) (sl sr : Value) (met : Nat) (bs : List Int) (deep wb : Nat) (bv : Value) (w : World) (hw : WH w wb met bs bv) (hm : met ≤ 1024) (hd : deep ≤ 64) (hc : 1024 ≤ met ∨ 64 ≤ deep) :
    Calls Tryz.prog 22 #[.pointer (some ⟨wb, 0, none⟩), .agg (pcs k n tt sl sr), .int .i64 deep] w fun e w' => ThrE w wb bv (met, bs, 34) e w' := by
  have c1 : ∀ o, (w.alloc o).cell? ⟨wb, 1, none⟩ = some (.int .i64 met) := fun o => (hw.b.alloc o).cell0 rfl
  have HE := Lib.hid (show ThrE w wb bv (met, bs, 34) (.returned (.int .i64 34)) (w.alloc (.cells (pcs k n tt sl sr) 30)) from ThrE.mk rfl (Turns.of0 ((Only.refl [] w).alloc _)) (fun e => by cases e))
  clear hw
  by_cases h1 : met = 1024
  · subst h1
    go_enter Tryz.func22, Tryz.ntmps22
    go_wp2_with fail
    go_ret
    exact HE.out
  · have h2 : deep = 64 := by omega
    have h1' : ((met : Int) == 1024) = false := by simp; omega
    clear hc h1
    subst h2
    go_enter Tryz.func22, Tryz.ntmps22
    go_wp2_with fail
    go_ret
    exact HE.out
set_option maxRecDepth 20000 in
set_option maxHeartbeats 4000000 in
theorem thr_no (k n : Int) (tt : T) (sl sr : Value) (met : Nat) (bs : List Int) (deep wb : Nat) (bv : Value) (w : World) (hw : WH w wb met bs bv) (hm : met < 1024) (hd : deep < 64)
    (hM : ∀ w1, Only [] w w1 → Calls Tryz.prog 36 #[.pointer (some ⟨wb, 0, none⟩), .agg (pcs k n tt sl sr)] w1 fun e w' => e = .returned (.bool false) ∧ Only [] w1 w') :
    Calls Tryz.prog 22 #[.pointer (some ⟨wb, 0, none⟩), .agg (pcs k n tt sl sr), .int .i64 deep] w fun e w' => ThrE w wb bv (met, bs, 50) e w' := by
  have rs := store_com
  have c1 : ∀ o, (w.alloc o).cell? ⟨wb, 1, none⟩ = some (.int .i64 met) := fun o => (hw.b.alloc o).cell0 rfl
  have h1 : ((met : Int) == 1024) = false := by simp; omega
  have h2 : ((deep : Int) == 64) = false := by simp; omega
  have HM := Lib.hid hM
  have O0 := Lib.hid ((Only.refl [] w).alloc (.cells (pcs k n tt sl sr) 30))
  clear hw hM
  go_enter Tryz.func22, Tryz.ntmps22
  go_wp2_with fail
  (with_reducible refine (HM.out _ O0.out).mono ?_)
  rintro e w1 ⟨rfl, o1⟩
  have HE := Lib.hid (show ThrE w wb bv (met, bs, 50) (.returned (.int .i64 50)) w1 from ThrE.mk rfl (Turns.of0 (O0.out.trans o1 (by simp))) (fun e => by cases e))
  clear o1
  go_wp2_with fail
  go_ret
  exact HE.out
set_option maxRecDepth 20000 in
set_option maxHeartbeats 8000000 in
theorem thr_go (k n : Int) (tt : T) (A B : Option Addr) (m c m' c' : Nat) (l r : List QT) (F : Nat → Prop) (met : Nat) (bs : List Int) (deep wb : Nat) (bv : Value) (q : Nat × List Int × Int) (w : World) (hk2 : k ≠ 2)
    (hM : ∀ w1, Only [] w w1 → Calls Tryz.prog 36 #[.pointer (some ⟨wb, 0, none⟩), .agg (pcs k n tt (.slice A m c) (.slice B m' c'))] w1 fun e w' => e = .returned (.bool true) ∧ Only [] w1 w')
    (hl : QL w F l (.slice A m c)) (hr : QL w F r (.slice B m' c')) (hL : QThrAll l) (hR : QThrAll r) (hgl : QGoods l) (hoff : Off w wb bv F) (hk : KN w) (hgw : 0 < wb) (hw : WH w wb met bs bv) (hbm : bs.length ≤ met) (hm : met < 1024) (hd : deep < 64)
    (hq : (if (qthrs l (met + 1) bs (deep + 1)).2.2 = 0 then qthrs r (qthrs l (met + 1) bs (deep + 1)).1 (qthrs l (met + 1) bs (deep + 1)).2.1 (deep + 1) else qthrs l (met + 1) bs (deep + 1)) = q) :
    Calls Tryz.prog 22 #[.pointer (some ⟨wb, 0, none⟩), .agg (pcs k n tt (.slice A m c) (.slice B m' c')), .int .i64 deep] w fun e w' => ThrE w wb bv q e w' := by
  have rs := store_com
  have c1 : ∀ o, (w.alloc o).cell? ⟨wb, 1, none⟩ = some (.int .i64 met) := fun o => (hw.b.alloc o).cell0 rfl
  have h1 : ((met : Int) == 1024) = false := by simp; omega
  have h2 : ((deep : Int) == 64) = false := by simp; omega
  have h3 : (k == 2) = false := by simpa using hk2
  have h4 : IntKind.i64.wrap ((met : Int) + 1) = (met : Int) + 1 := IntWalk.i64_in _ (by omega)
  have h5 : IntKind.i64.wrap ((deep : Int) + 1) = (deep : Int) + 1 := IntWalk.i64_in _ (by omega)
  have hlt := hw.b.lt
  have hrl : bv.ownBlock ≠ some w.heap.size := fun e => by have := (Row.block hw.r e).2; omega
  have hne : w.heap.size ≠ wb := by omega
  have HM := Lib.hid hM
  have HW := Lib.hid hw
  have HL := Lib.hid hL
  have HR := Lib.hid hR
  have Hl := Lib.hid hl
  have Hr := Lib.hid hr
  have HK := Lib.hid hk
  have HF := Lib.hid hoff
  have O0 := Lib.hid ((Only.refl [] w).alloc (.cells (pcs k n tt (.slice A m c) (.slice B m' c')) 30))
  have B0 := Lib.hid (Bk.made w 30 (pcs k n tt (.slice A m c) (.slice B m' c')))
  have hln := qthrs_len l hgl (met + 1) bs (deep + 1) (by omega) (by omega)
  obtain ⟨q1, hq1⟩ : ∃ q1, qthrs l (met + 1) bs (deep + 1) = q1 := ⟨_, rfl⟩
  rw [hq1] at hq hln
  have HQ1 := Lib.hid hq1
  have HQ := Lib.hid hq
  have HRL := Lib.hid hrl
  clear hw hM hL hR hl hr hk hoff hk2 hq1 hq hgl hrl
  go_enter Tryz.func22, Tryz.ntmps22
  go_wp2_with fail
  (with_reducible refine (HM.out _ O0.out).mono ?_)
  rintro e w1 ⟨rfl, o1⟩
  have O1 := Lib.hid (O0.out.trans o1 (by simp))
  have W1 := Lib.hid (HW.out.same O1.out)
  have B1 := Lib.hid (B0.out.only o1 (by simp))
  have d1 := W1.out.b.cell0 (i := 1) rfl
  have f1 := W1.out.b.free 1
  have k0 : ∀ v, (w1.setCell ⟨wb, 1, none⟩ v).cell? ⟨w.heap.size, 0, none⟩ = some (.int .i64 k) := fun v => (B1.out.away (p := ⟨wb, 1, none⟩) hne v).cell0 rfl
  have k9 : ∀ v, (w1.setCell ⟨wb, 1, none⟩ v).cell? ⟨w.heap.size, 9, none⟩ = some (.slice A m c) := fun v => (B1.out.away (p := ⟨wb, 1, none⟩) hne v).cell0 rfl
  have T1 := Lib.hid ((Turns.of0 (wb := wb) (bv := bv) O1.out).trans W1.out.met.2)
  have M1 := Lib.hid W1.out.met.1
  clear o1 c1
  go_wp2_with fail
  (with_reducible refine (HL.out.use (deep := deep + 1) (HF.out.ql T1.out Hl.out) (HF.out.turns T1.out) (HK.out.turns hgw HW.out T1.out) hgw M1.out (by omega) (by omega) (by omega) (by omega) HQ1.out).mono ?_)
  rintro e w3 ⟨rfl, bv3, t3, hw3⟩
  have T3 := Lib.hid (T1.out.trans t3)
  have W3 := Lib.hid hw3
  have B3 := Lib.hid (t3.bk (B1.out.away (p := ⟨wb, 1, none⟩) hne _) hne HRL.out)
  have k10 := B3.out.cell0 (i := 10) rfl
  clear t3 hw3 k0 k9 d1 f1
  obtain ⟨e1, he1⟩ : ∃ e1, q1.2.2 = e1 := ⟨_, rfl⟩
  have HE1 := Lib.hid he1
  rw [he1] at W3 HQ ⊢
  clear he1
  by_cases hz : e1 = 0
  · subst hz
    have hq3 := HQ.out
    rw [if_pos rfl] at hq3
    have HQ3 := Lib.hid hq3
    clear hq3
    go_wp2_with fail
    (with_reducible refine (HR.out.use (deep := deep + 1) (HF.out.ql T3.out Hr.out) (HF.out.turns T3.out) (HK.out.turns hgw HW.out T3.out) hgw (W3.out trivial) hln.2 hln.1 (by omega) (by omega) HQ3.out).mono ?_)
    rintro e w4 ⟨rfl, bv4, t4, hw4⟩
    have HE := Lib.hid (show ThrE w wb bv q (.returned (.int .i64 q.2.2)) w4 from ThrE.mk rfl (T3.out.trans t4) hw4)
    clear t4 hw4
    go_wp2_with fail
    go_ret
    exact HE.out
  · have hne2 : (e1 != 0) = true := by simpa using hz
    have hq3 := HQ.out
    rw [if_neg hz] at hq3
    have HE := Lib.hid (show ThrE w wb bv q (.returned (.int .i64 e1)) w3 from ThrE.mk (by rw [← hq3]; exact HE1.out) T3.out (fun e => absurd e hz))
    clear hz hq3
    go_wp2_with fail
    go_ret
    exact HE.out
end Go.Proofs.YtlilfmpikampgaaGreatDoor

namespace Go.Proofs.YtlilfmpikampgaaGreatDoor
open Go.RowKit

theorem app_wh {W w2 : World} {wb g : Nat} {bv : Value} {cs : Array Value} (h : Bk W wb 60 cs) (hne : bv.ownBlock ≠ some wb) (hgrow : W.grownBy w2 bv.ownBlock) (hat : bv.ownBlock = some g ∨ g = W.heap.size) :
    Bk w2 wb 60 cs ∧ wb ≠ g ∧ Only bv.ownBlock.toList W w2 := by
  have o1 := Only.of_grown hgrow
  have hl := h.lt
  refine ⟨h.only o1 (by simpa using hne), ?_, o1⟩
  rintro rfl
  rcases hat with h1 | h1
  · exact hne h1
  · omega
theorem app_end {w W w2 : World} {wb met g cap' : Nat} {n : Int} {bs : List Int} {bv : Value} (h : Bk w2 wb 60 #[.int .i64 32, .int .i64 (met : Nat), bv]) (hne : wb ≠ g) (hT : Turns wb bv w W bv) (o2 : Only bv.ownBlock.toList W w2) (hat : bv.ownBlock = some g ∨ W.heap.size ≤ g)
    (hown : w2.ownsRow wb 3 1 (.slice (some ⟨g, 0, none⟩) (bs.length + 1) cap') (bs.length + 1) ((bs.map fun z => Value.int .i64 z) ++ [.int .i64 n])) :
    WH (w2.setCell ⟨wb, 2, none⟩ (.slice (some ⟨g, 0, none⟩) (bs.length + 1) cap')) wb met (bs ++ [n]) (.slice (some ⟨g, 0, none⟩) (bs.length + 1) cap') ∧ Turns wb bv w (w2.setCell ⟨wb, 2, none⟩ (.slice (some ⟨g, 0, none⟩) (bs.length + 1) cap')) (.slice (some ⟨g, 0, none⟩) (bs.length + 1) cap') := by
  have o3 : Only [wb] w2 (w2.setCell ⟨wb, 2, none⟩ (.slice (some ⟨g, 0, none⟩) (bs.length + 1) cap')) := (Only.refl [wb] w2).set (.inl (by simp)) _
  refine ⟨⟨h.set 2 _, ?_⟩, (hT.o.trans (o2.more (T := wb :: bv.ownBlock.toList) (by intro k hk; exact .inl (List.mem_cons_of_mem _ hk))) (fun i hi => .inl hi)).trans (o3.more (T := wb :: bv.ownBlock.toList) (by simp)) (fun i hi => .inl hi), fun g' hg' => ?_⟩
  · have := Row.only hown o3 fun b hb hm => by
      injection hb with hb
      rw [List.mem_singleton.1 hm] at hb
      exact hne hb.symm
    simp only [List.length_append, List.length_singleton, List.map_append, List.map_cons, List.map_nil]
    exact this
  · injection hg' with hg'
    subst hg'
    rcases hat with h1 | h1
    · exact .inl h1
    · exact .inr (Nat.le_trans hT.o.size h1)
theorem qint_info : (Tryz.prog.info? 3).map (fun i => (i.zero, i.size, i.bytes)) = some (some (.int .i64 0), 1, 8) := by kernel_rfl
abbrev vcs (n : Int) : Array Value := #[.int .i64 2, .int .i64 n, .int .i64 0, .int .i64 0, .complex .f64 0 0, .string ⟨#[]⟩, .int .i64 0, .int .i64 0, .slice none 0 0, .slice none 0 0, .slice none 0 0]
theorem off_none (w : World) (wb : Nat) (bv : Value) : Off w wb bv (fun _ => False) := fun _ h => h.elim
theorem all_nil : QThrAll [] := thrAll_any [] trivial (by simp)
set_option maxRecDepth 20000 in
set_option maxHeartbeats 8000000 in
theorem thr_var (n : Int) (met : Nat) (bs : List Int) (deep wb : Nat) (bv : Value) (w : World) (h0 : 0 ≤ n) (h32 : n < 32) (hn : n ∉ bs) (hk : KN w) (hgw : 0 < wb) (hw : WH w wb met bs bv) (hbm : bs.length ≤ met) (hm : met < 1024) (hd : deep < 64) :
    Calls Tryz.prog 22 #[.pointer (some ⟨wb, 0, none⟩), .agg (vcs n), .int .i64 deep] w fun e w' => ThrE w wb bv (met + 1, bs ++ [n], 0) e w' := by
  have rs := store_com
  obtain ⟨A, cap, rfl, hlies⟩ := hw.slice
  have HM := Lib.hid (fun w1 (o1 : Only [] w w1) => qmay_var wb met n A cap bs false w1 ((hw.same o1).b) (hlies.same o1) (by omega) h0 h32 (by simpa using hn))
  simp only [Bool.not_false] at HM
  have c1 : ∀ o, (w.alloc o).cell? ⟨wb, 1, none⟩ = some (.int .i64 met) := fun o => (hw.b.alloc o).cell0 rfl
  have h1 : ((met : Int) == 1024) = false := by simp; omega
  have h2 : ((deep : Int) == 64) = false := by simp; omega
  have h4 : IntKind.i64.wrap ((met : Int) + 1) = (met : Int) + 1 := IntWalk.i64_in _ (by omega)
  have h5 : IntKind.i64.wrap ((deep : Int) + 1) = (deep : Int) + 1 := IntWalk.i64_in _ (by omega)
  have hlt := hw.b.lt
  have hrl : (Value.slice A bs.length cap).ownBlock ≠ some w.heap.size := fun e => by have := (Row.block hw.r e).2; omega
  have hne : w.heap.size ≠ wb := by omega
  have HW := Lib.hid hw
  have HK := Lib.hid hk
  have HRL := Lib.hid hrl
  have O0 := Lib.hid ((Only.refl [] w).alloc (.cells (vcs n) 30))
  have B0 := Lib.hid (Bk.made w 30 (vcs n))
  have h63 : bs.length + 1 ≤ maxLen := by unfold maxLen; omega
  obtain ⟨i, hi, hz, hz1, hz2⟩ := qinfo qint_info
  clear hw hlies hk hn hrl h0 h32
  go_enter Tryz.func22, Tryz.ntmps22
  go_wp2_with fail
  (with_reducible refine (HM.out _ O0.out).mono ?_)
  rintro e w1 ⟨rfl, o1⟩
  have O1 := Lib.hid (O0.out.trans o1 (by simp))
  have W1 := Lib.hid (HW.out.same O1.out)
  have B1 := Lib.hid (B0.out.only o1 (by simp))
  have d1 := W1.out.b.cell0 (i := 1) rfl
  have f1 := W1.out.b.free 1
  obtain ⟨W5, hW5⟩ : ∃ W5, W5 = w1.setCell ⟨wb, 1, none⟩ (.int .i64 ((met : Int) + 1)) := ⟨_, rfl⟩
  have T5 := Lib.hid (show Turns wb (.slice A bs.length cap) w W5 (.slice A bs.length cap) from hW5 ▸ (Turns.of0 O1.out).trans W1.out.met.2)
  have M5 := Lib.hid (show WH W5 wb (met + 1) bs (.slice A bs.length cap) from hW5 ▸ W1.out.met.1)
  have B5 := Lib.hid (show Bk W5 w.heap.size 30 (vcs n) from hW5 ▸ B1.out.away (p := ⟨wb, 1, none⟩) hne _)
  clear o1 c1
  have k0 : (w1.setCell ⟨wb, 1, none⟩ (.int .i64 ((met : Int) + 1))).cell? ⟨w.heap.size, 0, none⟩ = some (.int .i64 2) := hW5 ▸ B5.out.cell0 rfl
  go_wp2_with fail
  rw [← hW5] at k0 ⊢
  clear hW5 d1 f1 k0
  have e1 := B5.out.cell0 (i := 1) rfl
  have e2 := M5.out.b.cell0 (i := 2) rfl
  have e1a : ∀ o, (W5.alloc o).cell? ⟨w.heap.size, 1, none⟩ = some (.int .i64 n) := fun o => (B5.out.alloc o).cell0 rfl
  have e2a : ∀ o, (W5.alloc o).cell? ⟨wb, 2, none⟩ = some (.slice A bs.length cap) := fun o => (M5.out.b.alloc o).cell0 rfl
  have hbz : ∀ o, wb ≤ (W5.alloc o).heap.size := fun o => by have := M5.out.b.lt; simp; omega
  have R5 : ∀ o, (W5.alloc o).ownsRow wb 3 1 (.slice A bs.length cap) bs.length (bs.map fun z => Value.int .i64 z) := fun o => Row.alloc M5.out.r o
  go_region_law ((refine step_append_lies _ (by rfl) _ _ _ (by rfl) wb 3 i _ 1 8 Tryz.underlying58 hi hz hz1 hz2 rfl (by omega) _ bs.length (bs.map fun z => Value.int .i64 z) (by rfl) (Row.drew (R5 _)) _ 1 1 [.int .i64 n] (by rfl) rfl (World.news_of_block (Bk.madeAt (w := W5) (b := W5.heap.size) rfl)) (by simp [Value.oneCell']) (by omega) h63 (by omega) (hbz _) _ rfl ?_; intro g cap' w2 hown hgrow hat hlt2; obtain ⟨a1, a2, a3⟩ := app_wh (M5.out.b.alloc _).drew M5.out.ne hgrow hat; have x2 := a1.cell0 (i := 2) rfl; have xf := a1.free 2; have A1 := Lib.hid a1; have A3 := Lib.hid a3; have HO := Lib.hid hown; have HAT := Lib.hid hat; clear a1 a3 hown hgrow hat))
  all_goals
    have hB5 := B5.out.lt
    have hat2 : (Value.slice A bs.length cap).ownBlock = some g ∨ W5.heap.size ≤ g := HAT.out.imp id (fun h => by rw [h]; simp)
    obtain ⟨w9, t9⟩ := app_end A1.out a2 T5.out ((((Only.refl [] W5).alloc _).drew.more (by simp)).trans A3.out (fun i hi => .inl hi)) hat2 HO.out
    have hgx : (Value.slice (some ⟨g, 0, none⟩) (bs.length + 1) cap').ownBlock ≠ some w.heap.size := fun e => by
      have e : g = w.heap.size := Option.some.inj e
      rcases hat2 with h | h
      · exact HRL.out (by rw [h, e])
      · omega
    have B9 := Lib.hid (((B5.out.alloc _).drew.only A3.out (by simpa using HRL.out)).away (p := ⟨wb, 2, none⟩) hne (.slice (some ⟨g, 0, none⟩) (bs.length + 1) cap'))
    have k9 := B9.out.cell0 (i := 9) rfl
    have W9 := Lib.hid w9
    have T9 := Lib.hid t9
    have K9 := Lib.hid (HK.out.turns hgw HW.out t9)
    have hlen : (bs ++ [n]).length ≤ met + 1 := by simp; omega
    clear w9 t9 hat2 A1 A3 HO HAT x2 xf e1 e2 e1a e2a R5 hbz
    go_wp2_with fail
    (with_reducible refine (all_nil.use (F := fun _ => False) (deep := deep + 1) (QL.nil _ _) (off_none _ _ _) K9.out hgw W9.out hlen (by omega) (by omega) (by omega) (qthrs_nil _ _ _)).mono ?_)
    rintro e w3 ⟨rfl, bv3, t3, hw3⟩
    have W3 := Lib.hid (hw3 rfl)
    have T3 := Lib.hid (T9.out.trans t3)
    have K3 := Lib.hid (HK.out.turns hgw HW.out (T9.out.trans t3))
    have B3 := Lib.hid (t3.bk B9.out hne hgx)
    have k10 := B3.out.cell0 (i := 10) rfl
    clear t3 hw3 k9
    go_wp2_with fail
    (with_reducible refine (all_nil.use (F := fun _ => False) (deep := deep + 1) (QL.nil _ _) (off_none _ _ _) K3.out hgw W3.out hlen (by omega) (by omega) (by omega) (qthrs_nil _ _ _)).mono ?_)
    rintro e w4 ⟨rfl, bv4, t4, hw4⟩
    have HE := Lib.hid (show ThrE w wb (.slice A bs.length cap) (met + 1, bs ++ [n], 0) (.returned (.int .i64 0)) w4 from ThrE.mk rfl (T3.out.trans t4) hw4)
    clear t4 hw4
    go_wp2_with fail
    go_ret
    exact HE.out
end Go.Proofs.YtlilfmpikampgaaGreatDoor

namespace Go.Proofs.YtlilfmpikampgaaGreatDoor
open Go.RowKit

theorem qthr_full (t : QT) {met : Nat} {bs : List Int} {deep : Nat} (h : 1024 ≤ met ∨ 64 ≤ deep) : qthr t met bs deep = (met, bs, 34) := by
  cases t <;> simp only [qthr] <;> rw [if_pos h]
theorem good_kinds {t : T} (hl : ∀ k l, t ≠ .tup k l) (ho : okT t = true) : t.k ≠ 0 ∧ t.k ≠ 8 ∧ t.k ≠ 9 := by
  cases t with
  | tup k l => exact absurd rfl (hl k l)
  | zero => simp [okT] at ho
  | _ => simp [T.k]
theorem qthr_any (t : QT) (hg : t.Good) : QThrOk t := by
  revert hg
  refine QT.ind (P := fun t => t.Good → QThrOk t) (fun t ht hg => ?_) (fun k l r ih ih2 hg => ?_) t
  · intro sl sr F met bs deep wb bv w hq hoff hk hgw hw hbm hm hd
    by_cases hc : 1024 ≤ met ∨ 64 ≤ deep
    · rw [qthr_full t hc]
      exact thr_full t.k t.n t.t sl sr met bs deep wb bv w hw hm hd hc
    · obtain ⟨rfl, rfl⟩ := (QV.leaf ht).1 hq
      have hm1 : met < 1024 := by omega
      have hd1 : deep < 64 := by omega
      cases t with
      | seq k l r => exact absurd rfl (ht _ _ _)
      | zero => exact hg.elim
      | any =>
        rw [show qthr .any met bs deep = (met + 1, bs, 0) by simp only [qthr]; rw [if_neg hc]]
        exact thr_go 1 0 .zero none none 0 0 0 0 [] [] (fun _ => False) met bs deep wb bv _ w (by decide) (fun w1 o1 => qmay_any wb w1) (QL.nil _ _) (QL.nil _ _) all_nil all_nil trivial (off_none _ _ _) hk hgw hw hbm hm1 hd1 (by simp [qthrs_nil])
      | kind n =>
        rw [show qthr (.kind n) met bs deep = (met + 1, bs, 0) by simp only [qthr]; rw [if_neg hc]]
        exact thr_go 4 n .zero none none 0 0 0 0 [] [] (fun _ => False) met bs deep wb bv _ w (by decide) (fun w1 o1 => qmay_kind wb n w1 hg (hk.only (Nat.lt_trans hgw hw.b.lt) o1 (by simp)) (Nat.lt_of_lt_of_le (Nat.lt_trans hgw hw.b.lt) o1.size)) (QL.nil _ _) (QL.nil _ _) all_nil all_nil trivial (off_none _ _ _) hk hgw hw hbm hm1 hd1 (by simp [qthrs_nil])
      | term u =>
        obtain ⟨h1, h2, h3⟩ := hg
        obtain ⟨k0, k8, k9⟩ := good_kinds h1 h3
        rw [show qthr (.term u) met bs deep = (met + 1, bs, 0) by simp only [qthr]; rw [if_neg hc]]
        exact thr_go 3 0 u none none 0 0 0 0 [] [] (fun _ => False) met bs deep wb bv _ w (by decide) (fun w1 o1 => qmay_term wb u w1 h2 h1 k0 k8 k9 (by rw [chk_leaf h1 h2, if_pos h3])) (QL.nil _ _) (QL.nil _ _) all_nil all_nil trivial (off_none _ _ _) hk hgw hw hbm hm1 hd1 (by simp [qthrs_nil])
      | var n =>
        by_cases hn : n ∈ bs
        · rw [show qthr (.var n) met bs deep = (met, bs, 50) by simp only [qthr]; rw [if_neg hc, if_pos hn]]
          obtain ⟨A, cap, rfl, hl⟩ := hw.slice
          exact thr_no 2 n .zero (.slice none 0 0) (.slice none 0 0) met bs deep wb _ w hw hm1 hd1 (fun w1 o1 => qmay_var wb met n A cap bs true w1 ((hw.same o1).b) (hl.same o1) (by omega) hg.1 hg.2 (by simpa using hn))
        · rw [show qthr (.var n) met bs deep = (met + 1, bs ++ [n], 0) by simp only [qthr]; rw [if_neg hc, if_neg hn]]
          exact thr_var n met bs deep wb bv w hg.1 hg.2 hn hk hgw hw hbm hm1 hd1
  · intro sl sr F met bs deep wb bv w hq hoff hk hgw hw hbm hm hd
    by_cases hc : 1024 ≤ met ∨ 64 ≤ deep
    · rw [qthr_full _ hc]
      exact thr_full k 0 .zero sl sr met bs deep wb bv w hw hm hd hc
    · obtain ⟨hq1, hq2⟩ := QV.seq.1 hq
      have hm1 : met < 1024 := by omega
      have hd1 : deep < 64 := by omega
      obtain ⟨hgk, hgl, hgr⟩ := hg
      have hL := thrAll_any l hgl (fun u hu => ih u hu (QGoods.iff.1 hgl u hu))
      have hR := thrAll_any r hgr (fun u hu => ih2 u hu (QGoods.iff.1 hgr u hu))
      rw [qthr_seq, if_neg hc]
      obtain ⟨A, c, rfl, _⟩ := id hq1
      obtain ⟨B, c', rfl, _⟩ := id hq2
      rcases hgk with ⟨rfl, rfl⟩ | ⟨rfl, hrl⟩
      · exact thr_go 5 0 .zero A B l.length c 0 c' l [] F met bs deep wb bv _ w (by decide) (fun w1 o1 => qmay_tup wb A B l.length c c' w1) hq1 hq2 hL hR hgl hoff hk hgw hw hbm hm1 hd1 rfl
      · exact thr_go 6 0 .zero A B l.length c r.length c' l r F met bs deep wb bv _ w (by decide) (fun w1 o1 => qmay_list wb A B l.length c r.length c' w1 hrl) hq1 hq2 hL hR hgl hoff hk hgw hw hbm hm1 hd1 rfl
set_option maxRecDepth 20000 in
set_option maxHeartbeats 4000000 in
theorem qcheck_any (t : QT) (hg : t.Good) (sl sr : Value) (F : Nat → Prop) (w : World) (h : QV w F t sl sr) (hF : ∀ b, F b → b < w.heap.size) (hk : KN w) (hgs : 0 < w.heap.size) :
    Calls Tryz.prog 11 #[.agg (pcs t.k t.n t.t sl sr), .int .i64 32] w fun e w' => e = .returned (.int .i64 (qchk t)) ∧ Only [] w w' := by
  have rs := store_com
  obtain ⟨q, hq⟩ : ∃ q, qthr t 0 [] 0 = q := ⟨_, rfl⟩
  have hchk : qchk t = q.2.2 := by rw [← hq]; rfl
  rw [hchk]
  have HT := Lib.hid (qthr_any t hg)
  have o2 : Only [] w ((w.alloc (.cells (pcs t.k t.n t.t sl sr) 30)).alloc (.cells #[.int .i64 32, .int .i64 0, .slice none 0 0] 60)) := ((Only.refl [] w).alloc _).alloc _
  have B1 := Lib.hid ((Bk.made w 30 (pcs t.k t.n t.t sl sr)).alloc (.cells #[.int .i64 32, .int .i64 0, .slice none 0 0] 60))
  have W2 := Lib.hid (show WH ((w.alloc (.cells (pcs t.k t.n t.t sl sr) 30)).alloc (.cells #[.int .i64 32, .int .i64 0, .slice none 0 0] 60)) (w.heap.size + 1) 0 [] (.slice none 0 0) from ⟨Bk.madeAt (by simp), ⟨rfl, .inl ⟨rfl, rfl⟩⟩⟩)
  have V2 := Lib.hid (h.same o2)
  have K2 := Lib.hid (hk.only hgs o2 (by simp))
  have F2 := Lib.hid (show Off ((w.alloc (.cells (pcs t.k t.n t.t sl sr) 30)).alloc (.cells #[.int .i64 32, .int .i64 0, .slice none 0 0] 60)) (w.heap.size + 1) (.slice none 0 0) F from fun b hb => by
    have := hF b hb
    refine ⟨by simp; omega, by omega, fun e => by cases e⟩)
  have hgw : 0 < w.heap.size + 1 := by omega
  have O2 := Lib.hid o2
  have HQ := Lib.hid hq
  clear h hk hF hg o2 hq hchk
  go_enter Tryz.func11, Tryz.ntmps11
  go_wp2_with fail
  (with_reducible refine (HT.out.use (deep := 0) (D := 0) V2.out F2.out K2.out hgw W2.out (by simp) (by omega) (by omega) rfl HQ.out).mono ?_)
  rintro e w3 ⟨rfl, bv3, t3, _⟩
  have O3 := Lib.hid (O2.out.trans t3.o (fun i hi => .inr (by
    rcases List.mem_cons.1 hi with rfl | hi
    · omega
    · simp [Value.ownBlock] at hi)))
  clear t3
  go_wp2_with fail
  go_ret
  exact ⟨rfl, O3.out⟩
end Go.Proofs.YtlilfmpikampgaaGreatDoor
