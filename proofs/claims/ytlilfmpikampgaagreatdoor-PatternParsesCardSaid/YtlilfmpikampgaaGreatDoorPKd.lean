/- pattern.reader: read. pattern.Parse's deferred function. -/
import Derived.Test.YtlilfmpikampgaaGreatDoorPKc
import Derived.Deep.RegionWith
import Derived.Recover
import Derived.Laws.Pointers
namespace Go.Proofs.YtlilfmpikampgaaGreatDoor
open Go.RowKit

/-- What read answers. -/
def QRead (s : ByteArray) (lo : Nat) (w' : World) (e : Ending) : Prop := match qrun s (.go [] 0) 0 with
  | .ok t => t.Good ∧ ∃ (F : Nat → Prop) (sl sr : Value), (∀ b, F b → lo ≤ b ∧ b < w'.heap.size) ∧ QV w' F t sl sr ∧ e = .returned (.agg (t.cs sl sr))
  | .error n => GaveUp n e
theorem QRead.err {s : ByteArray} {lo : Nat} {w' : World} {e : Ending} {n : Nat} (h : qrun s (.go [] 0) 0 = .error n) (hg : GaveUp n e) : QRead s lo w' e := by
  unfold QRead
  rw [h]
  exact hg
theorem QRead.ok {s : ByteArray} {lo : Nat} {w' : World} {e : Ending} {t : QT} (h : qrun s (.go [] 0) 0 = .ok t) (hg : t.Good) {F : Nat → Prop} {sl sr : Value} (hF : ∀ b, F b → lo ≤ b ∧ b < w'.heap.size) (ht : QV w' F t sl sr) (he : e = .returned (.agg (t.cs sl sr))) : QRead s lo w' e := by
  unfold QRead
  rw [h]
  exact ⟨hg, F, sl, sr, hF, ht, he⟩
/-- Where the reader stands. -/
def posW (rb : Nat) (w : World) : Nat := match w.cell? ⟨rb, 1, none⟩ with | some (.int _ n) => n.toNat | _ => 0
theorem posW_at {rb i : Nat} {w : World} (h : w.cell? ⟨rb, 1, none⟩ = some (.int .i64 i)) : posW rb w = i := by
  unfold posW
  rw [h]
  rfl
/-- What read's loop keeps. -/
def QRel (s : ByteArray) (base rb : Nat) (w0 wr : World) : Prop := ∃ i σ n, i ≤ s.size ∧ nxt s i = i ∧ n ≤ i ∧ QInv n σ ∧ QHolds wr base rb s (i : Nat) σ ∧ Low base rb w0 wr ∧ qrun s (.go [] 0) 0 = qrun s σ i
theorem PRdr.init (w : World) (base : Nat) (h : base ≤ w.heap.size) : PRdr w base (fun _ => False) (.slice none 0 0) [] :=
  ⟨h, fun _ h => h.elim, ⟨rfl, .inl ⟨rfl, rfl⟩⟩, fun p hp => by simp at hp, List.pairwise_singleton _ _, fun v hv g hg => by
    simp at hv
    subst hv
    cases hg⟩
theorem Low.of0set {w : World} {base rb : Nat} {s : ByteArray} {a : Int} {σ : QS} (h : QHolds w base rb s a σ) (a' : Int) : Low base rb w (w.setCell ⟨rb, 1, none⟩ (.int .i64 a')) := by
  obtain ⟨_, _, _, hB, _⟩ := h.four
  exact Low.of hB ((Only.refl [rb] w).set (.inl (by simp)) _)
set_option maxRecDepth 100000 in
set_option maxHeartbeats 8000000 in
theorem qread_any (s : ByteArray) (w : World) (rb : Nat) (u0 : Fin 11 → Value) (hs : s.size ≤ 262144) (hb : Bk w rb 40 (qcs s 0 0 (.slice none 0 0) u0)) (hv : Vars w) (hk : KN w) (hg : 0 < w.heap.size) (h9 : 9 ≤ rb) (hgr : 0 < rb) :
    Calls Tryz.prog 10 #[.pointer (some ⟨rb, 0, none⟩)] w fun e w' => QRead s w.heap.size w' e ∧ Only [rb] w w' := by
  have rs := store_com
  obtain ⟨w0, hw0⟩ : ∃ w0, w0 = w.alloc (.cells P11 30) := ⟨_, rfl⟩
  have o0 : Only [] w w0 := by rw [hw0]; exact (Only.refl [] w).alloc _
  obtain ⟨base, hbase⟩ : ∃ base, base = w0.heap.size := ⟨_, rfl⟩
  have hsz : base = w.heap.size + 1 := by rw [hbase, hw0]; simp
  have hrl := hb.lt
  have hrb : rb < base := by omega
  have hH0 : QHolds w0 base rb s (0 : Nat) (.go [] 0) := ⟨by omega, _, _, [], u0, rfl, hb.only o0 (by simp), PRdr.init w0 base (by omega)⟩
  have SK := Lib.hid (fun w i σ hi hh => qskip_step w base rb i s σ hs hi hh hrb)
  have G0 : Bk w0 w.heap.size 30 P11 := by rw [hw0]; exact Bk.made _ _ _
  have HV := Lib.hid (hv.same o0)
  have HK := Lib.hid (hk.only hg o0 (by simp))
  have hg0 : 0 < w0.heap.size := by omega
  have HG0 := Lib.hid G0
  have H0 := Lib.hid hH0
  have HO := Lib.hid o0
  have OUT := Lib.hid (show ∀ w', Low base rb w0 w' → Only [rb] w w' from fun w' hl => (o0.more (by simp)).trans (hl.only (by omega)) (fun i hi => .inl hi))
  clear hb hv hk hH0 G0
  go_enter Tryz.func10, Tryz.ntmps10
  go_wp2_with fail
  rw [← hw0]
  (with_reducible refine (SK.out _ _ _ (Nat.zero_le _) H0.out).mono ?_)
  rintro e w1 ⟨rfl, o1, h1⟩
  have N1 := Lib.hid (show QRel s base rb w0 w1 from by
    have hle := nxt_le s (Nat.zero_le s.size)
    obtain ⟨st, bv, u, hB, _⟩ := H0.out.four
    exact ⟨nxt s 0, _, 0, hle, nxt_nxt s 0, Nat.zero_le _, QInv.init, h1, Low.of hB o1, (qrun_nxt s _ 0).symm⟩)
  clear o1 h1
  go_wp2_with fail
  go_loopw [] (fun wr => QRel s base rb w0 wr) (fun wr => s.size - posW rb wr)
  case atStart => exact N1.out
  case round =>
    clear N1
    obtain ⟨i, σ, n, hi, hnx, hn, hinv, hH, hL, hrun⟩ := hrel
    have HH := Lib.hid hH
    have HL := Lib.hid hL
    have HRUN := Lib.hid hrun
    have HINV := Lib.hid hinv
    have VW := Lib.hid (HV.out.low hL h9 hrb)
    have KW := Lib.hid (HK.out.low hg0 hL hgr hrb)
    have hgw : 0 < wr.heap.size := Nat.lt_of_lt_of_le hg0 hL.size
    obtain ⟨st, bv, u, hB, -⟩ := hH.four
    have HB := Lib.hid hB
    obtain ⟨c0, c1, c2, c3⟩ := hB.fifteen
    have HPW := Lib.hid (posW_at c1)
    clear hH hL hrun hinv hB
    by_cases his : i < s.size
    · have p1 : (i : Int) < (s.size : Int) := by omega
      have TK := Lib.hid (show ∀ w1, Only [] wr w1 → Calls Tryz.prog 20 #[.pointer (some ⟨rb, 0, none⟩), .string (s.extract i s.size)] w1 fun e w' => EitherQ (.int .i64 (qfin s i - i : Nat)) i (QAfter wr base rb s i (qstep σ (qkAt s i))) (QNone wr base rb (qstep σ (qkAt s i))) e w' from fun w1 o1 =>
        (qtake_any s i hs his (fun b hb => nxt_solid (by rw [hnx]; exact hb)) w1 base rb σ (HH.out.same o1) (VW.out.same o1) (KW.out.only hgw o1 (by simp)) (Nat.lt_of_lt_of_le hgw o1.size) hrb (HINV.out.small (by omega))).mono fun e w' h => by
          rcases h with ⟨h1, σ', h2, h3, h4⟩ | ⟨h1, h2, h3⟩
          · exact .inl ⟨h1, σ', h2, (Low.of0 o1).trans h3, h4⟩
          · exact .inr ⟨h1, h2, (Low.of0 o1).trans h3⟩)
      have HNO := Lib.hid (show ∀ w', QNone wr base rb (qstep σ (qkAt s i)) w' → ∀ e, GaveUp i e → QRead s w.heap.size w' e ∧ Only [rb] w w' from fun w' ⟨h1, h2⟩ e h3 =>
        ⟨QRead.err (n := i) (by rw [HRUN.out, qrun_no (by rw [hnx]; exact his) (by rw [hnx]; exact h1), hnx]) h3, OUT.out w' (HL.out.trans h2)⟩)
      have hq := qfin_bd his
      have wq : IntKind.i64.wrap ((i : Int) + ((qfin s i - i : Nat) : Int)) = ((qfin s i : Nat) : Int) := by
        rw [show ((i : Int) + ((qfin s i - i : Nat) : Int)) = ((qfin s i : Nat) : Int) by omega]
        simp [IntKind.wrap_i64]
        omega
      go_wp2_with fail
      go_quiet (fail)
      go_wp2_with fail
      go_region_with (go_at_call 20; (with_reducible refine (TK.out _ ?_).mono ?_); (focus (repeat first | exact Only.refl _ _ | refine Only.drew ?_ | refine Only.drewN ?_ _)); rintro e w2 h; rcases h with ⟨rfl, σ', hm, hL', hH'⟩ | ⟨hg, hN⟩; rotate_left; (focus (have hE := HNO.out _ hN _ hg; have HE := Lib.hid hE; clear hE; unfold GaveUp at hg; subst hg; go_wp2_with fail; exact ⟨rfl, HE.out⟩)); (obtain ⟨st', bv', u', hB', -⟩ := hH'.four; obtain ⟨d0, d1, d2, d3⟩ := hB'.fifteen; have df := hB'.free; have HM := Lib.hid hm; have HL' := Lib.hid hL'; have HH' := Lib.hid hH'; clear hm hL' hH' hB'))
      all_goals
        have HLn := Lib.hid (HL.out.trans (HL'.out.trans (Low.of0set HH'.out (qfin s i : Nat))))
        have HHn := Lib.hid (HH'.out.move hrb (qfin s i : Nat))
        clear df d0 d1 d2 d3
        go_wp2_with fail
        (with_reducible refine (SK.out _ (qfin s i) _ hq.2 HHn.out).mono ?_)
        rintro e w3 ⟨rfl, o3, h3⟩
        have HN := Lib.hid (show QRel s base rb w0 w3 from by
          obtain ⟨_, _, _, hB3, _⟩ := HHn.out.four
          exact ⟨nxt s (qfin s i), σ', n + 1, nxt_le s hq.2, nxt_nxt s _, by have := nxt_ge s (qfin s i); omega, HINV.out.step hs HM.out, h3, HLn.out.trans (Low.of hB3 o3), by rw [HRUN.out, qrun_nxt, qrun_yes (by rw [hnx]; exact his) (by rw [hnx]; exact HM.out), hnx]⟩)
        have HP3 := Lib.hid (show posW rb w3 = nxt s (qfin s i) from by
          obtain ⟨_, _, _, hB3, _⟩ := h3.four
          exact posW_at (hB3.cell0 rfl))
        clear o3 h3
        go_wp2_with fail
        go_roundw
        case rel => exact HN.out
        case measure =>
          have := nxt_ge s (qfin s i)
          have := nxt_le s hq.2
          rw [HP3.out, HPW.out]
          omega
    · have hie : i = s.size := by omega
      have p1 : ¬ (i : Int) < (s.size : Int) := by omega
      have hjn : ¬ nxt s i < s.size := by omega
      have HIE := Lib.hid hie
      clear hie
      have G1 := Lib.hid (show Bk wr w.heap.size 30 P11 from by
        obtain ⟨S, h1, h2, _⟩ := HL.out
        exact HG0.out.only h1 (fun hm => by rcases h2 _ hm with h | h <;> omega))
      have OW := Lib.hid (OUT.out wr HL.out)
      cases σ with
      | go stk md =>
        obtain ⟨hm, F', bv', ps, u', rfl, hB', _⟩ := HH.out
        have e4 : ((md : Int) == 4) = false := by simp; omega
        have d2 : wr.cell? ⟨rb, 2, none⟩ = some (.int .i64 md) := hB'.cell0 rfl
        have HE := Lib.hid (show ∀ w', QRead s w.heap.size w' (.panicked [{ v := .iface 54 (.int .i64 i), recovered := false }]) from fun w' => QRead.err (n := i) (by rw [HRUN.out, qrun_end hjn, HIE.out]) rfl)
        have c1a : ∀ q, (wr.drewN q).cell? ⟨rb, 1, none⟩ = some (.int .i64 i) := fun q => c1
        clear c2 c3 hB'
        go_wp2_with fail
        go_quiet (fail)
        go_wp2_with fail
        (with_reducible refine (need_no rb i _ (c1a _)).mono ?_)
        rintro e w2 ⟨hg2, rfl⟩
        unfold GaveUp at hg2
        subst hg2
        go_wp2_with fail
        exact ⟨rfl, HE.out _, OW.out.drewN _⟩
      | whole t =>
        obtain ⟨F', A', cap', sl, sr, hB', ht, hF⟩ := HH.out
        obtain ⟨B1, m1, k1, B2, m2, k2, rfl, rfl⟩ := ht.slices
        have d2 : wr.cell? ⟨rb, 2, none⟩ = some (.int .i64 4) := hB'.cell0 rfl
        have d4 : wr.cell? ⟨rb, 4, none⟩ = some (.int .i64 t.k) := hB'.cell0 rfl
        have d5 : wr.cell? ⟨rb, 5, none⟩ = some (.int .i64 t.n) := hB'.cell0 rfl
        have d6 : wr.cell? ⟨rb, 6, none⟩ = some (.int .i64 t.t.k) := hB'.cell0 rfl
        have d7 : wr.cell? ⟨rb, 7, none⟩ = some (.int .i64 t.t.n) := hB'.cell0 rfl
        have d8 : wr.cell? ⟨rb, 8, none⟩ = some (.complex .f64 t.t.x t.t.y) := hB'.cell0 rfl
        have d9 : wr.cell? ⟨rb, 9, none⟩ = some (.string t.t.S) := hB'.cell0 rfl
        have d10 : wr.cell? ⟨rb, 10, none⟩ = some (.int .i64 t.t.a) := hB'.cell0 rfl
        have d11 : wr.cell? ⟨rb, 11, none⟩ = some (.int .i64 t.t.b) := hB'.cell0 rfl
        have d12 : wr.cell? ⟨rb, 12, none⟩ = some (.slice none 0 0) := hB'.cell0 rfl
        have d13 : wr.cell? ⟨rb, 13, none⟩ = some (.slice B1 m1 k1) := hB'.cell0 rfl
        have d14 : wr.cell? ⟨rb, 14, none⟩ = some (.slice B2 m2 k2) := hB'.cell0 rfl
        have HT := Lib.hid ht
        have HF := Lib.hid hF
        have HGd := Lib.hid (show t.Good from HINV.out)
        have HR0 := Lib.hid (show qrun s (.go [] 0) 0 = .ok t by rw [HRUN.out, qrun_whole hjn])
        obtain ⟨z0, z1, z2, z3, z4, z5, z6, z7, z8, z9, z10⟩ := G1.out.eleven
        have zf := G1.out.free
        clear c2 c3 hB' ht hF
        go_wp2_with fail
        go_quiet (fail)
        go_wp2_with fail
        (with_reducible refine (need_yes rb _).mono ?_)
        rintro e w2 ⟨rfl, rfl⟩
        go_wp2_with fail
        generalize hq : wr.drewN _ = Wq at *
        have oq : Only [] wr Wq := hq ▸ (Only.refl [] wr).drewN _
        clear hq
        obtain ⟨B7, O7⟩ := put11 (v0 := (.int .i64 t.k)) (v1 := (.int .i64 t.n)) (v2 := (.int .i64 t.t.k)) (v3 := (.int .i64 t.t.n)) (v4 := (.complex .f64 t.t.x t.t.y)) (v5 := (.string t.t.S)) (v6 := (.int .i64 t.t.a)) (v7 := (.int .i64 t.t.b)) (v8 := (.slice none 0 0)) (v9 := (.slice B1 m1 k1)) (v10 := (.slice B2 m2 k2)) (G1.out.only oq (by simp)) (Eq.refl _)
        generalize ((((((((((Wq.setCell ⟨w.heap.size, 0, none⟩ (.int .i64 t.k)).setCell ⟨w.heap.size, 1, none⟩ (.int .i64 t.n)).setCell ⟨w.heap.size, 2, none⟩ (.int .i64 t.t.k)).setCell ⟨w.heap.size, 3, none⟩ (.int .i64 t.t.n)).setCell ⟨w.heap.size, 4, none⟩ (.complex .f64 t.t.x t.t.y)).setCell ⟨w.heap.size, 5, none⟩ (.string t.t.S)).setCell ⟨w.heap.size, 6, none⟩ (.int .i64 t.t.a)).setCell ⟨w.heap.size, 7, none⟩ (.int .i64 t.t.b)).setCell ⟨w.heap.size, 8, none⟩ (.slice none 0 0)).setCell ⟨w.heap.size, 9, none⟩ (.slice B1 m1 k1)).setCell ⟨w.heap.size, 10, none⟩ (.slice B2 m2 k2) = W8 at *
        have o8 : Only [w.heap.size] wr W8 := (oq.more (by simp)).trans O7 (fun i hi => .inl hi)
        have T8 := QV.only o8 (fun b hb hf => by
          have := (HF.out b hf).1
          have := List.mem_singleton.1 hb
          omega) (fun _ h => h) t _ _ HT.out
        have F8 : ∀ b, F' b → w.heap.size ≤ b ∧ b < W8.heap.size := fun b hb => ⟨by have := (HF.out b hb).1; omega, Nat.lt_of_lt_of_le (HF.out b hb).2 o8.size⟩
        have OO := OW.out.trans o8 (fun i hi => .inr (by rw [List.mem_singleton.1 hi]; omega))
        obtain ⟨u0, u1, u2, u3, u4, u5, u6, u7, u8, u9, u10⟩ := B7.eleven
        exact bodyPost_ret (v := .agg (pcs t.k t.n t.t (.slice B1 m1 k1) (.slice B2 m2 k2))) (by simp [results, Tryz.results10, go_sem, u0, u1, u2, u3, u4, u5, u6, u7, u8, u9, u10]) rfl ⟨QRead.ok HR0.out HGd.out F8 T8 rfl, OO⟩
end Go.Proofs.YtlilfmpikampgaaGreatDoor

namespace Go.Proofs.YtlilfmpikampgaaGreatDoor
open Go.RowKit

set_option maxRecDepth 100000 in
theorem placeOf_any (a : Int) (w : World) : Calls Tryz.prog 9 #[.iface 54 (.int .i64 a)] w fun e w' => e = .returned (.int .i64 a) ∧ w = w' := by
  have hta : ∀ w, (Instr.typeAssert (.iface 54 (.int .i64 a)) 20 54 false).run Tryz.prog w = .ok (.int .i64 a) w := fun w => by kernel_rfl
  go_enter Tryz.func9, Tryz.ntmps9
  go_wp2_with fail
  go_ret
  exact ⟨rfl, rfl⟩
set_option maxRecDepth 20000 in
set_option maxHeartbeats 4000000 in
theorem qcatch_idle (p q r : Addr) (w : World) :
    CallsD Tryz.prog 8 #[.pointer (some p), .pointer (some q), .pointer (some r)] .returning w fun e u' w' => e = .returned (.tuple #[]) ∧ u' = .returning ∧ w' = w := by
  refine callsD_of_wpS Tryz.func8 rfl fun c₀ cs hu => ?_
  apply wpS_seq
  apply wpS_region
  simp [wpOpsS, go_sem, recoverD, hu, Tryz.ntmps8, Exit.thenS]
  refine wpS_of_wp ?_
  change Code.wp _ _ _ ⟨#[.pointer (some p), .pointer (some q), .pointer (some r), .nilIface, .nilIface, undef, undef, undef, undef, undef], []⟩ _
  go_wp2_with fail
  cases c₀
  simp_all [bodyPostS, results, Tryz.results8]
set_option maxRecDepth 20000 in
set_option maxHeartbeats 4000000 in
theorem qcatch_gave (g0 g1 g2 : Nat) (a x1 x2 : Int) (older : List PanicEntry) (w : World) (h0 : Bk w g0 30 P11) (h1 : Bk w g1 31 #[.int .i64 x1]) (h2 : Bk w g2 3 #[.int .i64 x2]) (e1 : g0 ≠ g1) (e2 : g0 ≠ g2) (e3 : g1 ≠ g2) :
    CallsD Tryz.prog 8 #[.pointer (some ⟨g0, 0, none⟩), .pointer (some ⟨g1, 0, none⟩), .pointer (some ⟨g2, 0, none⟩)] (.panicking ({ v := .iface 54 (.int .i64 a), recovered := false } :: older)) w fun e u' w' =>
      e = .returned (.tuple #[]) ∧ u' = .panicking ({ v := .iface 54 (.int .i64 a), recovered := true } :: older) ∧ Bk w' g0 30 P11 ∧ Bk w' g1 31 #[.int .i64 50] ∧ Bk w' g2 3 #[.int .i64 a] ∧ Only [g0, g1, g2] w w' := by
  have rs := store_com
  have HP := Lib.hid (fun w => placeOf_any a w)
  obtain ⟨z0, z1, z2, z3, z4, z5, z6, z7, z8, z9, z10⟩ := h0.eleven
  have zf := h0.free
  have y0 := h1.cell0 (i := 0) rfl
  have yf := h1.free 0
  have x0 := h2.cell0 (i := 0) rfl
  have xf := h2.free 0
  have e1' := e1.symm
  have e2' := e2.symm
  have e3' := e3.symm
  have H0 := Lib.hid h0
  have H1 := Lib.hid h1
  have H2 := Lib.hid h2
  clear h0 h1 h2
  refine callsD_of_wpS Tryz.func8 rfl fun c₀ cs hu => ?_
  apply wpS_seq
  apply wpS_region
  simp [wpOpsS, go_sem, recoverD, hu, Tryz.ntmps8, Exit.thenS]
  refine wpS_of_wp ?_
  change Code.wp _ _ _ ⟨#[.pointer (some ⟨g0, 0, none⟩), .pointer (some ⟨g1, 0, none⟩), .pointer (some ⟨g2, 0, none⟩), .iface 54 (.int .i64 a), .iface 54 (.int .i64 a), undef, undef, undef, undef, undef], []⟩ _
  go_wp2_with fail
  (with_reducible refine (HP.out _).mono ?_)
  rintro e w1 ⟨rfl, rfl⟩
  go_wp2_with fail
  obtain ⟨B7, O7⟩ := put11 (v0 := (.int .i64 0)) (v1 := (.int .i64 0)) (v2 := (.int .i64 0)) (v3 := (.int .i64 0)) (v4 := (.complex .f64 0 0)) (v5 := (.string ⟨#[]⟩)) (v6 := (.int .i64 0)) (v7 := (.int .i64 0)) (v8 := (.slice none 0 0)) (v9 := (.slice none 0 0)) (v10 := (.slice none 0 0)) H0.out (Eq.refl _)
  generalize ((((((((((w.setCell ⟨g0, 0, none⟩ (.int .i64 0)).setCell ⟨g0, 1, none⟩ (.int .i64 0)).setCell ⟨g0, 2, none⟩ (.int .i64 0)).setCell ⟨g0, 3, none⟩ (.int .i64 0)).setCell ⟨g0, 4, none⟩ (.complex .f64 0 0)).setCell ⟨g0, 5, none⟩ (.string ⟨#[]⟩)).setCell ⟨g0, 6, none⟩ (.int .i64 0)).setCell ⟨g0, 7, none⟩ (.int .i64 0)).setCell ⟨g0, 8, none⟩ (.slice none 0 0)).setCell ⟨g0, 9, none⟩ (.slice none 0 0)).setCell ⟨g0, 10, none⟩ (.slice none 0 0) = W8 at *
  have B8 := ((B7.away (p := ⟨g1, 0, none⟩) e1 (.int .i64 50)).away (p := ⟨g2, 0, none⟩) e2 (.int .i64 a))
  have C8 := ((H1.out.only O7 (by simpa using e1.symm)).set 0 (.int .i64 50)).away (p := ⟨g2, 0, none⟩) e3 (.int .i64 a)
  have D8 := ((H2.out.only O7 (by simpa using e2.symm)).away (p := ⟨g1, 0, none⟩) e3.symm (.int .i64 50)).set 0 (.int .i64 a)
  have O8 : Only [g0, g1, g2] w ((W8.setCell ⟨g1, 0, none⟩ (.int .i64 50)).setCell ⟨g2, 0, none⟩ (.int .i64 a)) := ((O7.more (by simp)).set (.inl (by simp)) _).set (.inl (by simp)) _
  generalize (W8.setCell ⟨g1, 0, none⟩ (.int .i64 50)).setCell ⟨g2, 0, none⟩ (.int .i64 a) = W9 at *
  clear z0 z1 z2 z3 z4 z5 z6 z7 z8 z9 z10 zf y0 yf x0 xf e1 e2 e3 e1' e2' e3' H0 H1 H2 HP rs B7 O7
  cases c₀
  simp [bodyPostS, results, Tryz.results8]
  exact ⟨B8, C8, D8, O8⟩
end Go.Proofs.YtlilfmpikampgaaGreatDoor
