/- The document's read: lists. -/
import Derived.Test.YtlilfmpikampgaaGreatDoorPKi
import Derived.Deep.RegionLaw
namespace Go.Proofs.YtlilfmpikampgaaGreatDoor
open Go.RowKit

set_option maxRecDepth 100000 in
set_option maxHeartbeats 16000000 in
theorem read_open91 (s : ByteArray) (i : Nat) (w : World) (hs : s.size ≤ 262144) (hi : i ≤ s.size) (b : UInt8) (hj : nxt s i < s.size) (h : qkAt s (nxt s i) = .sign b) (hb : b.toNat = 91)
    (ih : ∀ (p : Nat) (w : World), i < p → p ≤ s.size → Calls Tryz.prog 23 #[.string s, .int .i64 p] w fun e w' => ReadE s p w w' e ∧ Only [] w w') :
    Calls Tryz.prog 23 #[.string s, .int .i64 i] w fun e w' => ReadE s i w w' e ∧ Only [] w w' := by
  have rs := store_com
  obtain ⟨j, hjn⟩ : ∃ j, nxt s i = j := ⟨_, rfl⟩
  have K0 := Lib.hid (fun w => tq_s s i j b i w hs hi rfl hjn (by rw [← hjn]; exact hj) (by rw [← hjn]; exact h))
  have hf := qfin_sign h
  have hge := nxt_ge s i
  have R0 : ∀ stk, qrun s (.go stk 0) i = qrun s (.go (⟨6, [], false, []⟩ :: stk) 1) (j + 1) := fun stk => by
    rw [q_open hj h (by omega) stk, hf, hjn, show kP b = 6 by unfold kP; rw [if_neg (by omega)]]
  rw [hjn] at hj hge
  have IH := Lib.hid ih
  have HR := Lib.hid R0
  obtain ⟨f, hff⟩ : ∃ f, j + 1 = f := ⟨_, rfl⟩
  have hfi : i < f := by omega
  have hfs : f ≤ s.size := by omega
  have hfj : ((j : Int) + 1) = (f : Int) := by omega
  rw [hff] at HR
  rw [hb, hfj] at K0
  have B0 := Lib.hid (Bk.made w 30 P11)
  have O0 := Lib.hid ((Only.refl [] w).alloc (.cells P11 30))
  obtain ⟨q, hq⟩ : ∃ q, nxt s f = q := ⟨_, rfl⟩
  have hqf : f ≤ q := by rw [← hq]; exact nxt_ge s f
  by_cases hsh : q < s.size ∧ ∃ c, qkAt s q = .sign c ∧ c.toNat = 93
  · obtain ⟨hq1, c, hc, hc2⟩ := hsh
    have K2 := Lib.hid (fun w => tq_s s f q c f w hs hfs rfl hq hq1 hc)
    obtain ⟨n, hn⟩ : ∃ n, q + 1 = n := ⟨_, rfl⟩
    rw [hc2, show (q : Int) + 1 = (n : Int) by omega] at K2
    have R1 : ∀ stk, qrun s (.go stk 0) i = qrun s (qput stk (.seq 6 [] [])) n := fun stk => by
      rw [HR.out, q_shut (o := ⟨6, [], false, []⟩) (by rw [hq]; exact hq1) (by rw [hq]; exact hc) (by decide) (by rw [hc2]; decide) (by decide) stk, hq, qfin_sign hc, hn]
    have HR1 := Lib.hid R1
    clear R0 R1 hjn hj h hb hf hge ih hff hq hc hc2
    go_enter Tryz.func23, Tryz.ntmps23
    go_wp2_with fail
    (with_reducible refine (K0.out _).mono ?_)
    rintro e1 w1 ⟨rfl, o1⟩
    have B1 := Lib.hid (B0.out.only o1 (by simp))
    have O1 := Lib.hid (O0.out.trans o1 (by simp))
    have L1 := B1.out.lt
    clear o1
    go_wp2_with (first | (refine wpList_store_row (by rfl) _ _ _ (by rfl) w1.heap.size (qtz 91 false j f) (by rfl) (by rfl) 64 _ (Bk.made w1 64 (qtz 0 false 0 0)) (by kernel_rfl) (by rfl) (by simp [Value.oneCell']) ?_; generalize hW : World.setRow _ _ _ = W0; obtain ⟨c7, k7⟩ := row_set (Bk.made w1 64 (qtz 0 false 0 0)) hW; clear hW; obtain ⟨y0, y1, y2, y3, y4, y5, y6, y7, y8, y9, y10, y11, y12, y13, y14, y15⟩ := c7.sixteen; have s7 := k7.size; have hlt7 : w1.heap.size < W0.heap.size := c7.lt; have hne7 : w1.heap.size ≠ W0.heap.size := Nat.ne_of_lt hlt7; have hne8 : W0.heap.size ≠ w1.heap.size := (Nat.ne_of_lt hlt7).symm) | (refine wpList_store_row (by rfl) _ _ _ (by rfl) W0.heap.size (pl 5 (.slice none 0 0) (.slice none 0 0)) (by rfl) (by rfl) 30 _ (Bk.made W0 30 P11) (by kernel_rfl) (by rfl) (by simp [Value.oneCell']) ?_; generalize hW : World.setRow _ _ _ = W1; obtain ⟨c9, k9⟩ := row_set (Bk.made W0 30 P11) hW; clear hW; have c7b := (c7.alloc (.cells P11 30)).only k9 (by simp; omega); obtain ⟨v0, v1, v2, v3, v4, v5, v6, v7, v8, v9, v10, v11, v12, v13, v14, v15⟩ := c7b.sixteen; obtain ⟨x0, x1, x2, x3, x4, x5, x6, x7, x8, x9, x10⟩ := c9.eleven; have zf := c9.free))

    have b4 := ((B1.out.alloc _).only k7 (by simp; omega)).alloc (.cells P11 30) |>.only k9 (by simp; omega)
    have o1 := (((O1.out.alloc _).trans k7 (fun b hb => .inr (by rw [List.mem_singleton.1 hb]; omega))).alloc (.cells P11 30)).trans k9 (fun b hb => .inr (by rw [List.mem_singleton.1 hb]; omega))
    have b7 := c7b.u16
    have b9 := c9
    clear y0 y1 y2 y3 y4 y5 y6 y7 y8 y9 y10 y11 y12 y13 y14 y15 v0 v1 v2 v3 v4 v5 v6 v7 v8 v9 v10 v11 v12 v13 v14 v15 x0 x1 x2 x3 x4 x5 x6 x7 x8 x9 x10 zf c7 c7b c9 k7 k9

    have o6 : Only [W0.heap.size] W1 (W1.setCell ⟨W0.heap.size, 0, none⟩ (.int .i64 6)) := (Only.refl _ _).set (.inl (by simp)) _
    have b9 := b9.setTo 0 (.int .i64 6) (pl 6 (.slice none 0 0) (.slice none 0 0)) rfl
    have b4 := b4.only o6 (by simp; omega)
    have o1 := o1.trans o6 (fun b hb => .inr (by rw [List.mem_singleton.1 hb]; omega))
    have b7 : ∃ u : Fin 16 → Value, Bk (W1.setCell ⟨W0.heap.size, 0, none⟩ (.int .i64 6)) w1.heap.size 64 (tkU u) := by
      obtain ⟨u, h⟩ := b7
      exact ⟨u, h.only o6 (by simp; omega)⟩
    generalize W1.setCell ⟨W0.heap.size, 0, none⟩ (.int .i64 6) = W2 at *
    clear o6
    (with_reducible refine (K2.out _).mono ?_)
    rintro e1 w2 ⟨rfl, o2⟩
    have B2 := Lib.hid (b4.only o2 (by simp))
    have E2 := Lib.hid (b9.only o2 (by simp))
    have O2 := Lib.hid (o1.trans o2 (by simp))
    have l2 := o2.size
    obtain ⟨u, b7⟩ := b7
    have T2 := Lib.hid (b7.only o2 (by simp))
    clear b4 b7 b9 o1 o2
    have L9 := E2.out.lt
    have L4 := B2.out.lt
    have L7 := T2.out.lt
    obtain ⟨x0, x1, x2, x3, x4, x5, x6, x7, x8, x9, x10⟩ := E2.out.eleven
    go_wp2_with (refine wpList_store_row (by rfl) _ _ _ (by rfl) w2.heap.size (qtz 93 false q n) (by rfl) (by rfl) 64 _ (Bk.made w2 64 (qtz 0 false 0 0)) (by kernel_rfl) (by rfl) (by simp [Value.oneCell']) ?_; generalize hW : World.setRow _ _ _ = W3; obtain ⟨cf, kf⟩ := row_set (Bk.made w2 64 (qtz 0 false 0 0)) hW; clear hW; obtain ⟨y0, y1, y2, y3, y4, y5, y6, y7, y8, y9, y10, y11, y12, y13, y14, y15⟩ := cf.sixteen; have xe := ((E2.out.alloc (.cells (qtz 0 false 0 0) 64)).only kf (by simp; omega)); obtain ⟨v0, v1, v2, v3, v4, v5, v6, v7, v8, v9, v10⟩ := xe.eleven; have lf : w2.heap.size < W3.heap.size := cf.lt)
    have B3 := Lib.hid ((B2.out.alloc _).only kf (by simp; omega))
    have E3 := Lib.hid ((E2.out.alloc _).only kf (by simp; omega))
    have T3 := Lib.hid ((T2.out.alloc _).only kf (by simp; omega))
    have O3 := Lib.hid ((O2.out.alloc _).trans kf (fun b hb => .inr (by rw [List.mem_singleton.1 hb]; omega)))
    have l3 := kf.size
    have D3 := Lib.hid cf
    clear kf cf
    obtain ⟨z0, z1, z2, z3, z4, z5, z6, z7, z8, z9, z10⟩ := B3.out.eleven
    have zf := B3.out.free
    go_region
    go_wp2_with fail
    generalize hW : World.setCell _ ⟨_, 10, none⟩ _ = W7 at *
    obtain ⟨B7, O7⟩ := put11 B3.out hW.symm
    clear hW z0 z1 z2 z3 z4 z5 z6 z7 z8 z9 z10 zf x0 x1 x2 x3 x4 x5 x6 x7 x8 x9 x10 y0 y1 y2 y3 y4 y5 y6 y7 y8 y9 y10 y11 y12 y13 y14 y15 v0 v1 v2 v3 v4 v5 v6 v7 v8 v9 v10 xe
    have B8 := B7.drew
    have O8 := (O3.out.trans O7 (fun i hi => .inr (by rw [List.mem_singleton.1 hi]; omega))).drew
    generalize W7.drew = W8 at *
    exact res3 Tryz.results23 B8 (by rfl) (by rfl) (by rfl) (by rfl) Tryz.underlying30 (by kernel_rfl) rfl ⟨.inl ⟨.seq 6 [] [], n, .slice none 0 0, .slice none 0 0, fun _ => False, rfl, by omega, by omega, fun _ h => h.elim, QV.seq.2 ⟨QL.nil _ _, QL.nil _ _⟩, HR1.out⟩, O8⟩
  · by_cases hba : q < s.size ∧ ∃ c, qkAt s q = .sign c ∧ c.toNat = 124
    · have HBA := Lib.hid hba
      obtain ⟨hq1, c0, hc0, hc2⟩ := hba
      have HZ := Lib.hid hq
      have K2 := Lib.hid (fun w => tq_s s f q c0 f w hs hfs rfl hq hq1 hc0)
      rw [hc2] at K2
      have R1 : ∀ stk, qrun s (.go stk 0) i = qrun s (.go (⟨6, [], false, []⟩ :: stk) 1) f := HR.out
      have HR1 := Lib.hid R1
      clear R0 R1 hjn hj h hb hf hge ih hff hq hsh hc0 hc2
      go_enter Tryz.func23, Tryz.ntmps23
      go_wp2_with fail
      (with_reducible refine (K0.out _).mono ?_)
      rintro e1 w1 ⟨rfl, o1⟩
      have B1 := Lib.hid (B0.out.only o1 (by simp))
      have O1 := Lib.hid (O0.out.trans o1 (by simp))
      have L1 := B1.out.lt
      clear o1
      go_wp2_with (first | (refine wpList_store_row (by rfl) _ _ _ (by rfl) w1.heap.size (qtz 91 false j f) (by rfl) (by rfl) 64 _ (Bk.made w1 64 (qtz 0 false 0 0)) (by kernel_rfl) (by rfl) (by simp [Value.oneCell']) ?_; generalize hW : World.setRow _ _ _ = W0; obtain ⟨c7, k7⟩ := row_set (Bk.made w1 64 (qtz 0 false 0 0)) hW; clear hW; obtain ⟨y0, y1, y2, y3, y4, y5, y6, y7, y8, y9, y10, y11, y12, y13, y14, y15⟩ := c7.sixteen; have s7 := k7.size; have hlt7 : w1.heap.size < W0.heap.size := c7.lt; have hne7 : w1.heap.size ≠ W0.heap.size := Nat.ne_of_lt hlt7; have hne8 : W0.heap.size ≠ w1.heap.size := (Nat.ne_of_lt hlt7).symm) | (refine wpList_store_row (by rfl) _ _ _ (by rfl) W0.heap.size (pl 5 (.slice none 0 0) (.slice none 0 0)) (by rfl) (by rfl) 30 _ (Bk.made W0 30 P11) (by kernel_rfl) (by rfl) (by simp [Value.oneCell']) ?_; generalize hW : World.setRow _ _ _ = W1; obtain ⟨c9, k9⟩ := row_set (Bk.made W0 30 P11) hW; clear hW; have c7b := (c7.alloc (.cells P11 30)).only k9 (by simp; omega); obtain ⟨v0, v1, v2, v3, v4, v5, v6, v7, v8, v9, v10, v11, v12, v13, v14, v15⟩ := c7b.sixteen; obtain ⟨x0, x1, x2, x3, x4, x5, x6, x7, x8, x9, x10⟩ := c9.eleven; have zf := c9.free))

      have b4 := ((B1.out.alloc _).only k7 (by simp; omega)).alloc (.cells P11 30) |>.only k9 (by simp; omega)
      have o1 := (((O1.out.alloc _).trans k7 (fun b hb => .inr (by rw [List.mem_singleton.1 hb]; omega))).alloc (.cells P11 30)).trans k9 (fun b hb => .inr (by rw [List.mem_singleton.1 hb]; omega))
      have b7 := c7b.u16
      have b9 := c9
      clear y0 y1 y2 y3 y4 y5 y6 y7 y8 y9 y10 y11 y12 y13 y14 y15 v0 v1 v2 v3 v4 v5 v6 v7 v8 v9 v10 v11 v12 v13 v14 v15 x0 x1 x2 x3 x4 x5 x6 x7 x8 x9 x10 zf c7 c7b c9 k7 k9

      have o6 : Only [W0.heap.size] W1 (W1.setCell ⟨W0.heap.size, 0, none⟩ (.int .i64 6)) := (Only.refl _ _).set (.inl (by simp)) _
      have b9 := b9.setTo 0 (.int .i64 6) (pl 6 (.slice none 0 0) (.slice none 0 0)) rfl
      have b4 := b4.only o6 (by simp; omega)
      have o1 := o1.trans o6 (fun b hb => .inr (by rw [List.mem_singleton.1 hb]; omega))
      have b7 : ∃ u : Fin 16 → Value, Bk (W1.setCell ⟨W0.heap.size, 0, none⟩ (.int .i64 6)) w1.heap.size 64 (tkU u) := by
        obtain ⟨u, h⟩ := b7
        exact ⟨u, h.only o6 (by simp; omega)⟩
      generalize W1.setCell ⟨W0.heap.size, 0, none⟩ (.int .i64 6) = W2 at *
      clear o6
      (with_reducible refine (K2.out _).mono ?_)
      rintro e1 w2 ⟨rfl, o2⟩
      have B2 := Lib.hid (b4.only o2 (by simp))
      have E2 := Lib.hid (b9.only o2 (by simp))
      have O2 := Lib.hid (o1.trans o2 (by simp))
      have l2 := o2.size
      obtain ⟨u, b7⟩ := b7
      have T2 := Lib.hid (b7.only o2 (by simp))
      clear b4 b7 b9 o1 o2
      have L9 := E2.out.lt
      have L4 := B2.out.lt
      have L7 := T2.out.lt
      obtain ⟨x0, x1, x2, x3, x4, x5, x6, x7, x8, x9, x10⟩ := E2.out.eleven
      go_wp2_with (refine wpList_store_row (by rfl) _ _ _ (by rfl) w2.heap.size (qtz 124 false q ((q : Int) + 1)) (by rfl) (by rfl) 64 _ (Bk.made w2 64 (qtz 0 false 0 0)) (by kernel_rfl) (by rfl) (by simp [Value.oneCell']) ?_; generalize hW : World.setRow _ _ _ = W3; obtain ⟨cf, kf⟩ := row_set (Bk.made w2 64 (qtz 0 false 0 0)) hW; clear hW; obtain ⟨y0, y1, y2, y3, y4, y5, y6, y7, y8, y9, y10, y11, y12, y13, y14, y15⟩ := cf.sixteen; have xe := ((E2.out.alloc (.cells (qtz 0 false 0 0) 64)).only kf (by simp; omega)); obtain ⟨v0, v1, v2, v3, v4, v5, v6, v7, v8, v9, v10⟩ := xe.eleven; have lf : w2.heap.size < W3.heap.size := cf.lt)
      have B3 := Lib.hid ((B2.out.alloc _).only kf (by simp; omega))
      have E3 := Lib.hid ((E2.out.alloc _).only kf (by simp; omega))
      have T3 := Lib.hid ((T2.out.alloc _).only kf (by simp; omega))
      have O3 := Lib.hid ((O2.out.alloc _).trans kf (fun b hb => .inr (by rw [List.mem_singleton.1 hb]; omega)))
      have l3 := kf.size
      have D3 := Lib.hid cf
      clear kf cf
      have HX0 := Lib.hid (QOut.none W3 (Nat.le_refl _))
      obtain ⟨Bs, hBs⟩ : ∃ Bs, W3.heap.size = Bs := ⟨_, rfl⟩
      rw [hBs] at HX0
      clear x0 x1 x2 x3 x4 x5 x6 x7 x8 x9 x10 y0 y1 y2 y3 y4 y5 y6 y7 y8 y9 y10 y11 y12 y13 y14 y15 v0 v1 v2 v3 v4 v5 v6 v7 v8 v9 v10 xe
      go_loopw [1, 11] (fun av mv wr => ∃ (p : Nat) (l : List QT) (xs : List Value) (F : Nat → Prop) (A : Option Addr) (c : Nat) (u : Fin 16 → Value) (mo : Bool) (md : Nat), av = .int .i64 p ∧ mv = .bool mo ∧ i < p ∧ p ≤ s.size ∧ l.length ≤ p ∧ (mo = true ∧ md = 0 ∨ mo = false ∧ (md = 1 ∨ md = 2) ∧ nxt s p < s.size ∧ ∃ c, qkAt s (nxt s p) = .sign c ∧ c.toNat = 124) ∧ (∀ stk, qrun s (.go stk 0) i = qrun s (.go (⟨6, l, false, []⟩ :: stk) md) p) ∧ Bk wr w.heap.size 30 P11 ∧ Bk wr W0.heap.size 30 (pl 6 (.slice A l.length c) (.slice none 0 0)) ∧ Bk wr w1.heap.size 64 (tkU u) ∧ QOut wr Bs F (.slice A l.length c) l xs ∧ Only [] w wr) (fun av _ _ => s.size - (intOf av).toNat)
      case atStart => exact ⟨f, [], [], fun _ => False, Option.none, 0, u, false, 1, rfl, rfl, hfi, hfs, Nat.zero_le _, .inr ⟨rfl, .inl rfl, by rw [HZ.out]; exact HBA.out.1, by rw [HZ.out]; exact HBA.out.2⟩, HR1.out, B3.out, E3.out, T3.out, HX0.out, O3.out⟩
      case round =>
        obtain ⟨p, l, xs, F, A, c, u, mo, md, rfl, rfl, hip, hps, hlp, hmo, hrun, r4, r9, r7, hout, hon⟩ := hrel
        have HB4 := Lib.hid r4
        have HB9 := Lib.hid r9
        have HB7 := Lib.hid r7
        have HO := Lib.hid hout
        have HN := Lib.hid hon
        have L9 := r9.lt
        have L7 := r7.lt
        have L4 := r4.lt
        have LB := hout.le
        rcases hmo with ⟨rfl, rfl⟩ | ⟨rfl, hmd, hz1, c5, hc5, hc6⟩
        · have HRU := Lib.hid hrun
          clear r4 r9 r7 hout hon hrun
          have T := Lib.hid (IH.out p wr hip hps)
          go_wp2_with fail
          (with_reducible refine (T.out).mono ?_)
          rintro e1 w3 ⟨hte, o3⟩
          have M4 := Lib.hid (HB4.out.only o3 (by simp))
          have M9 := Lib.hid (HB9.out.only o3 (by simp))
          have M7 := Lib.hid (HB7.out.only o3 (by simp))
          have MO := Lib.hid (HO.out.only o3 (by simp))
          have MN := Lib.hid (HN.out.trans o3 (by simp))
          have S3 := o3.size
          clear o3
          rcases hte with ⟨t, m, pa, pb, Fx, rfl, hpm, hms, hFx, htv, hrt⟩ | ⟨bad, rfl, hrt⟩
          · obtain ⟨At, nt, ct, Bt, nt2, ct2, rfl, rfl⟩ := htv.slices
            have HFX := Lib.hid hFx
            have HTV := Lib.hid htv
            have HRT := Lib.hid hrt
            clear hFx htv hrt
            have N13 := Lib.hid (Bk.made w3 30 (pcs t.k t.n t.t (.slice At nt ct) (.slice Bt nt2 ct2)))
            obtain ⟨t0, t1, t2, t3, t4, t5, t6, t7, t8, t9, t10⟩ := N13.out.eleven
            have HFX2 := Lib.hid (show ∀ b, Fx b → Bs ≤ b ∧ b < w3.heap.size ∧ (Value.slice A l.length c).ownBlock ≠ some b from fun b hb => ⟨Nat.le_trans HO.out.le (HFX.out b hb).1, (HFX.out b hb).2, fun e => by have := (Row.block HO.out.row e).2; have := (HFX.out b hb).1; omega⟩)
            have s9 : ∀ o, (w3.alloc o).cell? ⟨W0.heap.size, 9, none⟩ = some (.slice A l.length c) := fun o => (M9.out.alloc o).cell0 rfl
            obtain ⟨inf, hi0, hz0, hz1, hz2⟩ := qinfo info_pat
            have hbz : ∀ o1 o2, Bs ≤ ((w3.alloc o1).alloc o2).heap.size := fun o1 o2 => by have := MO.out.le; simp; omega
            go_wp2_with (at_builtin; refine wpList_append_lies _ (by rfl) _ _ _ (by rfl) Bs 30 inf _ 11 152 Tryz.underlying28 hi0 hz0 hz1 hz2 rfl (by omega) _ l.length xs (by rfl) (Row.alloc (Row.alloc MO.out.row _) _) _ 1 1 (pcs t.k t.n t.t (.slice At nt ct) (.slice Bt nt2 ct2)).toList (by rfl) rfl (World.news_of_block (Bk.madeAt (w := w3.alloc (.cells (pcs t.k t.n t.t (.slice At nt ct) (.slice Bt nt2 ct2)) 30)) (b := w3.heap.size + 1) (by simp))) (by simp [Value.oneCell']) (by omega) (by unfold maxLen; omega) (by omega) (hbz _ _) _ rfl ?_; intro g cap' w4 hown hgrow hat hlt; obtain ⟨k9, kO, k4⟩ := qapp_facts M9.out MO.out (by omega) HTV.out HFX2.out hown hgrow hat; obtain ⟨d0, d1, d2, d3, d4, d5, d6, d7, d8, d9, d10⟩ := k9.eleven; have df := k9.free; have K9 := Lib.hid k9; have KO := Lib.hid kO; have K4 := Lib.hid k4; clear k9 kO k4 hown hgrow hat)
            have N9 := Lib.hid (K9.out.setTo 9 (.slice (some ⟨g, 0, none⟩) (l.length + 1) cap') (pl 6 (.slice (some ⟨g, 0, none⟩) (l.length + 1) cap') (.slice none 0 0)) rfl)
            have o5 : Only [W0.heap.size] w4 (w4.setCell ⟨W0.heap.size, 9, none⟩ (.slice (some ⟨g, 0, none⟩) (l.length + 1) cap')) := (Only.refl _ _).set (.inl (by simp)) _
            have NO := Lib.hid (KO.out.only o5 (fun b hb => by rw [List.mem_singleton.1 hb]; exact .inl (by omega)))
            obtain ⟨S4, p4, q4⟩ := K4.out
            have nS : ∀ b, b < Bs → b ∉ S4 := fun b hb hm => by have := (q4 b hm).1; omega
            have N4 := Lib.hid ((M4.out.only p4 (nS _ (by omega))).only o5 (by simp; omega))
            have N7 := Lib.hid ((M7.out.only p4 (nS _ (by omega))).only o5 (by simp; omega))
            have NN := Lib.hid ((MN.out.trans p4 (fun b hb => .inr (by have := (q4 b hb).1; omega))).trans o5 (fun b hb => .inr (by rw [List.mem_singleton.1 hb]; omega)))
            have S5 := Nat.le_trans p4.size o5.size
            clear d0 d1 d2 d3 d4 d5 d6 d7 d8 d9 d10 df t0 t1 t2 t3 t4 t5 t6 t7 t8 t9 t10 s9 o5 p4 q4 nS S4
            generalize w4.setCell ⟨W0.heap.size, 9, none⟩ (.slice (some ⟨g, 0, none⟩) (l.length + 1) cap') = w5 at *
            obtain ⟨z, hz⟩ : ∃ z, nxt s m = z := ⟨_, rfl⟩
            have hmz : m ≤ z := by rw [← hz]; exact nxt_ge s m
            have HRP : Hid (∀ stk, qrun s (.go stk 0) i = qrun s (.go (⟨6, l ++ [t], false, []⟩ :: stk) 2) m) := Lib.hid (fun stk => by rw [HRU.out, HRT.out]; rfl)
            have hll : (l ++ [t]).length = l.length + 1 := by simp
            by_cases hsh2 : z < s.size ∧ ∃ c, qkAt s z = .sign c ∧ c.toNat = 93
            · obtain ⟨hq1, c2, hc, hc2⟩ := hsh2
              have K3 := Lib.hid (fun w => tq_s s m z c2 m w hs hms rfl hz hq1 hc)
              obtain ⟨n2, hn2⟩ : ∃ n2, z + 1 = n2 := ⟨_, rfl⟩
              rw [hc2, show (z : Int) + 1 = (n2 : Int) by omega] at K3
              have HR2 : Hid (∀ stk, qrun s (.go stk 0) i = qrun s (qput stk (.seq 6 (l ++ [t]) [])) n2) := Lib.hid (fun stk => by
                rw [HRP.out, q_shut (o := ⟨6, l ++ [t], false, []⟩) (by rw [hz]; exact hq1) (by rw [hz]; exact hc) (.inr rfl) (by rw [hc2]; rfl) (by decide) stk, hz, qfin_sign hc, hn2])
              clear hz hc hc2
              (with_reducible refine (K3.out _).mono ?_)
              rintro e1 w6 ⟨rfl, o6⟩
              have P4 := Lib.hid (N4.out.only o6 (by simp))
              have P9 := Lib.hid (N9.out.only o6 (by simp))
              have P7 := Lib.hid (N7.out.only o6 (by simp))
              have PO := Lib.hid (NO.out.only o6 (by simp))
              have PN := Lib.hid (NN.out.trans o6 (by simp))
              have S6 := o6.size
              clear o6
              go_wp2_with (refine wpList_store_row (by rfl) _ _ _ (by rfl) w1.heap.size (qtz 93 false z n2) (by rfl) (by rfl) 64 _ P7.out (by kernel_rfl) (by rfl) (by simp [Value.oneCell']) ?_; generalize hW : World.setRow _ _ _ = W7; obtain ⟨Q7, O12⟩ := row_set P7.out hW; clear hW; have Q4 := P4.out.only O12 (by simp; omega); have Q9 := P9.out.only O12 (by simp; omega); have QO := PO.out.only O12 (fun b hb => .inl (by rw [List.mem_singleton.1 hb]; omega)); have QN := PN.out.trans O12 (fun b hb => .inr (by rw [List.mem_singleton.1 hb]; omega)); have S7 := O12.size; obtain ⟨u0, u1, u2, u3, u4, u5, u6, u7, u8, u9, u10, u11, u12, u13, u14, u15⟩ := Q7.sixteen; obtain ⟨x0, x1, x2, x3, x4, x5, x6, x7, x8, x9, x10⟩ := Q9.eleven)
              obtain ⟨z0, z1, z2, z3, z4, z5, z6, z7, z8, z9, z10⟩ := Q4.eleven
              have zf := Q4.free
              go_region
              go_wp2_with fail
              generalize hW : World.setCell _ ⟨_, 10, none⟩ _ = W8 at *
              obtain ⟨B7, O7⟩ := put11 Q4 hW.symm
              clear hW u0 u1 u2 u3 u4 u5 u6 u7 u8 u9 u10 u11 u12 u13 u14 u15 x0 x1 x2 x3 x4 x5 x6 x7 x8 x9 x10 z0 z1 z2 z3 z4 z5 z6 z7 z8 z9 z10 zf
              obtain ⟨F', hF0, hT'⟩ := QO.whole
              have hF' : ∀ b, F' b → w.heap.size ≤ b ∧ b < W7.heap.size := fun b hb => ⟨by have := (hF0 b hb).1; omega, (hF0 b hb).2⟩
              have T7 := QV.only O7 (fun b hb hf => by have := (hF0 b hf).1; rw [List.mem_singleton.1 hb] at this; omega) (fun _ h => h) _ _ _ (QV.seq.2 ⟨hT', QL.nil _ _⟩ : QV _ F' (.seq 6 (l ++ [t]) []) _ _)
              have B8 := B7.drew
              have O8 := (QN.trans O7 (fun b hb => .inr (by rw [List.mem_singleton.1 hb]; omega))).drew
              have S8 := O7.size
              have T8 := T7.same ((Only.refl [] W8).drew)
              have F8 : ∀ b, F' b → w.heap.size ≤ b ∧ b < W8.drew.heap.size := fun b hb => ⟨(hF' b hb).1, Nat.lt_of_lt_of_le (hF' b hb).2 S8⟩
              generalize W8.drew = W9 at *
              exact res3 Tryz.results23 B8 (by rfl) (by rfl) (by rfl) (by rfl) Tryz.underlying30 (by kernel_rfl) rfl ⟨.inl ⟨.seq 6 (l ++ [t]) [], n2, (.slice (some ⟨g, 0, none⟩) (l.length + 1) cap'), (.slice none 0 0), F', rfl, by omega, by omega, F8, T8, HR2.out⟩, O8⟩
            · by_cases hba : z < s.size ∧ ∃ c, qkAt s z = .sign c ∧ c.toNat = 124
              · have HBA := Lib.hid hba
                obtain ⟨hq1, c2, hc, hc2⟩ := hba
                have K3 := Lib.hid (fun w => tq_s s m z c2 m w hs hms rfl hz hq1 hc)
                rw [hc2] at K3
                have HZ := Lib.hid hz
                clear hz hc hc2 hsh2
                (with_reducible refine (K3.out _).mono ?_)
                rintro e1 w6 ⟨rfl, o6⟩
                have P4 := Lib.hid (N4.out.only o6 (by simp))
                have P9 := Lib.hid (N9.out.only o6 (by simp))
                have P7 := Lib.hid (N7.out.only o6 (by simp))
                have PO := Lib.hid (NO.out.only o6 (by simp))
                have PN := Lib.hid (NN.out.trans o6 (by simp))
                have S6 := o6.size
                clear o6
                go_wp2_with (refine wpList_store_row (by rfl) _ _ _ (by rfl) w1.heap.size (qtz 124 false z ((z : Int) + 1)) (by rfl) (by rfl) 64 _ P7.out (by kernel_rfl) (by rfl) (by simp [Value.oneCell']) ?_; generalize hW : World.setRow _ _ _ = W7; obtain ⟨Q7, O12⟩ := row_set P7.out hW; clear hW; have Q4 := P4.out.only O12 (by simp; omega); have Q9 := P9.out.only O12 (by simp; omega); have QO := PO.out.only O12 (fun b hb => .inl (by rw [List.mem_singleton.1 hb]; omega)); have QN := PN.out.trans O12 (fun b hb => .inr (by rw [List.mem_singleton.1 hb]; omega)); have S7 := O12.size; obtain ⟨u0, u1, u2, u3, u4, u5, u6, u7, u8, u9, u10, u11, u12, u13, u14, u15⟩ := Q7.sixteen; obtain ⟨x0, x1, x2, x3, x4, x5, x6, x7, x8, x9, x10⟩ := Q9.eleven)
                clear O12
                go_roundw
                case rel =>
                  obtain ⟨u', Q7'⟩ := Q7.u16
                  exact ⟨m, l ++ [t], _, _, some ⟨g, 0, none⟩, cap', u', false, 2, rfl, rfl, by omega, by omega, by omega, .inr ⟨rfl, .inr rfl, by rw [HZ.out]; exact HBA.out.1, by rw [HZ.out]; exact HBA.out.2⟩, HRP.out, Q4, by rw [hll]; exact Q9, Q7', by rw [hll]; exact QO, QN⟩
                case measure =>
                  simp [intOf]
                  omega
              · by_cases hco : z < s.size ∧ ∃ c, qkAt s z = .sign c ∧ c.toNat = 44
                · obtain ⟨hq1, c2, hc, hc2⟩ := hco
                  have K3 := Lib.hid (fun w => tq_s s m z c2 m w hs hms rfl hz hq1 hc)
                  obtain ⟨n2, hn2⟩ : ∃ n2, z + 1 = n2 := ⟨_, rfl⟩
                  rw [hc2, show (z : Int) + 1 = (n2 : Int) by omega] at K3
                  have HR2 : Hid (∀ stk, qrun s (.go stk 0) i = qrun s (.go (⟨6, l ++ [t], false, []⟩ :: stk) 0) n2) := Lib.hid (fun stk => by
                    rw [HRP.out, q_comma (by rw [hz]; exact hq1) (by rw [hz]; exact hc) hc2, hz, qfin_sign hc, hn2])
                  clear hz hc hc2 hsh2 hba
                  (with_reducible refine (K3.out _).mono ?_)
                  rintro e1 w6 ⟨rfl, o6⟩
                  have P4 := Lib.hid (N4.out.only o6 (by simp))
                  have P9 := Lib.hid (N9.out.only o6 (by simp))
                  have P7 := Lib.hid (N7.out.only o6 (by simp))
                  have PO := Lib.hid (NO.out.only o6 (by simp))
                  have PN := Lib.hid (NN.out.trans o6 (by simp))
                  have S6 := o6.size
                  clear o6
                  go_wp2_with (refine wpList_store_row (by rfl) _ _ _ (by rfl) w1.heap.size (qtz 44 false z n2) (by rfl) (by rfl) 64 _ P7.out (by kernel_rfl) (by rfl) (by simp [Value.oneCell']) ?_; generalize hW : World.setRow _ _ _ = W7; obtain ⟨Q7, O12⟩ := row_set P7.out hW; clear hW; have Q4 := P4.out.only O12 (by simp; omega); have Q9 := P9.out.only O12 (by simp; omega); have QO := PO.out.only O12 (fun b hb => .inl (by rw [List.mem_singleton.1 hb]; omega)); have QN := PN.out.trans O12 (fun b hb => .inr (by rw [List.mem_singleton.1 hb]; omega)); have S7 := O12.size; obtain ⟨u0, u1, u2, u3, u4, u5, u6, u7, u8, u9, u10, u11, u12, u13, u14, u15⟩ := Q7.sixteen; obtain ⟨x0, x1, x2, x3, x4, x5, x6, x7, x8, x9, x10⟩ := Q9.eleven)
                  clear O12
                  go_roundw
                  case rel =>
                    obtain ⟨u', Q7'⟩ := Q7.u16
                    exact ⟨n2, l ++ [t], _, _, some ⟨g, 0, none⟩, cap', u', true, 0, rfl, rfl, by omega, by omega, by omega, .inl ⟨rfl, rfl⟩, HR2.out, Q4, by rw [hll]; exact Q9, Q7', by rw [hll]; exact QO, QN⟩
                  case measure =>
                    simp [intOf]
                    omega
                · have K3 := Lib.hid (fun w => tq_y s m z 93 44 124 m w hs hms rfl hz (by decide) (by decide) (by decide) (fun b hb1 hb2 => ⟨fun e => hsh2 ⟨hb1, b, hb2, e⟩, fun e => hco ⟨hb1, b, hb2, e⟩, fun e => hba ⟨hb1, b, hb2, e⟩⟩))
                  have HR2 : Hid (∀ stk, qrun s (.go stk 0) i = .error z) := Lib.hid (fun stk => by
                    rw [HRP.out, q_other (o := ⟨6, l ++ [t], false, []⟩) hms (.inr rfl) (fun b hb1 hb2 => ⟨(qk_sign hb2).2, fun e => hsh2 ⟨by rw [← hz]; exact hb1, b, by rw [← hz]; exact hb2, e⟩, fun e => hco ⟨by rw [← hz]; exact hb1, b, by rw [← hz]; exact hb2, e⟩, fun e => hba ⟨by rw [← hz]; exact hb1, b, by rw [← hz]; exact hb2, e.1⟩⟩), hz])
                  clear hz hsh2 hco hba
                  (with_reducible refine (K3.out _).mono ?_)
                  rintro e1 w6 ⟨⟨wh2, k2, n2, t2, sg2, en2, nx2, rfl, hk4, hk5, hk6⟩, o6⟩
                  have P4 := Lib.hid (N4.out.only o6 (by simp))
                  have P9 := Lib.hid (N9.out.only o6 (by simp))
                  have P7 := Lib.hid (N7.out.only o6 (by simp))
                  have PO := Lib.hid (NO.out.only o6 (by simp))
                  have PN := Lib.hid (NN.out.trans o6 (by simp))
                  have S6 := o6.size
                  clear o6
                  have g6 : (sg2 == 93) = false := beq_eq_false_iff_ne.2 hk4
                  have g7 : (sg2 != 44) = true := bne_iff_ne.2 hk5
                  have g8 : (sg2 == 124) = false := beq_eq_false_iff_ne.2 hk6
                  clear hk4 hk5 hk6
                  go_wp2_with (refine wpList_store_row (by rfl) _ _ _ (by rfl) w1.heap.size (qtok wh2 k2 n2 t2 sg2 en2 z nx2) (by rfl) (by rfl) 64 _ P7.out (by kernel_rfl) (by rfl) (by simp [Value.oneCell']) ?_; generalize hW : World.setRow _ _ _ = W7; obtain ⟨Q7, O12⟩ := row_set P7.out hW; clear hW; have Q4 := P4.out.only O12 (by simp; omega); have Q9 := P9.out.only O12 (by simp; omega); have QO := PO.out.only O12 (fun b hb => .inl (by rw [List.mem_singleton.1 hb]; omega)); have QN := PN.out.trans O12 (fun b hb => .inr (by rw [List.mem_singleton.1 hb]; omega)); have S7 := O12.size; obtain ⟨u0, u1, u2, u3, u4, u5, u6, u7, u8, u9, u10, u11, u12, u13, u14, u15⟩ := Q7.sixteen; obtain ⟨x0, x1, x2, x3, x4, x5, x6, x7, x8, x9, x10⟩ := Q9.eleven)
                  clear O12
                  obtain ⟨z0, z1, z2, z3, z4, z5, z6, z7, z8, z9, z10⟩ := Q4.eleven
                  have zf := Q4.free
                  go_region
                  go_wp2_with fail
                  generalize hW : World.setCell _ ⟨_, 10, none⟩ _ = W8 at *
                  obtain ⟨B7, O7⟩ := put11 Q4 hW.symm
                  clear hW u0 u1 u2 u3 u4 u5 u6 u7 u8 u9 u10 u11 u12 u13 u14 u15 x0 x1 x2 x3 x4 x5 x6 x7 x8 x9 x10 z0 z1 z2 z3 z4 z5 z6 z7 z8 z9 z10 zf
                  have B8 := B7.drew
                  have O8 := (QN.trans O7 (fun b hb => .inr (by rw [List.mem_singleton.1 hb]; omega))).drew
                  generalize W8.drew = W9 at *
                  exact res3 Tryz.results23 B8 (by rfl) (by rfl) (by rfl) (by rfl) Tryz.underlying30 (by kernel_rfl) rfl ⟨.inr ⟨z, rfl, HR2.out⟩, O8⟩
          · have HRT := Lib.hid hrt
            have HRE : Hid (∀ stk, qrun s (.go stk 0) i = .error bad) := Lib.hid (fun stk => by rw [HRU.out, HRT.out])
            clear hrt
            obtain ⟨z0, z1, z2, z3, z4, z5, z6, z7, z8, z9, z10⟩ := M4.out.eleven
            have zf := M4.out.free
            have L4' := M4.out.lt
            go_wp2_with fail
            generalize hW : World.setCell _ ⟨_, 10, none⟩ _ = W8 at *
            obtain ⟨B7, O7⟩ := put11 M4.out hW.symm
            clear hW z0 z1 z2 z3 z4 z5 z6 z7 z8 z9 z10 zf
            generalize hW : World.alloc W8 _ = W9 at *
            have B8 := Bk.al hW B7
            have O8 := Only.al hW (MN.out.trans O7 (fun b hb => .inr (by rw [List.mem_singleton.1 hb]; omega)))
            clear hW
            exact res3 Tryz.results23 B8 (by rfl) (by rfl) (by rfl) (by rfl) Tryz.underlying30 (by kernel_rfl) rfl ⟨.inr ⟨bad, rfl, HRE.out⟩, O8⟩
        · obtain ⟨z0, hz0⟩ : ∃ z0, nxt s p = z0 := ⟨_, rfl⟩
          rw [hz0] at hz1 hc5
          have hpz : p ≤ z0 := by rw [← hz0]; exact nxt_ge s p
          have K5 := Lib.hid (fun w => tq_s s p z0 c5 p w hs hps rfl hz0 hz1 hc5)
          obtain ⟨n3, hn3⟩ : ∃ n3, z0 + 1 = n3 := ⟨_, rfl⟩
          rw [hc6, show (z0 : Int) + 1 = (n3 : Int) by omega] at K5
          have HRU : Hid (∀ stk, qrun s (.go stk 0) i = qrun s (.go (⟨6, l, true, []⟩ :: stk) 0) n3) := Lib.hid (fun stk => by
            rw [hrun, q_bar (o := ⟨6, l, false, []⟩) (by rw [hz0]; exact hz1) (by rw [hz0]; exact hc5) hc6 rfl hmd stk, hz0, qfin_sign hc5, hn3])
          clear r4 r9 r7 hout hon hrun hc5 hc6 hmd hz0
          go_wp2_with fail
          (with_reducible refine (K5.out _).mono ?_)
          rintro e1 w6 ⟨rfl, o6⟩
          have N4 := HB4
          have N9 := HB9
          have N7 := HB7
          have NO := HO
          have NN := HN
          have P4 := Lib.hid (N4.out.only o6 (by simp))
          have P9 := Lib.hid (N9.out.only o6 (by simp))
          have P7 := Lib.hid (N7.out.only o6 (by simp))
          have PO := Lib.hid (NO.out.only o6 (by simp))
          have PN := Lib.hid (NN.out.trans o6 (by simp))
          have S6 := o6.size
          clear o6
          go_wp2_with (refine wpList_store_row (by rfl) _ _ _ (by rfl) w1.heap.size (qtz 124 false z0 n3) (by rfl) (by rfl) 64 _ P7.out (by kernel_rfl) (by rfl) (by simp [Value.oneCell']) ?_; generalize hW : World.setRow _ _ _ = W7; obtain ⟨Q7, O12⟩ := row_set P7.out hW; clear hW; have Q4 := P4.out.only O12 (by simp; omega); have Q9 := P9.out.only O12 (by simp; omega); have QO := PO.out.only O12 (fun b hb => .inl (by rw [List.mem_singleton.1 hb]; omega)); have QN := PN.out.trans O12 (fun b hb => .inr (by rw [List.mem_singleton.1 hb]; omega)); have S7 := O12.size; obtain ⟨u0, u1, u2, u3, u4, u5, u6, u7, u8, u9, u10, u11, u12, u13, u14, u15⟩ := Q7.sixteen; obtain ⟨x0, x1, x2, x3, x4, x5, x6, x7, x8, x9, x10⟩ := Q9.eleven)
          clear O12
          have T := Lib.hid (IH.out n3 W7 (by omega) (by omega))
          have HQ4 := Lib.hid Q4
          have HQ9 := Lib.hid Q9
          have HQ7 := Lib.hid Q7
          have HQO := Lib.hid QO
          have HQN := Lib.hid QN
          clear Q4 Q9 Q7 QO QN
          (with_reducible refine (T.out).mono ?_)
          rintro e1 w3 ⟨hte, o3⟩
          have M4 := Lib.hid (HQ4.out.only o3 (by simp))
          have M9 := Lib.hid (HQ9.out.only o3 (by simp))
          have M7 := Lib.hid (HQ7.out.only o3 (by simp))
          have MO := Lib.hid (HQO.out.only o3 (by simp))
          have MN := Lib.hid (HQN.out.trans o3 (by simp))
          have S3 := o3.size
          clear o3
          rcases hte with ⟨t, m, pa, pb, Fx, rfl, hpm, hms, hFx, htv, hrt⟩ | ⟨bad, rfl, hrt⟩
          · obtain ⟨At, nt, ct, Bt, nt2, ct2, rfl, rfl⟩ := htv.slices
            obtain ⟨Br, hBr⟩ : ∃ Br, W7.heap.size = Br := ⟨_, rfl⟩
            rw [hBr] at hFx S3
            have hBr2 : Bs ≤ Br := by omega
            have HFX := Lib.hid hFx
            have HTV := Lib.hid htv
            have HRT := Lib.hid hrt
            clear hFx htv hrt hBr
            have N13 := Lib.hid (Bk.made w3 30 (pcs t.k t.n t.t (.slice At nt ct) (.slice Bt nt2 ct2)))
            obtain ⟨t0, t1, t2, t3, t4, t5, t6, t7, t8, t9, t10⟩ := N13.out.eleven
            have HFX2 := Lib.hid (show ∀ b, Fx b → Br ≤ b ∧ b < w3.heap.size ∧ (Value.slice none 0 0).ownBlock ≠ some b from fun b hb => ⟨(HFX.out b hb).1, (HFX.out b hb).2, fun e => by cases e⟩)
            have RO := Lib.hid (QOut.none w3 S3)
            have s10 : ∀ o, (w3.alloc o).cell? ⟨W0.heap.size, 10, none⟩ = some (.slice none 0 0) := fun o => (M9.out.alloc o).cell0 rfl
            obtain ⟨inf, hi0, hz0, hz1, hz2⟩ := qinfo info_pat
            have hbz : ∀ o1 o2, Br ≤ ((w3.alloc o1).alloc o2).heap.size := fun o1 o2 => by simp; omega
            go_wp2_with (at_builtin; refine wpList_append_lies _ (by rfl) _ _ _ (by rfl) Br 30 inf _ 11 152 Tryz.underlying28 hi0 hz0 hz1 hz2 rfl (by omega) _ 0 [] (by rfl) (Row.alloc (Row.alloc RO.out.row _) _) _ 1 1 (pcs t.k t.n t.t (.slice At nt ct) (.slice Bt nt2 ct2)).toList (by rfl) rfl (World.news_of_block (Bk.madeAt (w := w3.alloc (.cells (pcs t.k t.n t.t (.slice At nt ct) (.slice Bt nt2 ct2)) 30)) (b := w3.heap.size + 1) (by simp))) (by simp [Value.oneCell']) (by omega) (by unfold maxLen; omega) (by omega) (hbz _ _) _ rfl ?_; intro g cap' w4 hown hgrow hat hlt; obtain ⟨k9, kO, k4⟩ := qapp_facts M9.out RO.out (by omega) HTV.out HFX2.out hown hgrow hat; obtain ⟨d0, d1, d2, d3, d4, d5, d6, d7, d8, d9, d10⟩ := k9.eleven; have df := k9.free; have K9 := Lib.hid k9; have KO := Lib.hid kO; have K4 := Lib.hid k4; clear k9 kO k4 hown hgrow hat)
            have N9 := Lib.hid (K9.out.setTo 10 (.slice (some ⟨g, 0, none⟩) (0 + 1) cap') (pl 6 (.slice A l.length c) (.slice (some ⟨g, 0, none⟩) (0 + 1) cap')) rfl)
            have o5 : Only [W0.heap.size] w4 (w4.setCell ⟨W0.heap.size, 10, none⟩ (.slice (some ⟨g, 0, none⟩) (0 + 1) cap')) := (Only.refl _ _).set (.inl (by simp)) _
            have NR := Lib.hid (KO.out.only o5 (fun b hb => by rw [List.mem_singleton.1 hb]; exact .inl (by omega)))
            obtain ⟨S4, p4, q4⟩ := K4.out
            have nS : ∀ b, b ∉ S4 := fun b hm => by cases (q4 b hm).2
            have NO := Lib.hid ((MO.out.only p4 (fun b hb => absurd hb (nS b))).only o5 (fun b hb => by rw [List.mem_singleton.1 hb]; exact .inl (by omega)))
            have N4 := Lib.hid ((M4.out.only p4 (nS _)).only o5 (by simp; omega))
            have N7 := Lib.hid ((M7.out.only p4 (nS _)).only o5 (by simp; omega))
            have NN := Lib.hid ((MN.out.trans p4 (fun b hb => absurd hb (nS b))).trans o5 (fun b hb => .inr (by rw [List.mem_singleton.1 hb]; omega)))
            have S5 := Nat.le_trans p4.size o5.size
            clear d0 d1 d2 d3 d4 d5 d6 d7 d8 d9 d10 df t0 t1 t2 t3 t4 t5 t6 t7 t8 t9 t10 s10 o5 p4 q4 nS S4
            generalize w4.setCell ⟨W0.heap.size, 10, none⟩ (.slice (some ⟨g, 0, none⟩) (0 + 1) cap') = w5 at *
            obtain ⟨z, hz⟩ : ∃ z, nxt s m = z := ⟨_, rfl⟩
            have hmz : m ≤ z := by rw [← hz]; exact nxt_ge s m
            have HRP : Hid (∀ stk, qrun s (.go stk 0) i = qrun s (.go (⟨6, l, true, [t]⟩ :: stk) 3) m) := Lib.hid (fun stk => by rw [HRU.out, HRT.out]; rfl)
            by_cases hsh2 : z < s.size ∧ ∃ c, qkAt s z = .sign c ∧ c.toNat = 93
            · obtain ⟨hq1, c2, hc, hc2⟩ := hsh2
              have K3 := Lib.hid (fun w => tq_s s m z c2 m w hs hms rfl hz hq1 hc)
              obtain ⟨n2, hn2⟩ : ∃ n2, z + 1 = n2 := ⟨_, rfl⟩
              rw [hc2, show (z : Int) + 1 = (n2 : Int) by omega] at K3
              have HR2 : Hid (∀ stk, qrun s (.go stk 0) i = qrun s (qput stk (.seq 6 l [t])) n2) := Lib.hid (fun stk => by
                rw [HRP.out, q_shut (o := ⟨6, l, true, [t]⟩) (by rw [hz]; exact hq1) (by rw [hz]; exact hc) (.inr rfl) (by rw [hc2]; rfl) (by decide) stk, hz, qfin_sign hc, hn2])
              clear hz hc hc2
              (with_reducible refine (K3.out _).mono ?_)
              rintro e1 w6 ⟨rfl, o6⟩
              have PR := Lib.hid (NR.out.only o6 (by simp))
              have P4 := Lib.hid (N4.out.only o6 (by simp))
              have P9 := Lib.hid (N9.out.only o6 (by simp))
              have P7 := Lib.hid (N7.out.only o6 (by simp))
              have PO := Lib.hid (NO.out.only o6 (by simp))
              have PN := Lib.hid (NN.out.trans o6 (by simp))
              have S6 := o6.size
              clear o6
              go_wp2_with (refine wpList_store_row (by rfl) _ _ _ (by rfl) w1.heap.size (qtz 93 false z n2) (by rfl) (by rfl) 64 _ P7.out (by kernel_rfl) (by rfl) (by simp [Value.oneCell']) ?_; generalize hW : World.setRow _ _ _ = W7; obtain ⟨Q7, O12⟩ := row_set P7.out hW; clear hW; have Q4 := P4.out.only O12 (by simp; omega); have Q9 := P9.out.only O12 (by simp; omega); have QO := PO.out.only O12 (fun b hb => .inl (by rw [List.mem_singleton.1 hb]; omega)); have QN := PN.out.trans O12 (fun b hb => .inr (by rw [List.mem_singleton.1 hb]; omega)); have S7 := O12.size; obtain ⟨u0, u1, u2, u3, u4, u5, u6, u7, u8, u9, u10, u11, u12, u13, u14, u15⟩ := Q7.sixteen; obtain ⟨x0, x1, x2, x3, x4, x5, x6, x7, x8, x9, x10⟩ := Q9.eleven)
              have QR := PR.out.only O12 (fun b hb => .inl (by rw [List.mem_singleton.1 hb]; omega))
              obtain ⟨z0, z1, z2, z3, z4, z5, z6, z7, z8, z9, z10⟩ := Q4.eleven
              have zf := Q4.free
              go_region
              go_wp2_with fail
              generalize hW : World.setCell _ ⟨_, 10, none⟩ _ = W8 at *
              obtain ⟨B7, O7⟩ := put11 Q4 hW.symm
              clear hW u0 u1 u2 u3 u4 u5 u6 u7 u8 u9 u10 u11 u12 u13 u14 u15 x0 x1 x2 x3 x4 x5 x6 x7 x8 x9 x10 z0 z1 z2 z3 z4 z5 z6 z7 z8 z9 z10 zf
              obtain ⟨F1, hF1, hT1⟩ := QO.whole
              obtain ⟨F2, hF2, hT2⟩ := QR.whole
              obtain ⟨F', hFd⟩ : ∃ F' : Nat → Prop, F' = fun b => F1 b ∨ F2 b := ⟨_, rfl⟩
              have hF' : ∀ b, F' b → w.heap.size ≤ b ∧ b < W7.heap.size := fun b hb => by
                rw [hFd] at hb
                rcases hb with hb | hb
                · exact ⟨by have := (hF1 b hb).1; omega, (hF1 b hb).2⟩
                · exact ⟨by have := (hF2 b hb).1; omega, (hF2 b hb).2⟩
              have hTT : QV _ F' (.seq 6 l [t]) _ _ := QV.seq.2 ⟨QL.only (Only.refl [] _) (by simp) (fun b hb => by rw [hFd]; exact .inl hb) hT1, QL.only (Only.refl [] _) (by simp) (fun b hb => by rw [hFd]; exact .inr hb) hT2⟩
              have T7 := QV.only O7 (fun b hb hf => by
                rw [hFd] at hf
                rw [List.mem_singleton.1 hb] at hf
                rcases hf with hf | hf
                · have := (hF1 _ hf).1; omega
                · have := (hF2 _ hf).1; omega) (fun _ h => h) _ _ _ hTT
              have B8 := B7.drew
              have O8 := (QN.trans O7 (fun b hb => .inr (by rw [List.mem_singleton.1 hb]; omega))).drew
              have S8 := O7.size
              have T8 := T7.same ((Only.refl [] W8).drew)
              have F8 : ∀ b, F' b → w.heap.size ≤ b ∧ b < W8.drew.heap.size := fun b hb => ⟨(hF' b hb).1, Nat.lt_of_lt_of_le (hF' b hb).2 S8⟩
              generalize W8.drew = W9 at *
              exact res3 Tryz.results23 B8 (by rfl) (by rfl) (by rfl) (by rfl) Tryz.underlying30 (by kernel_rfl) rfl ⟨.inl ⟨.seq 6 l [t], n2, (.slice A l.length c), (.slice (some ⟨g, 0, none⟩) (0 + 1) cap'), F', rfl, by omega, by omega, F8, T8, HR2.out⟩, O8⟩
            · have K3 := Lib.hid (fun w => tq_y s m z 93 93 93 m w hs hms rfl hz (by decide) (by decide) (by decide) (fun b hb1 hb2 => ⟨fun e => hsh2 ⟨hb1, b, hb2, e⟩, fun e => hsh2 ⟨hb1, b, hb2, e⟩, fun e => hsh2 ⟨hb1, b, hb2, e⟩⟩))
              have HR2 : Hid (∀ stk, qrun s (.go stk 0) i = .error z) := Lib.hid (fun stk => by
                rw [HRP.out, q_rest (o := ⟨6, l, true, [t]⟩) hms (.inr rfl) (fun b hb1 hb2 => ⟨(qk_sign hb2).2, fun e => hsh2 ⟨by rw [← hz]; exact hb1, b, by rw [← hz]; exact hb2, e⟩⟩), hz])
              clear hz hsh2
              (with_reducible refine (K3.out _).mono ?_)
              rintro e1 w6 ⟨⟨wh2, k2, n2, t2, sg2, en2, nx2, rfl, hk4, hk5, hk6⟩, o6⟩
              have P4 := Lib.hid (N4.out.only o6 (by simp))
              have P9 := Lib.hid (N9.out.only o6 (by simp))
              have P7 := Lib.hid (N7.out.only o6 (by simp))
              have PO := Lib.hid (NO.out.only o6 (by simp))
              have PN := Lib.hid (NN.out.trans o6 (by simp))
              have S6 := o6.size
              clear o6
              have g6 : (sg2 != 93) = true := bne_iff_ne.2 hk4
              clear hk4 hk5 hk6
              go_wp2_with (refine wpList_store_row (by rfl) _ _ _ (by rfl) w1.heap.size (qtok wh2 k2 n2 t2 sg2 en2 z nx2) (by rfl) (by rfl) 64 _ P7.out (by kernel_rfl) (by rfl) (by simp [Value.oneCell']) ?_; generalize hW : World.setRow _ _ _ = W7; obtain ⟨Q7, O12⟩ := row_set P7.out hW; clear hW; have Q4 := P4.out.only O12 (by simp; omega); have Q9 := P9.out.only O12 (by simp; omega); have QO := PO.out.only O12 (fun b hb => .inl (by rw [List.mem_singleton.1 hb]; omega)); have QN := PN.out.trans O12 (fun b hb => .inr (by rw [List.mem_singleton.1 hb]; omega)); have S7 := O12.size; obtain ⟨u0, u1, u2, u3, u4, u5, u6, u7, u8, u9, u10, u11, u12, u13, u14, u15⟩ := Q7.sixteen; obtain ⟨x0, x1, x2, x3, x4, x5, x6, x7, x8, x9, x10⟩ := Q9.eleven)
              clear O12
              obtain ⟨z0, z1, z2, z3, z4, z5, z6, z7, z8, z9, z10⟩ := Q4.eleven
              have zf := Q4.free
              go_region
              go_wp2_with fail
              generalize hW : World.setCell _ ⟨_, 10, none⟩ _ = W8 at *
              obtain ⟨B7, O7⟩ := put11 Q4 hW.symm
              clear hW u0 u1 u2 u3 u4 u5 u6 u7 u8 u9 u10 u11 u12 u13 u14 u15 x0 x1 x2 x3 x4 x5 x6 x7 x8 x9 x10 z0 z1 z2 z3 z4 z5 z6 z7 z8 z9 z10 zf
              have B8 := B7.drew
              have O8 := (QN.trans O7 (fun b hb => .inr (by rw [List.mem_singleton.1 hb]; omega))).drew
              generalize W8.drew = W9 at *
              exact res3 Tryz.results23 B8 (by rfl) (by rfl) (by rfl) (by rfl) Tryz.underlying30 (by kernel_rfl) rfl ⟨.inr ⟨z, rfl, HR2.out⟩, O8⟩
          · have HRT := Lib.hid hrt
            have HRE : Hid (∀ stk, qrun s (.go stk 0) i = .error bad) := Lib.hid (fun stk => by rw [HRU.out, HRT.out])
            clear hrt
            obtain ⟨z0, z1, z2, z3, z4, z5, z6, z7, z8, z9, z10⟩ := M4.out.eleven
            have zf := M4.out.free
            have L4' := M4.out.lt
            go_wp2_with fail
            generalize hW : World.setCell _ ⟨_, 10, none⟩ _ = W8 at *
            obtain ⟨B7, O7⟩ := put11 M4.out hW.symm
            clear hW z0 z1 z2 z3 z4 z5 z6 z7 z8 z9 z10 zf
            generalize hW : World.alloc W8 _ = W9 at *
            have B8 := Bk.al hW B7
            have O8 := Only.al hW (MN.out.trans O7 (fun b hb => .inr (by rw [List.mem_singleton.1 hb]; omega)))
            clear hW
            exact res3 Tryz.results23 B8 (by rfl) (by rfl) (by rfl) (by rfl) Tryz.underlying30 (by kernel_rfl) rfl ⟨.inr ⟨bad, rfl, HRE.out⟩, O8⟩
    · have K2 := Lib.hid (fun w => tq_y s f q 93 124 124 f w hs hfs rfl hq (by decide) (by decide) (by decide) (fun b hb1 hb2 => ⟨fun e => hsh ⟨hb1, b, hb2, e⟩, fun e => hba ⟨hb1, b, hb2, e⟩, fun e => hba ⟨hb1, b, hb2, e⟩⟩))
      have R1 : ∀ stk, qrun s (.go stk 0) i = qrun s (.go (⟨6, [], false, []⟩ :: stk) 0) f := fun stk => by
        rw [HR.out, q_start (o := ⟨6, [], false, []⟩) hfs (.inr rfl) (fun b hb1 hb2 => ⟨(qk_sign hb2).2, fun e => hsh ⟨by rw [← hq]; exact hb1, b, by rw [← hq]; exact hb2, e⟩, fun e => hba ⟨by rw [← hq]; exact hb1, b, by rw [← hq]; exact hb2, e.1⟩⟩)]
      have HR1 := Lib.hid R1
      clear R0 R1 hjn hj h hb hf hge ih hff hq hsh hba
      go_enter Tryz.func23, Tryz.ntmps23
      go_wp2_with fail
      (with_reducible refine (K0.out _).mono ?_)
      rintro e1 w1 ⟨rfl, o1⟩
      have B1 := Lib.hid (B0.out.only o1 (by simp))
      have O1 := Lib.hid (O0.out.trans o1 (by simp))
      have L1 := B1.out.lt
      clear o1
      go_wp2_with (first | (refine wpList_store_row (by rfl) _ _ _ (by rfl) w1.heap.size (qtz 91 false j f) (by rfl) (by rfl) 64 _ (Bk.made w1 64 (qtz 0 false 0 0)) (by kernel_rfl) (by rfl) (by simp [Value.oneCell']) ?_; generalize hW : World.setRow _ _ _ = W0; obtain ⟨c7, k7⟩ := row_set (Bk.made w1 64 (qtz 0 false 0 0)) hW; clear hW; obtain ⟨y0, y1, y2, y3, y4, y5, y6, y7, y8, y9, y10, y11, y12, y13, y14, y15⟩ := c7.sixteen; have s7 := k7.size; have hlt7 : w1.heap.size < W0.heap.size := c7.lt; have hne7 : w1.heap.size ≠ W0.heap.size := Nat.ne_of_lt hlt7; have hne8 : W0.heap.size ≠ w1.heap.size := (Nat.ne_of_lt hlt7).symm) | (refine wpList_store_row (by rfl) _ _ _ (by rfl) W0.heap.size (pl 5 (.slice none 0 0) (.slice none 0 0)) (by rfl) (by rfl) 30 _ (Bk.made W0 30 P11) (by kernel_rfl) (by rfl) (by simp [Value.oneCell']) ?_; generalize hW : World.setRow _ _ _ = W1; obtain ⟨c9, k9⟩ := row_set (Bk.made W0 30 P11) hW; clear hW; have c7b := (c7.alloc (.cells P11 30)).only k9 (by simp; omega); obtain ⟨v0, v1, v2, v3, v4, v5, v6, v7, v8, v9, v10, v11, v12, v13, v14, v15⟩ := c7b.sixteen; obtain ⟨x0, x1, x2, x3, x4, x5, x6, x7, x8, x9, x10⟩ := c9.eleven; have zf := c9.free))

      have b4 := ((B1.out.alloc _).only k7 (by simp; omega)).alloc (.cells P11 30) |>.only k9 (by simp; omega)
      have o1 := (((O1.out.alloc _).trans k7 (fun b hb => .inr (by rw [List.mem_singleton.1 hb]; omega))).alloc (.cells P11 30)).trans k9 (fun b hb => .inr (by rw [List.mem_singleton.1 hb]; omega))
      have b7 := c7b.u16
      have b9 := c9
      clear y0 y1 y2 y3 y4 y5 y6 y7 y8 y9 y10 y11 y12 y13 y14 y15 v0 v1 v2 v3 v4 v5 v6 v7 v8 v9 v10 v11 v12 v13 v14 v15 x0 x1 x2 x3 x4 x5 x6 x7 x8 x9 x10 zf c7 c7b c9 k7 k9

      have o6 : Only [W0.heap.size] W1 (W1.setCell ⟨W0.heap.size, 0, none⟩ (.int .i64 6)) := (Only.refl _ _).set (.inl (by simp)) _
      have b9 := b9.setTo 0 (.int .i64 6) (pl 6 (.slice none 0 0) (.slice none 0 0)) rfl
      have b4 := b4.only o6 (by simp; omega)
      have o1 := o1.trans o6 (fun b hb => .inr (by rw [List.mem_singleton.1 hb]; omega))
      have b7 : ∃ u : Fin 16 → Value, Bk (W1.setCell ⟨W0.heap.size, 0, none⟩ (.int .i64 6)) w1.heap.size 64 (tkU u) := by
        obtain ⟨u, h⟩ := b7
        exact ⟨u, h.only o6 (by simp; omega)⟩
      generalize W1.setCell ⟨W0.heap.size, 0, none⟩ (.int .i64 6) = W2 at *
      clear o6
      (with_reducible refine (K2.out _).mono ?_)
      rintro e1 w2 ⟨⟨wh, k, n, tt, sg, en, nx, rfl, hk1, hk2, -⟩, o2⟩
      have g1 : (sg == 93) = false := beq_eq_false_iff_ne.2 hk1
      have g2 : (sg == 124) = false := beq_eq_false_iff_ne.2 hk2
      clear hk1 hk2
      have B2 := Lib.hid (b4.only o2 (by simp))
      have E2 := Lib.hid (b9.only o2 (by simp))
      have O2 := Lib.hid (o1.trans o2 (by simp))
      have l2 := o2.size
      obtain ⟨u, b7⟩ := b7
      have T2 := Lib.hid (b7.only o2 (by simp))
      clear b4 b7 b9 o1 o2
      have L9 := E2.out.lt
      have L4 := B2.out.lt
      have L7 := T2.out.lt
      obtain ⟨x0, x1, x2, x3, x4, x5, x6, x7, x8, x9, x10⟩ := E2.out.eleven
      go_wp2_with (refine wpList_store_row (by rfl) _ _ _ (by rfl) w2.heap.size (qtok wh k n tt sg en q nx) (by rfl) (by rfl) 64 _ (Bk.made w2 64 (qtz 0 false 0 0)) (by kernel_rfl) (by rfl) (by simp [Value.oneCell']) ?_; generalize hW : World.setRow _ _ _ = W3; obtain ⟨cf, kf⟩ := row_set (Bk.made w2 64 (qtz 0 false 0 0)) hW; clear hW; obtain ⟨y0, y1, y2, y3, y4, y5, y6, y7, y8, y9, y10, y11, y12, y13, y14, y15⟩ := cf.sixteen; have xe := ((E2.out.alloc (.cells (qtz 0 false 0 0) 64)).only kf (by simp; omega)); obtain ⟨v0, v1, v2, v3, v4, v5, v6, v7, v8, v9, v10⟩ := xe.eleven; have lf : w2.heap.size < W3.heap.size := cf.lt)
      have B3 := Lib.hid ((B2.out.alloc _).only kf (by simp; omega))
      have E3 := Lib.hid ((E2.out.alloc _).only kf (by simp; omega))
      have T3 := Lib.hid ((T2.out.alloc _).only kf (by simp; omega))
      have O3 := Lib.hid ((O2.out.alloc _).trans kf (fun b hb => .inr (by rw [List.mem_singleton.1 hb]; omega)))
      have l3 := kf.size
      have D3 := Lib.hid cf
      clear kf cf
      have HX0 := Lib.hid (QOut.none W3 (Nat.le_refl _))
      obtain ⟨Bs, hBs⟩ : ∃ Bs, W3.heap.size = Bs := ⟨_, rfl⟩
      rw [hBs] at HX0
      clear x0 x1 x2 x3 x4 x5 x6 x7 x8 x9 x10 y0 y1 y2 y3 y4 y5 y6 y7 y8 y9 y10 y11 y12 y13 y14 y15 v0 v1 v2 v3 v4 v5 v6 v7 v8 v9 v10 xe
      go_loopw [1, 11] (fun av mv wr => ∃ (p : Nat) (l : List QT) (xs : List Value) (F : Nat → Prop) (A : Option Addr) (c : Nat) (u : Fin 16 → Value) (mo : Bool) (md : Nat), av = .int .i64 p ∧ mv = .bool mo ∧ i < p ∧ p ≤ s.size ∧ l.length ≤ p ∧ (mo = true ∧ md = 0 ∨ mo = false ∧ (md = 1 ∨ md = 2) ∧ nxt s p < s.size ∧ ∃ c, qkAt s (nxt s p) = .sign c ∧ c.toNat = 124) ∧ (∀ stk, qrun s (.go stk 0) i = qrun s (.go (⟨6, l, false, []⟩ :: stk) md) p) ∧ Bk wr w.heap.size 30 P11 ∧ Bk wr W0.heap.size 30 (pl 6 (.slice A l.length c) (.slice none 0 0)) ∧ Bk wr w1.heap.size 64 (tkU u) ∧ QOut wr Bs F (.slice A l.length c) l xs ∧ Only [] w wr) (fun av _ _ => s.size - (intOf av).toNat)
      case atStart => exact ⟨f, [], [], fun _ => False, Option.none, 0, u, true, 0, rfl, rfl, hfi, hfs, Nat.zero_le _, .inl ⟨rfl, rfl⟩, HR1.out, B3.out, E3.out, T3.out, HX0.out, O3.out⟩
      case round =>
        obtain ⟨p, l, xs, F, A, c, u, mo, md, rfl, rfl, hip, hps, hlp, hmo, hrun, r4, r9, r7, hout, hon⟩ := hrel
        have HB4 := Lib.hid r4
        have HB9 := Lib.hid r9
        have HB7 := Lib.hid r7
        have HO := Lib.hid hout
        have HN := Lib.hid hon
        have L9 := r9.lt
        have L7 := r7.lt
        have L4 := r4.lt
        have LB := hout.le
        rcases hmo with ⟨rfl, rfl⟩ | ⟨rfl, hmd, hz1, c5, hc5, hc6⟩
        · have HRU := Lib.hid hrun
          clear r4 r9 r7 hout hon hrun
          have T := Lib.hid (IH.out p wr hip hps)
          go_wp2_with fail
          (with_reducible refine (T.out).mono ?_)
          rintro e1 w3 ⟨hte, o3⟩
          have M4 := Lib.hid (HB4.out.only o3 (by simp))
          have M9 := Lib.hid (HB9.out.only o3 (by simp))
          have M7 := Lib.hid (HB7.out.only o3 (by simp))
          have MO := Lib.hid (HO.out.only o3 (by simp))
          have MN := Lib.hid (HN.out.trans o3 (by simp))
          have S3 := o3.size
          clear o3
          rcases hte with ⟨t, m, pa, pb, Fx, rfl, hpm, hms, hFx, htv, hrt⟩ | ⟨bad, rfl, hrt⟩
          · obtain ⟨At, nt, ct, Bt, nt2, ct2, rfl, rfl⟩ := htv.slices
            have HFX := Lib.hid hFx
            have HTV := Lib.hid htv
            have HRT := Lib.hid hrt
            clear hFx htv hrt
            have N13 := Lib.hid (Bk.made w3 30 (pcs t.k t.n t.t (.slice At nt ct) (.slice Bt nt2 ct2)))
            obtain ⟨t0, t1, t2, t3, t4, t5, t6, t7, t8, t9, t10⟩ := N13.out.eleven
            have HFX2 := Lib.hid (show ∀ b, Fx b → Bs ≤ b ∧ b < w3.heap.size ∧ (Value.slice A l.length c).ownBlock ≠ some b from fun b hb => ⟨Nat.le_trans HO.out.le (HFX.out b hb).1, (HFX.out b hb).2, fun e => by have := (Row.block HO.out.row e).2; have := (HFX.out b hb).1; omega⟩)
            have s9 : ∀ o, (w3.alloc o).cell? ⟨W0.heap.size, 9, none⟩ = some (.slice A l.length c) := fun o => (M9.out.alloc o).cell0 rfl
            obtain ⟨inf, hi0, hz0, hz1, hz2⟩ := qinfo info_pat
            have hbz : ∀ o1 o2, Bs ≤ ((w3.alloc o1).alloc o2).heap.size := fun o1 o2 => by have := MO.out.le; simp; omega
            go_wp2_with (at_builtin; refine wpList_append_lies _ (by rfl) _ _ _ (by rfl) Bs 30 inf _ 11 152 Tryz.underlying28 hi0 hz0 hz1 hz2 rfl (by omega) _ l.length xs (by rfl) (Row.alloc (Row.alloc MO.out.row _) _) _ 1 1 (pcs t.k t.n t.t (.slice At nt ct) (.slice Bt nt2 ct2)).toList (by rfl) rfl (World.news_of_block (Bk.madeAt (w := w3.alloc (.cells (pcs t.k t.n t.t (.slice At nt ct) (.slice Bt nt2 ct2)) 30)) (b := w3.heap.size + 1) (by simp))) (by simp [Value.oneCell']) (by omega) (by unfold maxLen; omega) (by omega) (hbz _ _) _ rfl ?_; intro g cap' w4 hown hgrow hat hlt; obtain ⟨k9, kO, k4⟩ := qapp_facts M9.out MO.out (by omega) HTV.out HFX2.out hown hgrow hat; obtain ⟨d0, d1, d2, d3, d4, d5, d6, d7, d8, d9, d10⟩ := k9.eleven; have df := k9.free; have K9 := Lib.hid k9; have KO := Lib.hid kO; have K4 := Lib.hid k4; clear k9 kO k4 hown hgrow hat)
            have N9 := Lib.hid (K9.out.setTo 9 (.slice (some ⟨g, 0, none⟩) (l.length + 1) cap') (pl 6 (.slice (some ⟨g, 0, none⟩) (l.length + 1) cap') (.slice none 0 0)) rfl)
            have o5 : Only [W0.heap.size] w4 (w4.setCell ⟨W0.heap.size, 9, none⟩ (.slice (some ⟨g, 0, none⟩) (l.length + 1) cap')) := (Only.refl _ _).set (.inl (by simp)) _
            have NO := Lib.hid (KO.out.only o5 (fun b hb => by rw [List.mem_singleton.1 hb]; exact .inl (by omega)))
            obtain ⟨S4, p4, q4⟩ := K4.out
            have nS : ∀ b, b < Bs → b ∉ S4 := fun b hb hm => by have := (q4 b hm).1; omega
            have N4 := Lib.hid ((M4.out.only p4 (nS _ (by omega))).only o5 (by simp; omega))
            have N7 := Lib.hid ((M7.out.only p4 (nS _ (by omega))).only o5 (by simp; omega))
            have NN := Lib.hid ((MN.out.trans p4 (fun b hb => .inr (by have := (q4 b hb).1; omega))).trans o5 (fun b hb => .inr (by rw [List.mem_singleton.1 hb]; omega)))
            have S5 := Nat.le_trans p4.size o5.size
            clear d0 d1 d2 d3 d4 d5 d6 d7 d8 d9 d10 df t0 t1 t2 t3 t4 t5 t6 t7 t8 t9 t10 s9 o5 p4 q4 nS S4
            generalize w4.setCell ⟨W0.heap.size, 9, none⟩ (.slice (some ⟨g, 0, none⟩) (l.length + 1) cap') = w5 at *
            obtain ⟨z, hz⟩ : ∃ z, nxt s m = z := ⟨_, rfl⟩
            have hmz : m ≤ z := by rw [← hz]; exact nxt_ge s m
            have HRP : Hid (∀ stk, qrun s (.go stk 0) i = qrun s (.go (⟨6, l ++ [t], false, []⟩ :: stk) 2) m) := Lib.hid (fun stk => by rw [HRU.out, HRT.out]; rfl)
            have hll : (l ++ [t]).length = l.length + 1 := by simp
            by_cases hsh2 : z < s.size ∧ ∃ c, qkAt s z = .sign c ∧ c.toNat = 93
            · obtain ⟨hq1, c2, hc, hc2⟩ := hsh2
              have K3 := Lib.hid (fun w => tq_s s m z c2 m w hs hms rfl hz hq1 hc)
              obtain ⟨n2, hn2⟩ : ∃ n2, z + 1 = n2 := ⟨_, rfl⟩
              rw [hc2, show (z : Int) + 1 = (n2 : Int) by omega] at K3
              have HR2 : Hid (∀ stk, qrun s (.go stk 0) i = qrun s (qput stk (.seq 6 (l ++ [t]) [])) n2) := Lib.hid (fun stk => by
                rw [HRP.out, q_shut (o := ⟨6, l ++ [t], false, []⟩) (by rw [hz]; exact hq1) (by rw [hz]; exact hc) (.inr rfl) (by rw [hc2]; rfl) (by decide) stk, hz, qfin_sign hc, hn2])
              clear hz hc hc2
              (with_reducible refine (K3.out _).mono ?_)
              rintro e1 w6 ⟨rfl, o6⟩
              have P4 := Lib.hid (N4.out.only o6 (by simp))
              have P9 := Lib.hid (N9.out.only o6 (by simp))
              have P7 := Lib.hid (N7.out.only o6 (by simp))
              have PO := Lib.hid (NO.out.only o6 (by simp))
              have PN := Lib.hid (NN.out.trans o6 (by simp))
              have S6 := o6.size
              clear o6
              go_wp2_with (refine wpList_store_row (by rfl) _ _ _ (by rfl) w1.heap.size (qtz 93 false z n2) (by rfl) (by rfl) 64 _ P7.out (by kernel_rfl) (by rfl) (by simp [Value.oneCell']) ?_; generalize hW : World.setRow _ _ _ = W7; obtain ⟨Q7, O12⟩ := row_set P7.out hW; clear hW; have Q4 := P4.out.only O12 (by simp; omega); have Q9 := P9.out.only O12 (by simp; omega); have QO := PO.out.only O12 (fun b hb => .inl (by rw [List.mem_singleton.1 hb]; omega)); have QN := PN.out.trans O12 (fun b hb => .inr (by rw [List.mem_singleton.1 hb]; omega)); have S7 := O12.size; obtain ⟨u0, u1, u2, u3, u4, u5, u6, u7, u8, u9, u10, u11, u12, u13, u14, u15⟩ := Q7.sixteen; obtain ⟨x0, x1, x2, x3, x4, x5, x6, x7, x8, x9, x10⟩ := Q9.eleven)
              obtain ⟨z0, z1, z2, z3, z4, z5, z6, z7, z8, z9, z10⟩ := Q4.eleven
              have zf := Q4.free
              go_region
              go_wp2_with fail
              generalize hW : World.setCell _ ⟨_, 10, none⟩ _ = W8 at *
              obtain ⟨B7, O7⟩ := put11 Q4 hW.symm
              clear hW u0 u1 u2 u3 u4 u5 u6 u7 u8 u9 u10 u11 u12 u13 u14 u15 x0 x1 x2 x3 x4 x5 x6 x7 x8 x9 x10 z0 z1 z2 z3 z4 z5 z6 z7 z8 z9 z10 zf
              obtain ⟨F', hF0, hT'⟩ := QO.whole
              have hF' : ∀ b, F' b → w.heap.size ≤ b ∧ b < W7.heap.size := fun b hb => ⟨by have := (hF0 b hb).1; omega, (hF0 b hb).2⟩
              have T7 := QV.only O7 (fun b hb hf => by have := (hF0 b hf).1; rw [List.mem_singleton.1 hb] at this; omega) (fun _ h => h) _ _ _ (QV.seq.2 ⟨hT', QL.nil _ _⟩ : QV _ F' (.seq 6 (l ++ [t]) []) _ _)
              have B8 := B7.drew
              have O8 := (QN.trans O7 (fun b hb => .inr (by rw [List.mem_singleton.1 hb]; omega))).drew
              have S8 := O7.size
              have T8 := T7.same ((Only.refl [] W8).drew)
              have F8 : ∀ b, F' b → w.heap.size ≤ b ∧ b < W8.drew.heap.size := fun b hb => ⟨(hF' b hb).1, Nat.lt_of_lt_of_le (hF' b hb).2 S8⟩
              generalize W8.drew = W9 at *
              exact res3 Tryz.results23 B8 (by rfl) (by rfl) (by rfl) (by rfl) Tryz.underlying30 (by kernel_rfl) rfl ⟨.inl ⟨.seq 6 (l ++ [t]) [], n2, (.slice (some ⟨g, 0, none⟩) (l.length + 1) cap'), (.slice none 0 0), F', rfl, by omega, by omega, F8, T8, HR2.out⟩, O8⟩
            · by_cases hba : z < s.size ∧ ∃ c, qkAt s z = .sign c ∧ c.toNat = 124
              · have HBA := Lib.hid hba
                obtain ⟨hq1, c2, hc, hc2⟩ := hba
                have K3 := Lib.hid (fun w => tq_s s m z c2 m w hs hms rfl hz hq1 hc)
                rw [hc2] at K3
                have HZ := Lib.hid hz
                clear hz hc hc2 hsh2
                (with_reducible refine (K3.out _).mono ?_)
                rintro e1 w6 ⟨rfl, o6⟩
                have P4 := Lib.hid (N4.out.only o6 (by simp))
                have P9 := Lib.hid (N9.out.only o6 (by simp))
                have P7 := Lib.hid (N7.out.only o6 (by simp))
                have PO := Lib.hid (NO.out.only o6 (by simp))
                have PN := Lib.hid (NN.out.trans o6 (by simp))
                have S6 := o6.size
                clear o6
                go_wp2_with (refine wpList_store_row (by rfl) _ _ _ (by rfl) w1.heap.size (qtz 124 false z ((z : Int) + 1)) (by rfl) (by rfl) 64 _ P7.out (by kernel_rfl) (by rfl) (by simp [Value.oneCell']) ?_; generalize hW : World.setRow _ _ _ = W7; obtain ⟨Q7, O12⟩ := row_set P7.out hW; clear hW; have Q4 := P4.out.only O12 (by simp; omega); have Q9 := P9.out.only O12 (by simp; omega); have QO := PO.out.only O12 (fun b hb => .inl (by rw [List.mem_singleton.1 hb]; omega)); have QN := PN.out.trans O12 (fun b hb => .inr (by rw [List.mem_singleton.1 hb]; omega)); have S7 := O12.size; obtain ⟨u0, u1, u2, u3, u4, u5, u6, u7, u8, u9, u10, u11, u12, u13, u14, u15⟩ := Q7.sixteen; obtain ⟨x0, x1, x2, x3, x4, x5, x6, x7, x8, x9, x10⟩ := Q9.eleven)
                clear O12
                go_roundw
                case rel =>
                  obtain ⟨u', Q7'⟩ := Q7.u16
                  exact ⟨m, l ++ [t], _, _, some ⟨g, 0, none⟩, cap', u', false, 2, rfl, rfl, by omega, by omega, by omega, .inr ⟨rfl, .inr rfl, by rw [HZ.out]; exact HBA.out.1, by rw [HZ.out]; exact HBA.out.2⟩, HRP.out, Q4, by rw [hll]; exact Q9, Q7', by rw [hll]; exact QO, QN⟩
                case measure =>
                  simp [intOf]
                  omega
              · by_cases hco : z < s.size ∧ ∃ c, qkAt s z = .sign c ∧ c.toNat = 44
                · obtain ⟨hq1, c2, hc, hc2⟩ := hco
                  have K3 := Lib.hid (fun w => tq_s s m z c2 m w hs hms rfl hz hq1 hc)
                  obtain ⟨n2, hn2⟩ : ∃ n2, z + 1 = n2 := ⟨_, rfl⟩
                  rw [hc2, show (z : Int) + 1 = (n2 : Int) by omega] at K3
                  have HR2 : Hid (∀ stk, qrun s (.go stk 0) i = qrun s (.go (⟨6, l ++ [t], false, []⟩ :: stk) 0) n2) := Lib.hid (fun stk => by
                    rw [HRP.out, q_comma (by rw [hz]; exact hq1) (by rw [hz]; exact hc) hc2, hz, qfin_sign hc, hn2])
                  clear hz hc hc2 hsh2 hba
                  (with_reducible refine (K3.out _).mono ?_)
                  rintro e1 w6 ⟨rfl, o6⟩
                  have P4 := Lib.hid (N4.out.only o6 (by simp))
                  have P9 := Lib.hid (N9.out.only o6 (by simp))
                  have P7 := Lib.hid (N7.out.only o6 (by simp))
                  have PO := Lib.hid (NO.out.only o6 (by simp))
                  have PN := Lib.hid (NN.out.trans o6 (by simp))
                  have S6 := o6.size
                  clear o6
                  go_wp2_with (refine wpList_store_row (by rfl) _ _ _ (by rfl) w1.heap.size (qtz 44 false z n2) (by rfl) (by rfl) 64 _ P7.out (by kernel_rfl) (by rfl) (by simp [Value.oneCell']) ?_; generalize hW : World.setRow _ _ _ = W7; obtain ⟨Q7, O12⟩ := row_set P7.out hW; clear hW; have Q4 := P4.out.only O12 (by simp; omega); have Q9 := P9.out.only O12 (by simp; omega); have QO := PO.out.only O12 (fun b hb => .inl (by rw [List.mem_singleton.1 hb]; omega)); have QN := PN.out.trans O12 (fun b hb => .inr (by rw [List.mem_singleton.1 hb]; omega)); have S7 := O12.size; obtain ⟨u0, u1, u2, u3, u4, u5, u6, u7, u8, u9, u10, u11, u12, u13, u14, u15⟩ := Q7.sixteen; obtain ⟨x0, x1, x2, x3, x4, x5, x6, x7, x8, x9, x10⟩ := Q9.eleven)
                  clear O12
                  go_roundw
                  case rel =>
                    obtain ⟨u', Q7'⟩ := Q7.u16
                    exact ⟨n2, l ++ [t], _, _, some ⟨g, 0, none⟩, cap', u', true, 0, rfl, rfl, by omega, by omega, by omega, .inl ⟨rfl, rfl⟩, HR2.out, Q4, by rw [hll]; exact Q9, Q7', by rw [hll]; exact QO, QN⟩
                  case measure =>
                    simp [intOf]
                    omega
                · have K3 := Lib.hid (fun w => tq_y s m z 93 44 124 m w hs hms rfl hz (by decide) (by decide) (by decide) (fun b hb1 hb2 => ⟨fun e => hsh2 ⟨hb1, b, hb2, e⟩, fun e => hco ⟨hb1, b, hb2, e⟩, fun e => hba ⟨hb1, b, hb2, e⟩⟩))
                  have HR2 : Hid (∀ stk, qrun s (.go stk 0) i = .error z) := Lib.hid (fun stk => by
                    rw [HRP.out, q_other (o := ⟨6, l ++ [t], false, []⟩) hms (.inr rfl) (fun b hb1 hb2 => ⟨(qk_sign hb2).2, fun e => hsh2 ⟨by rw [← hz]; exact hb1, b, by rw [← hz]; exact hb2, e⟩, fun e => hco ⟨by rw [← hz]; exact hb1, b, by rw [← hz]; exact hb2, e⟩, fun e => hba ⟨by rw [← hz]; exact hb1, b, by rw [← hz]; exact hb2, e.1⟩⟩), hz])
                  clear hz hsh2 hco hba
                  (with_reducible refine (K3.out _).mono ?_)
                  rintro e1 w6 ⟨⟨wh2, k2, n2, t2, sg2, en2, nx2, rfl, hk4, hk5, hk6⟩, o6⟩
                  have P4 := Lib.hid (N4.out.only o6 (by simp))
                  have P9 := Lib.hid (N9.out.only o6 (by simp))
                  have P7 := Lib.hid (N7.out.only o6 (by simp))
                  have PO := Lib.hid (NO.out.only o6 (by simp))
                  have PN := Lib.hid (NN.out.trans o6 (by simp))
                  have S6 := o6.size
                  clear o6
                  have g6 : (sg2 == 93) = false := beq_eq_false_iff_ne.2 hk4
                  have g7 : (sg2 != 44) = true := bne_iff_ne.2 hk5
                  have g8 : (sg2 == 124) = false := beq_eq_false_iff_ne.2 hk6
                  clear hk4 hk5 hk6
                  go_wp2_with (refine wpList_store_row (by rfl) _ _ _ (by rfl) w1.heap.size (qtok wh2 k2 n2 t2 sg2 en2 z nx2) (by rfl) (by rfl) 64 _ P7.out (by kernel_rfl) (by rfl) (by simp [Value.oneCell']) ?_; generalize hW : World.setRow _ _ _ = W7; obtain ⟨Q7, O12⟩ := row_set P7.out hW; clear hW; have Q4 := P4.out.only O12 (by simp; omega); have Q9 := P9.out.only O12 (by simp; omega); have QO := PO.out.only O12 (fun b hb => .inl (by rw [List.mem_singleton.1 hb]; omega)); have QN := PN.out.trans O12 (fun b hb => .inr (by rw [List.mem_singleton.1 hb]; omega)); have S7 := O12.size; obtain ⟨u0, u1, u2, u3, u4, u5, u6, u7, u8, u9, u10, u11, u12, u13, u14, u15⟩ := Q7.sixteen; obtain ⟨x0, x1, x2, x3, x4, x5, x6, x7, x8, x9, x10⟩ := Q9.eleven)
                  clear O12
                  obtain ⟨z0, z1, z2, z3, z4, z5, z6, z7, z8, z9, z10⟩ := Q4.eleven
                  have zf := Q4.free
                  go_region
                  go_wp2_with fail
                  generalize hW : World.setCell _ ⟨_, 10, none⟩ _ = W8 at *
                  obtain ⟨B7, O7⟩ := put11 Q4 hW.symm
                  clear hW u0 u1 u2 u3 u4 u5 u6 u7 u8 u9 u10 u11 u12 u13 u14 u15 x0 x1 x2 x3 x4 x5 x6 x7 x8 x9 x10 z0 z1 z2 z3 z4 z5 z6 z7 z8 z9 z10 zf
                  have B8 := B7.drew
                  have O8 := (QN.trans O7 (fun b hb => .inr (by rw [List.mem_singleton.1 hb]; omega))).drew
                  generalize W8.drew = W9 at *
                  exact res3 Tryz.results23 B8 (by rfl) (by rfl) (by rfl) (by rfl) Tryz.underlying30 (by kernel_rfl) rfl ⟨.inr ⟨z, rfl, HR2.out⟩, O8⟩
          · have HRT := Lib.hid hrt
            have HRE : Hid (∀ stk, qrun s (.go stk 0) i = .error bad) := Lib.hid (fun stk => by rw [HRU.out, HRT.out])
            clear hrt
            obtain ⟨z0, z1, z2, z3, z4, z5, z6, z7, z8, z9, z10⟩ := M4.out.eleven
            have zf := M4.out.free
            have L4' := M4.out.lt
            go_wp2_with fail
            generalize hW : World.setCell _ ⟨_, 10, none⟩ _ = W8 at *
            obtain ⟨B7, O7⟩ := put11 M4.out hW.symm
            clear hW z0 z1 z2 z3 z4 z5 z6 z7 z8 z9 z10 zf
            generalize hW : World.alloc W8 _ = W9 at *
            have B8 := Bk.al hW B7
            have O8 := Only.al hW (MN.out.trans O7 (fun b hb => .inr (by rw [List.mem_singleton.1 hb]; omega)))
            clear hW
            exact res3 Tryz.results23 B8 (by rfl) (by rfl) (by rfl) (by rfl) Tryz.underlying30 (by kernel_rfl) rfl ⟨.inr ⟨bad, rfl, HRE.out⟩, O8⟩
        · obtain ⟨z0, hz0⟩ : ∃ z0, nxt s p = z0 := ⟨_, rfl⟩
          rw [hz0] at hz1 hc5
          have hpz : p ≤ z0 := by rw [← hz0]; exact nxt_ge s p
          have K5 := Lib.hid (fun w => tq_s s p z0 c5 p w hs hps rfl hz0 hz1 hc5)
          obtain ⟨n3, hn3⟩ : ∃ n3, z0 + 1 = n3 := ⟨_, rfl⟩
          rw [hc6, show (z0 : Int) + 1 = (n3 : Int) by omega] at K5
          have HRU : Hid (∀ stk, qrun s (.go stk 0) i = qrun s (.go (⟨6, l, true, []⟩ :: stk) 0) n3) := Lib.hid (fun stk => by
            rw [hrun, q_bar (o := ⟨6, l, false, []⟩) (by rw [hz0]; exact hz1) (by rw [hz0]; exact hc5) hc6 rfl hmd stk, hz0, qfin_sign hc5, hn3])
          clear r4 r9 r7 hout hon hrun hc5 hc6 hmd hz0
          go_wp2_with fail
          (with_reducible refine (K5.out _).mono ?_)
          rintro e1 w6 ⟨rfl, o6⟩
          have N4 := HB4
          have N9 := HB9
          have N7 := HB7
          have NO := HO
          have NN := HN
          have P4 := Lib.hid (N4.out.only o6 (by simp))
          have P9 := Lib.hid (N9.out.only o6 (by simp))
          have P7 := Lib.hid (N7.out.only o6 (by simp))
          have PO := Lib.hid (NO.out.only o6 (by simp))
          have PN := Lib.hid (NN.out.trans o6 (by simp))
          have S6 := o6.size
          clear o6
          go_wp2_with (refine wpList_store_row (by rfl) _ _ _ (by rfl) w1.heap.size (qtz 124 false z0 n3) (by rfl) (by rfl) 64 _ P7.out (by kernel_rfl) (by rfl) (by simp [Value.oneCell']) ?_; generalize hW : World.setRow _ _ _ = W7; obtain ⟨Q7, O12⟩ := row_set P7.out hW; clear hW; have Q4 := P4.out.only O12 (by simp; omega); have Q9 := P9.out.only O12 (by simp; omega); have QO := PO.out.only O12 (fun b hb => .inl (by rw [List.mem_singleton.1 hb]; omega)); have QN := PN.out.trans O12 (fun b hb => .inr (by rw [List.mem_singleton.1 hb]; omega)); have S7 := O12.size; obtain ⟨u0, u1, u2, u3, u4, u5, u6, u7, u8, u9, u10, u11, u12, u13, u14, u15⟩ := Q7.sixteen; obtain ⟨x0, x1, x2, x3, x4, x5, x6, x7, x8, x9, x10⟩ := Q9.eleven)
          clear O12
          have T := Lib.hid (IH.out n3 W7 (by omega) (by omega))
          have HQ4 := Lib.hid Q4
          have HQ9 := Lib.hid Q9
          have HQ7 := Lib.hid Q7
          have HQO := Lib.hid QO
          have HQN := Lib.hid QN
          clear Q4 Q9 Q7 QO QN
          (with_reducible refine (T.out).mono ?_)
          rintro e1 w3 ⟨hte, o3⟩
          have M4 := Lib.hid (HQ4.out.only o3 (by simp))
          have M9 := Lib.hid (HQ9.out.only o3 (by simp))
          have M7 := Lib.hid (HQ7.out.only o3 (by simp))
          have MO := Lib.hid (HQO.out.only o3 (by simp))
          have MN := Lib.hid (HQN.out.trans o3 (by simp))
          have S3 := o3.size
          clear o3
          rcases hte with ⟨t, m, pa, pb, Fx, rfl, hpm, hms, hFx, htv, hrt⟩ | ⟨bad, rfl, hrt⟩
          · obtain ⟨At, nt, ct, Bt, nt2, ct2, rfl, rfl⟩ := htv.slices
            obtain ⟨Br, hBr⟩ : ∃ Br, W7.heap.size = Br := ⟨_, rfl⟩
            rw [hBr] at hFx S3
            have hBr2 : Bs ≤ Br := by omega
            have HFX := Lib.hid hFx
            have HTV := Lib.hid htv
            have HRT := Lib.hid hrt
            clear hFx htv hrt hBr
            have N13 := Lib.hid (Bk.made w3 30 (pcs t.k t.n t.t (.slice At nt ct) (.slice Bt nt2 ct2)))
            obtain ⟨t0, t1, t2, t3, t4, t5, t6, t7, t8, t9, t10⟩ := N13.out.eleven
            have HFX2 := Lib.hid (show ∀ b, Fx b → Br ≤ b ∧ b < w3.heap.size ∧ (Value.slice none 0 0).ownBlock ≠ some b from fun b hb => ⟨(HFX.out b hb).1, (HFX.out b hb).2, fun e => by cases e⟩)
            have RO := Lib.hid (QOut.none w3 S3)
            have s10 : ∀ o, (w3.alloc o).cell? ⟨W0.heap.size, 10, none⟩ = some (.slice none 0 0) := fun o => (M9.out.alloc o).cell0 rfl
            obtain ⟨inf, hi0, hz0, hz1, hz2⟩ := qinfo info_pat
            have hbz : ∀ o1 o2, Br ≤ ((w3.alloc o1).alloc o2).heap.size := fun o1 o2 => by simp; omega
            go_wp2_with (at_builtin; refine wpList_append_lies _ (by rfl) _ _ _ (by rfl) Br 30 inf _ 11 152 Tryz.underlying28 hi0 hz0 hz1 hz2 rfl (by omega) _ 0 [] (by rfl) (Row.alloc (Row.alloc RO.out.row _) _) _ 1 1 (pcs t.k t.n t.t (.slice At nt ct) (.slice Bt nt2 ct2)).toList (by rfl) rfl (World.news_of_block (Bk.madeAt (w := w3.alloc (.cells (pcs t.k t.n t.t (.slice At nt ct) (.slice Bt nt2 ct2)) 30)) (b := w3.heap.size + 1) (by simp))) (by simp [Value.oneCell']) (by omega) (by unfold maxLen; omega) (by omega) (hbz _ _) _ rfl ?_; intro g cap' w4 hown hgrow hat hlt; obtain ⟨k9, kO, k4⟩ := qapp_facts M9.out RO.out (by omega) HTV.out HFX2.out hown hgrow hat; obtain ⟨d0, d1, d2, d3, d4, d5, d6, d7, d8, d9, d10⟩ := k9.eleven; have df := k9.free; have K9 := Lib.hid k9; have KO := Lib.hid kO; have K4 := Lib.hid k4; clear k9 kO k4 hown hgrow hat)
            have N9 := Lib.hid (K9.out.setTo 10 (.slice (some ⟨g, 0, none⟩) (0 + 1) cap') (pl 6 (.slice A l.length c) (.slice (some ⟨g, 0, none⟩) (0 + 1) cap')) rfl)
            have o5 : Only [W0.heap.size] w4 (w4.setCell ⟨W0.heap.size, 10, none⟩ (.slice (some ⟨g, 0, none⟩) (0 + 1) cap')) := (Only.refl _ _).set (.inl (by simp)) _
            have NR := Lib.hid (KO.out.only o5 (fun b hb => by rw [List.mem_singleton.1 hb]; exact .inl (by omega)))
            obtain ⟨S4, p4, q4⟩ := K4.out
            have nS : ∀ b, b ∉ S4 := fun b hm => by cases (q4 b hm).2
            have NO := Lib.hid ((MO.out.only p4 (fun b hb => absurd hb (nS b))).only o5 (fun b hb => by rw [List.mem_singleton.1 hb]; exact .inl (by omega)))
            have N4 := Lib.hid ((M4.out.only p4 (nS _)).only o5 (by simp; omega))
            have N7 := Lib.hid ((M7.out.only p4 (nS _)).only o5 (by simp; omega))
            have NN := Lib.hid ((MN.out.trans p4 (fun b hb => absurd hb (nS b))).trans o5 (fun b hb => .inr (by rw [List.mem_singleton.1 hb]; omega)))
            have S5 := Nat.le_trans p4.size o5.size
            clear d0 d1 d2 d3 d4 d5 d6 d7 d8 d9 d10 df t0 t1 t2 t3 t4 t5 t6 t7 t8 t9 t10 s10 o5 p4 q4 nS S4
            generalize w4.setCell ⟨W0.heap.size, 10, none⟩ (.slice (some ⟨g, 0, none⟩) (0 + 1) cap') = w5 at *
            obtain ⟨z, hz⟩ : ∃ z, nxt s m = z := ⟨_, rfl⟩
            have hmz : m ≤ z := by rw [← hz]; exact nxt_ge s m
            have HRP : Hid (∀ stk, qrun s (.go stk 0) i = qrun s (.go (⟨6, l, true, [t]⟩ :: stk) 3) m) := Lib.hid (fun stk => by rw [HRU.out, HRT.out]; rfl)
            by_cases hsh2 : z < s.size ∧ ∃ c, qkAt s z = .sign c ∧ c.toNat = 93
            · obtain ⟨hq1, c2, hc, hc2⟩ := hsh2
              have K3 := Lib.hid (fun w => tq_s s m z c2 m w hs hms rfl hz hq1 hc)
              obtain ⟨n2, hn2⟩ : ∃ n2, z + 1 = n2 := ⟨_, rfl⟩
              rw [hc2, show (z : Int) + 1 = (n2 : Int) by omega] at K3
              have HR2 : Hid (∀ stk, qrun s (.go stk 0) i = qrun s (qput stk (.seq 6 l [t])) n2) := Lib.hid (fun stk => by
                rw [HRP.out, q_shut (o := ⟨6, l, true, [t]⟩) (by rw [hz]; exact hq1) (by rw [hz]; exact hc) (.inr rfl) (by rw [hc2]; rfl) (by decide) stk, hz, qfin_sign hc, hn2])
              clear hz hc hc2
              (with_reducible refine (K3.out _).mono ?_)
              rintro e1 w6 ⟨rfl, o6⟩
              have PR := Lib.hid (NR.out.only o6 (by simp))
              have P4 := Lib.hid (N4.out.only o6 (by simp))
              have P9 := Lib.hid (N9.out.only o6 (by simp))
              have P7 := Lib.hid (N7.out.only o6 (by simp))
              have PO := Lib.hid (NO.out.only o6 (by simp))
              have PN := Lib.hid (NN.out.trans o6 (by simp))
              have S6 := o6.size
              clear o6
              go_wp2_with (refine wpList_store_row (by rfl) _ _ _ (by rfl) w1.heap.size (qtz 93 false z n2) (by rfl) (by rfl) 64 _ P7.out (by kernel_rfl) (by rfl) (by simp [Value.oneCell']) ?_; generalize hW : World.setRow _ _ _ = W7; obtain ⟨Q7, O12⟩ := row_set P7.out hW; clear hW; have Q4 := P4.out.only O12 (by simp; omega); have Q9 := P9.out.only O12 (by simp; omega); have QO := PO.out.only O12 (fun b hb => .inl (by rw [List.mem_singleton.1 hb]; omega)); have QN := PN.out.trans O12 (fun b hb => .inr (by rw [List.mem_singleton.1 hb]; omega)); have S7 := O12.size; obtain ⟨u0, u1, u2, u3, u4, u5, u6, u7, u8, u9, u10, u11, u12, u13, u14, u15⟩ := Q7.sixteen; obtain ⟨x0, x1, x2, x3, x4, x5, x6, x7, x8, x9, x10⟩ := Q9.eleven)
              have QR := PR.out.only O12 (fun b hb => .inl (by rw [List.mem_singleton.1 hb]; omega))
              obtain ⟨z0, z1, z2, z3, z4, z5, z6, z7, z8, z9, z10⟩ := Q4.eleven
              have zf := Q4.free
              go_region
              go_wp2_with fail
              generalize hW : World.setCell _ ⟨_, 10, none⟩ _ = W8 at *
              obtain ⟨B7, O7⟩ := put11 Q4 hW.symm
              clear hW u0 u1 u2 u3 u4 u5 u6 u7 u8 u9 u10 u11 u12 u13 u14 u15 x0 x1 x2 x3 x4 x5 x6 x7 x8 x9 x10 z0 z1 z2 z3 z4 z5 z6 z7 z8 z9 z10 zf
              obtain ⟨F1, hF1, hT1⟩ := QO.whole
              obtain ⟨F2, hF2, hT2⟩ := QR.whole
              obtain ⟨F', hFd⟩ : ∃ F' : Nat → Prop, F' = fun b => F1 b ∨ F2 b := ⟨_, rfl⟩
              have hF' : ∀ b, F' b → w.heap.size ≤ b ∧ b < W7.heap.size := fun b hb => by
                rw [hFd] at hb
                rcases hb with hb | hb
                · exact ⟨by have := (hF1 b hb).1; omega, (hF1 b hb).2⟩
                · exact ⟨by have := (hF2 b hb).1; omega, (hF2 b hb).2⟩
              have hTT : QV _ F' (.seq 6 l [t]) _ _ := QV.seq.2 ⟨QL.only (Only.refl [] _) (by simp) (fun b hb => by rw [hFd]; exact .inl hb) hT1, QL.only (Only.refl [] _) (by simp) (fun b hb => by rw [hFd]; exact .inr hb) hT2⟩
              have T7 := QV.only O7 (fun b hb hf => by
                rw [hFd] at hf
                rw [List.mem_singleton.1 hb] at hf
                rcases hf with hf | hf
                · have := (hF1 _ hf).1; omega
                · have := (hF2 _ hf).1; omega) (fun _ h => h) _ _ _ hTT
              have B8 := B7.drew
              have O8 := (QN.trans O7 (fun b hb => .inr (by rw [List.mem_singleton.1 hb]; omega))).drew
              have S8 := O7.size
              have T8 := T7.same ((Only.refl [] W8).drew)
              have F8 : ∀ b, F' b → w.heap.size ≤ b ∧ b < W8.drew.heap.size := fun b hb => ⟨(hF' b hb).1, Nat.lt_of_lt_of_le (hF' b hb).2 S8⟩
              generalize W8.drew = W9 at *
              exact res3 Tryz.results23 B8 (by rfl) (by rfl) (by rfl) (by rfl) Tryz.underlying30 (by kernel_rfl) rfl ⟨.inl ⟨.seq 6 l [t], n2, (.slice A l.length c), (.slice (some ⟨g, 0, none⟩) (0 + 1) cap'), F', rfl, by omega, by omega, F8, T8, HR2.out⟩, O8⟩
            · have K3 := Lib.hid (fun w => tq_y s m z 93 93 93 m w hs hms rfl hz (by decide) (by decide) (by decide) (fun b hb1 hb2 => ⟨fun e => hsh2 ⟨hb1, b, hb2, e⟩, fun e => hsh2 ⟨hb1, b, hb2, e⟩, fun e => hsh2 ⟨hb1, b, hb2, e⟩⟩))
              have HR2 : Hid (∀ stk, qrun s (.go stk 0) i = .error z) := Lib.hid (fun stk => by
                rw [HRP.out, q_rest (o := ⟨6, l, true, [t]⟩) hms (.inr rfl) (fun b hb1 hb2 => ⟨(qk_sign hb2).2, fun e => hsh2 ⟨by rw [← hz]; exact hb1, b, by rw [← hz]; exact hb2, e⟩⟩), hz])
              clear hz hsh2
              (with_reducible refine (K3.out _).mono ?_)
              rintro e1 w6 ⟨⟨wh2, k2, n2, t2, sg2, en2, nx2, rfl, hk4, hk5, hk6⟩, o6⟩
              have P4 := Lib.hid (N4.out.only o6 (by simp))
              have P9 := Lib.hid (N9.out.only o6 (by simp))
              have P7 := Lib.hid (N7.out.only o6 (by simp))
              have PO := Lib.hid (NO.out.only o6 (by simp))
              have PN := Lib.hid (NN.out.trans o6 (by simp))
              have S6 := o6.size
              clear o6
              have g6 : (sg2 != 93) = true := bne_iff_ne.2 hk4
              clear hk4 hk5 hk6
              go_wp2_with (refine wpList_store_row (by rfl) _ _ _ (by rfl) w1.heap.size (qtok wh2 k2 n2 t2 sg2 en2 z nx2) (by rfl) (by rfl) 64 _ P7.out (by kernel_rfl) (by rfl) (by simp [Value.oneCell']) ?_; generalize hW : World.setRow _ _ _ = W7; obtain ⟨Q7, O12⟩ := row_set P7.out hW; clear hW; have Q4 := P4.out.only O12 (by simp; omega); have Q9 := P9.out.only O12 (by simp; omega); have QO := PO.out.only O12 (fun b hb => .inl (by rw [List.mem_singleton.1 hb]; omega)); have QN := PN.out.trans O12 (fun b hb => .inr (by rw [List.mem_singleton.1 hb]; omega)); have S7 := O12.size; obtain ⟨u0, u1, u2, u3, u4, u5, u6, u7, u8, u9, u10, u11, u12, u13, u14, u15⟩ := Q7.sixteen; obtain ⟨x0, x1, x2, x3, x4, x5, x6, x7, x8, x9, x10⟩ := Q9.eleven)
              clear O12
              obtain ⟨z0, z1, z2, z3, z4, z5, z6, z7, z8, z9, z10⟩ := Q4.eleven
              have zf := Q4.free
              go_region
              go_wp2_with fail
              generalize hW : World.setCell _ ⟨_, 10, none⟩ _ = W8 at *
              obtain ⟨B7, O7⟩ := put11 Q4 hW.symm
              clear hW u0 u1 u2 u3 u4 u5 u6 u7 u8 u9 u10 u11 u12 u13 u14 u15 x0 x1 x2 x3 x4 x5 x6 x7 x8 x9 x10 z0 z1 z2 z3 z4 z5 z6 z7 z8 z9 z10 zf
              have B8 := B7.drew
              have O8 := (QN.trans O7 (fun b hb => .inr (by rw [List.mem_singleton.1 hb]; omega))).drew
              generalize W8.drew = W9 at *
              exact res3 Tryz.results23 B8 (by rfl) (by rfl) (by rfl) (by rfl) Tryz.underlying30 (by kernel_rfl) rfl ⟨.inr ⟨z, rfl, HR2.out⟩, O8⟩
          · have HRT := Lib.hid hrt
            have HRE : Hid (∀ stk, qrun s (.go stk 0) i = .error bad) := Lib.hid (fun stk => by rw [HRU.out, HRT.out])
            clear hrt
            obtain ⟨z0, z1, z2, z3, z4, z5, z6, z7, z8, z9, z10⟩ := M4.out.eleven
            have zf := M4.out.free
            have L4' := M4.out.lt
            go_wp2_with fail
            generalize hW : World.setCell _ ⟨_, 10, none⟩ _ = W8 at *
            obtain ⟨B7, O7⟩ := put11 M4.out hW.symm
            clear hW z0 z1 z2 z3 z4 z5 z6 z7 z8 z9 z10 zf
            generalize hW : World.alloc W8 _ = W9 at *
            have B8 := Bk.al hW B7
            have O8 := Only.al hW (MN.out.trans O7 (fun b hb => .inr (by rw [List.mem_singleton.1 hb]; omega)))
            clear hW
            exact res3 Tryz.results23 B8 (by rfl) (by rfl) (by rfl) (by rfl) Tryz.underlying30 (by kernel_rfl) rfl ⟨.inr ⟨bad, rfl, HRE.out⟩, O8⟩
end Go.Proofs.YtlilfmpikampgaaGreatDoor
