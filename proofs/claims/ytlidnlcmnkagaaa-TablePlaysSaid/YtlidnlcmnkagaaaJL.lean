/- The document's table: Add. -/
import Derived.Test.YtlidnlcmnkagaaaJK
namespace Go.Proofs.Ytlidnlcmnkagaaa
open Go.RowKit
set_option maxRecDepth 20000

def RAddE (w : World) (n : Nat) (r : List Pl × Pd × Int) (e : Ending) (w' : World) : Prop := ∃ u1 u2 u3, e = .returned (.tuple #[.agg (rtC n u1 u2 u3), .agg r.2.1.cs, .int .i64 r.2.2]) ∧ RT w' u1 u2 u3 r.1 ∧ Only [] w w'
theorem addI_drop {T : List Pl} {k : Nat} {x : Pl} (hx : T[k]? = some x) : addI k (T.drop k) = if mayB x = true then some (k, x) else addI (k + 1) (T.drop (k + 1)) := by
  have hk := (List.getElem?_eq_some_iff.1 hx).1
  rw [List.drop_eq_getElem_cons hk, (List.getElem?_eq_some_iff.1 hx).2]
  rfl
theorem set_same {α : Type} {l : List α} {k : Nat} {x : α} (h : l[k]? = some x) : l.set k x = l := by
  apply List.ext_getElem?
  intro j
  by_cases e : k = j
  · subst e
    rw [List.getElem?_set_self (List.getElem?_eq_some_iff.1 h).1, h]
  · rw [List.getElem?_set_ne e]
theorem only2 (w : World) (g : Nat) (a b : Value) : Only [g] w ((w.setCell ⟨g, 0, none⟩ a).setCell ⟨g, 1, none⟩ b) := ((Only.refl [g] w).set (.inl (by simp)) a).set (.inl (by simp)) b
theorem RT.onlyT {w w' : World} {v1 v2 v3 : Value} {T : List Pl} (r : RT w v1 v2 v3 T) {g : Nat} {cs : Array Value} (k : Bk w g 30 cs) (o : Only [g] w w') : RT w' v1 v2 v3 T :=
  ⟨r.h.onlyB k ki3 o, r.a.onlyB k kb3 o, r.n.onlyB k ks3 o⟩
theorem ki4 : KI.e ≠ 38 := by decide +kernel
theorem kb4 : KB.e ≠ 38 := by decide +kernel
theorem ks4 : KS.e ≠ 38 := by decide +kernel
theorem RT.onlyP {w w' : World} {v1 v2 v3 : Value} {T : List Pl} (r : RT w v1 v2 v3 T) {g : Nat} {cs : Array Value} (k : Bk w g 38 cs) (o : Only [g] w w') : RT w' v1 v2 v3 T :=
  ⟨r.h.onlyB k ki4 o, r.a.onlyB k kb4 o, r.n.onlyB k ks4 o⟩
theorem kib : KI.e ≠ KB.e := by decide +kernel
theorem kis : KI.e ≠ KS.e := by decide +kernel
theorem kbs : KB.e ≠ KS.e := by decide +kernel
/-- A cell of a row of another kind turned. -/
theorem OwnS.setRow {α β : Type} {K : Sk α} {J : Sk β} {w : World} {base base' : Nat} {v : Value} {g n c : Nat} {xs : List α} {ys : List β} (h : OwnS K w base v xs) (k : OwnS J w base' (.slice (some ⟨g, 0, none⟩) n c) ys) (hne : K.e ≠ J.e) (i : Nat) (u : Value) : OwnS K (w.setCell ⟨g, i, none⟩ u) base v xs := by
  obtain ⟨cur, hc⟩ := k.obj
  exact h.setOther hc hne i u
theorem Bk.byRow {β : Type} {J : Sk β} {w : World} {base' b : Nat} {t : TypeId} {cs : Array Value} {g n c : Nat} {ys : List β} (h : Bk w b t cs) (k : OwnS J w base' (.slice (some ⟨g, 0, none⟩) n c) ys) (hne : J.e ≠ t) (i : Nat) (u : Value) : Bk (w.setCell ⟨g, i, none⟩ u) b t cs := by
  obtain ⟨cur, hc⟩ := k.obj
  exact h.away (p := ⟨g, i, none⟩) (fun e => by
    subst e
    exact hc.apart h hne rfl) u
theorem OwnS.only2B {α : Type} {K : Sk α} {w w' : World} {base : Nat} {v : Value} {xs : List α} (h : OwnS K w base v xs) {g1 g2 : Nat} {t1 t2 : TypeId} {cs1 cs2 : Array Value} (k1 : Bk w g1 t1 cs1) (n1 : K.e ≠ t1) (k2 : Bk w g2 t2 cs2) (n2 : K.e ≠ t2) (o : Only [g1, g2] w w') : OwnS K w' base v xs :=
  h.only o (fun g' e hm => by
    simp only [List.mem_cons, List.not_mem_nil, or_false] at hm
    rcases hm with rfl | rfl
    · exact h.apartB k1 n1 (by simp [e])
    · exact h.apartB k2 n2 (by simp [e]))
theorem RT.only2 {w w' : World} {v1 v2 v3 : Value} {T : List Pl} (r : RT w v1 v2 v3 T) {g1 g2 : Nat} {cs1 cs2 : Array Value} (k1 : Bk w g1 30 cs1) (k2 : Bk w g2 38 cs2) (o : Only [g1, g2] w w') : RT w' v1 v2 v3 T :=
  ⟨r.h.only2B k1 ki3 k2 ki4 o, r.a.only2B k1 kb3 k2 kb4 o, r.n.only2B k1 ks3 k2 ks4 o⟩
/-- The rows behind one place's turn. -/
theorem RT.turned {w : World} {base : Nat} {v1 v2 v3 : Value} {T : List Pl} {k : Nat} (y : Pl) (h : OwnS KI w base v1 ((hads T).set k y.had)) (a : OwnS KB w base v2 ((als T).set k y.al)) (n : OwnS KS w base v3 ((nms T).set k y.nm)) : RT w v1 v2 v3 (T.set k y) :=
  ⟨by show OwnS KI w 0 v1 ((T.set k y).map Pl.had); rw [List.map_set]; exact h.low (Nat.zero_le _), by show OwnS KB w 0 v2 ((T.set k y).map Pl.al); rw [List.map_set]; exact a.low (Nat.zero_le _), by show OwnS KS w 0 v3 ((T.set k y).map Pl.nm); rw [List.map_set]; exact n.low (Nat.zero_le _)⟩
theorem addI_lt {T : List Pl} {n : Nat} {x : Pl} (h : addI 0 T = some (n, x)) : T[n]? = some x := by
  have := ((addI_spec T 0).1 n x h).2.1
  rwa [Nat.sub_zero] at this
set_option maxHeartbeats 16000000 in
theorem radd_any {w : World} {v1 v2 v3 : Value} {T : List Pl} (r : RT w v1 v2 v3 T) (hl : T.length ≤ 256) (hbd : ∀ (n : Nat) (x : Pl), T[n]? = some x → 0 ≤ x.had) : Calls Try.prog 17 #[.agg (rtC T.length v1 v2 v3)] w (RAddE w T.length (addF T)) := by
  obtain ⟨W0, hW0⟩ : ∃ W0, W0 = (((w.alloc (.cells (rtC T.length v1 v2 v3) 30)).alloc (.cells rt0 30)).alloc (.cells P0.cs 38)).alloc (.cells P0.cs 38) := ⟨_, rfl⟩
  have BT : Hid (Bk W0 w.heap.size 30 (rtC T.length v1 v2 v3)) := Lib.hid (by rw [hW0]; exact (((Bk.made w _ _).alloc _).alloc _).alloc _)
  have BR : Hid (Bk W0 (w.heap.size + 1) 30 rt0) := Lib.hid (by rw [hW0]; exact ((Bk.newAt (by simp)).alloc _).alloc _)
  have BP : Hid (Bk W0 (w.heap.size + 1 + 1) 38 P0.cs) := Lib.hid (by rw [hW0]; exact (Bk.newAt (by simp)).alloc _)
  have BN : Hid (Bk W0 (w.heap.size + 1 + 1 + 1) 38 P0.cs) := Lib.hid (by rw [hW0]; exact Bk.newAt (by simp))
  have O : Hid (Only [] w W0) := Lib.hid (by rw [hW0]; exact ((((Only.refl [] w).alloc _).alloc _).alloc _).alloc _)
  have R : Hid (RT W0 v1 v2 v3 T) := Lib.hid (r.only O.out rfl)
  have HBD := Lib.hid hbd
  have LA : w.heap.size ≤ w.heap.size + 1 := by omega
  have LB : w.heap.size ≤ w.heap.size + 1 + 1 := by omega
  have HR := Lib.hid r
  clear hbd r
  go_enter Try.func17, Try.ntmps17
  go_wp2_with fail
  rw [← hW0]
  clear hW0
  go_loopw [6] (fun kv wr => ∃ k : Nat, kv = .int .i64 k ∧ k ≤ T.length ∧ addI 0 T = addI k (T.drop k) ∧ wr = W0) (fun kv _ => T.length - (intOf kv).toNat)
  case atStart => exact ⟨0, rfl, Nat.zero_le _, rfl, rfl⟩
  case round =>
    obtain ⟨k, rfl, hk, heq, rfl⟩ := hrel
    have HEQ := Lib.hid heq
    have t0 := BT.out.cell0 (i := 0) rfl
    clear heq
    by_cases hlt : k < T.length
    · obtain ⟨x, hx⟩ := some_at hlt
      have hst := addI_drop hx
      obtain ⟨g1, c1, g2, c2, g3, c3, rfl, rfl, rfl⟩ := HR.out.forms (by omega)
      have t1 := BT.out.cell0 (i := 1) rfl
      have t2 := BT.out.cell0 (i := 2) rfl
      have t3 := BT.out.cell0 (i := 3) rfl
      have y1 := R.out.h.at_ (had_at hx) (j := 0) rfl (q := k) (by show k = k * 1 + 0; omega)
      have y2 := R.out.a.at_ (al_at hx) (j := 0) rfl (q := k) (by show k = k * 1 + 0; omega)
      have pk : (k : Int) < (T.length : Int) := by omega
      have q1 : decide (k < T.length) = true := decide_eq_true hlt
      have hb := HBD.out k x hx
      have HX := Lib.hid hx
      obtain ⟨xh, xa, xn⟩ := x
      dsimp only at y1 y2 hst hb
      clear hx
      cases xa with
      | true =>
        rw [if_neg (by simp [mayB])] at hst
        have HST := Lib.hid (HEQ.out.trans hst)
        clear hst
        go_wp2_with fail
        go_roundw
        case rel => exact ⟨k + 1, by go_num, by omega, HST.out, by trivial⟩
        case measure => simp [intOf]; omega
      | false =>
        by_cases hm : xh < 4611686018427387903
        · rw [if_pos (by simp [mayB]; exact hm)] at hst
          have EF := Lib.hid (show addF T = (T.set k ⟨xh + 1, true, xn⟩, ⟨(k : Nat), xh + 1⟩, 0) by unfold addF; rw [HEQ.out, hst])
          have KC := Lib.hid (rcopied_any (T.length : Int) R.out.h R.out.a R.out.n (by simp; omega) (by simp; omega) (by simp; omega))
          clear hst
          go_wp2_with fail
          (with_reducible refine KC.out.mono ?_)
          rintro e w2 ⟨u1, u2, u3, rfl, ⟨h1, h2, h3⟩, o2⟩
          obtain ⟨d1, e1, f1⟩ := h1.some_ (by simp; omega)
          obtain ⟨d2, e2, f2⟩ := h2.some_ (by simp; omega)
          obtain ⟨d3, e3, f3⟩ := h3.some_ (by simp; omega)
          rw [List.length_map] at f1 f2 f3
          subst f1 f2 f3
          have O3 := Lib.hid ((O.out.trans o2 (by simp)).alloc (.cells (rtC T.length (.slice (some ⟨d1, 0, none⟩) T.length e1) (.slice (some ⟨d2, 0, none⟩) T.length e2) (.slice (some ⟨d3, 0, none⟩) T.length e3)) 30))
          have bt3 := Bk.made w2 30 (rtC T.length (.slice (some ⟨d1, 0, none⟩) T.length e1) (.slice (some ⟨d2, 0, none⟩) T.length e2) (.slice (some ⟨d3, 0, none⟩) T.length e3))
          have br3 := (BR.out.only o2 (by simp)).alloc (.cells (rtC T.length (.slice (some ⟨d1, 0, none⟩) T.length e1) (.slice (some ⟨d2, 0, none⟩) T.length e2) (.slice (some ⟨d3, 0, none⟩) T.length e3)) 30)
          have bp3 := (BP.out.only o2 (by simp)).alloc (.cells (rtC T.length (.slice (some ⟨d1, 0, none⟩) T.length e1) (.slice (some ⟨d2, 0, none⟩) T.length e2) (.slice (some ⟨d3, 0, none⟩) T.length e3)) 30)
          have i3 := h1.alloc (.cells (rtC T.length (.slice (some ⟨d1, 0, none⟩) T.length e1) (.slice (some ⟨d2, 0, none⟩) T.length e2) (.slice (some ⟨d3, 0, none⟩) T.length e3)) 30)
          have a3 := h2.alloc (.cells (rtC T.length (.slice (some ⟨d1, 0, none⟩) T.length e1) (.slice (some ⟨d2, 0, none⟩) T.length e2) (.slice (some ⟨d3, 0, none⟩) T.length e3)) 30)
          have n3 := h3.alloc (.cells (rtC T.length (.slice (some ⟨d1, 0, none⟩) T.length e1) (.slice (some ⟨d2, 0, none⟩) T.length e2) (.slice (some ⟨d3, 0, none⟩) T.length e3)) 30)
          have hw2 : w.heap.size + 1 + 1 + 1 < w2.heap.size := by have h1 := BN.out.lt; have h2 := o2.size; omega
          have s2 := bt3.cell0 (i := 2) rfl
          have z2 := a3.at_ (al_at HX.out) (j := 0) rfl (q := k) (by show k = k * 1 + 0; omega)
          have zf := a3.free_ k
          have K4 := Lib.hid (bt3.byRow a3 kb3 k (.bool true))
          have R4 := Lib.hid (br3.byRow a3 kb3 k (.bool true))
          have P4 := Lib.hid (bp3.byRow a3 kb4 k (.bool true))
          have I4 := Lib.hid (i3.setRow a3 kib k (.bool true))
          have A4 := Lib.hid (a3.put (j := 0) true (al_at HX.out) (.bool true) (by show 0 < 1; omega) rfl (q := k) (by show k = k * 1 + 0; omega))
          have N4 := Lib.hid (n3.setRow a3 (fun e => kbs e.symm) k (.bool true))
          have hd2 : wr.heap.size ≤ d2 := (h2.block rfl).1
          have O4 := Lib.hid (O3.out.set (p := ⟨d2, k, none⟩) (.inr (by have := O.out.size; show w.heap.size ≤ d2; omega)) (.bool true))
          clear KC bt3 br3 bp3 i3 a3 n3 h2 h3 o2
          go_wp2_with fail
          generalize hW4 : World.setCell _ _ _ = w4 at K4 R4 P4 I4 A4 N4 O4 ⊢
          clear hW4 s2 z2 zf t0 t1 t2 t3 y1 y2
          have s1 := K4.out.cell0 (i := 1) rfl
          have z1 := I4.out.at_ (had_at HX.out) (j := 0) rfl (q := k) (by show k = k * 1 + 0; omega)
          have zf := I4.out.free_ k
          have wq : IntKind.i64.wrap (xh + 1) = xh + 1 := IntWalk.i64_in _ (by omega)
          refine wp_region_quiet_then 10 (by kernel_rfl) (by kernel_rfl) ?_
          simp only [List.take_succ_cons, List.take_zero, List.drop_succ_cons, List.drop_zero]
          repeat (go_big_quiet_step (fail))
          refine wpQuiet_nil ?_
          intro q
          have i4 := I4.out.drewN q
          have K5 := Lib.hid ((K4.out.drewN q).byRow i4 ki3 k (.int .i64 (xh + 1)))
          have R5 := Lib.hid ((R4.out.drewN q).byRow i4 ki3 k (.int .i64 (xh + 1)))
          have P5 := Lib.hid ((P4.out.drewN q).byRow i4 ki4 k (.int .i64 (xh + 1)))
          have I5 := Lib.hid (i4.put (j := 0) (xh + 1) (had_at HX.out) (.int .i64 (xh + 1)) (by show 0 < 1; omega) rfl (q := k) (by show k = k * 1 + 0; omega))
          have A5 := Lib.hid ((A4.out.drewN q).setRow i4 (fun e => kib e.symm) k (.int .i64 (xh + 1)))
          have N5 := Lib.hid ((N4.out.drewN q).setRow i4 (fun e => kis e.symm) k (.int .i64 (xh + 1)))
          have hd1 : wr.heap.size ≤ d1 := (i4.block rfl).1
          have O5 := Lib.hid ((O4.out.drewN q).set (p := ⟨d1, k, none⟩) (.inr (by have := O.out.size; show w.heap.size ≤ d1; omega)) (.int .i64 (xh + 1)))
          clear i4 wq
          go_wp2_with fail
          generalize hW5 : World.setCell _ _ _ = w5 at K5 R5 P5 I5 A5 N5 O5 ⊢
          clear hW5 s1 z1 zf
          have s0 := K5.out.cell0 (i := 0) rfl
          have s1 := K5.out.cell0 (i := 1) rfl
          have s2 := K5.out.cell0 (i := 2) rfl
          have s3 := K5.out.cell0 (i := 3) rfl
          have z1 := I5.out.at_ (i := k) (x := xh + 1) (by rw [List.getElem?_set_self (by simpa using hlt)]) (j := 0) rfl (q := k) (by show k = k * 1 + 0; omega)
          have r0 := R5.out.cell0 (i := 0) rfl
          have r1 := R5.out.cell0 (i := 1) rfl
          have r2 := R5.out.cell0 (i := 2) rfl
          have r3 := R5.out.cell0 (i := 3) rfl
          have rf := R5.out.free
          have p0 := P5.out.cell0 (i := 0) rfl
          have p1 := P5.out.cell0 (i := 1) rfl
          have pf := P5.out.free
          have hbn := BN.out.lt
          have ne1 : w.heap.size + 1 ≠ w2.heap.size := by omega
          have ne2 : w.heap.size + 1 + 1 ≠ w2.heap.size := by omega
          have ne3 : w.heap.size + 1 ≠ d1 := by omega
          have ne4 : w.heap.size + 1 + 1 ≠ d1 := by omega
          have q5 : (w5.cell? ⟨w2.heap.size, 0, none⟩ = some (.int .i64 (T.length : Int)) ∧ w5.cell? ⟨w2.heap.size, 1, none⟩ = some (.slice (some ⟨d1, 0, none⟩) T.length e1) ∧ w5.cell? ⟨w2.heap.size, 2, none⟩ = some (.slice (some ⟨d2, 0, none⟩) T.length e2) ∧ w5.cell? ⟨w2.heap.size, 3, none⟩ = some (.slice (some ⟨d3, 0, none⟩) T.length e3)) ∧ w5.cell? ⟨d1, k, none⟩ = some (.int .i64 (xh + 1)) := ⟨⟨s0, s1, s2, s3⟩, z1⟩
          clear q5
          go_region
          all_goals
            clear s0 s1 s2 s3 z1
            go_wp2_with fail
            refine bodyPost_ret (v := .tuple #[.agg (rtC T.length (.slice (some ⟨d1, 0, none⟩) T.length e1) (.slice (some ⟨d2, 0, none⟩) T.length e2) (.slice (some ⟨d3, 0, none⟩) T.length e3)), .agg (⟨(k : Nat), xh + 1⟩ : Pd).cs, .int .i64 0]) (by simp [results, Try.results17, go_sem, r0, r1, r2, r3, p0, p1]) rfl ?_
            have RT5 : RT w5 (.slice (some ⟨d1, 0, none⟩) T.length e1) (.slice (some ⟨d2, 0, none⟩) T.length e2) (.slice (some ⟨d3, 0, none⟩) T.length e3) (T.set k ⟨xh + 1, true, xn⟩) :=
              RT.turned ⟨xh + 1, true, xn⟩ I5.out A5.out (by rw [set_same (nm_at HX.out)]; exact N5.out)
            rw [EF.out]
            refine ⟨_, _, _, rfl, RT5.only2 R5.out P5.out ?_, (O5.out.more (T := [w.heap.size + 1, w.heap.size + 1 + 1]) (by simp)).trans (T := [w.heap.size + 1, w.heap.size + 1 + 1]) ?_ (by simp) |>.more (by intro i hi; right; simp at hi; omega)⟩
            all_goals repeat (first | (with_reducible refine Only.drew ?_) | (with_reducible refine Only.drewN ?_ _) | (with_reducible refine Only.set ?_ (.inl (by simp)) _) | (with_reducible exact Only.refl _ _))
        · rw [if_neg (by simp [mayB]; show (4611686018427387903 : Int) ≤ xh; omega)] at hst
          have HST := Lib.hid (HEQ.out.trans hst)
          have q2 : decide (xh < 4611686018427387903) = false := decide_eq_false hm
          clear hst
          go_wp2_with fail
          go_roundw
          case rel => exact ⟨k + 1, by go_num, by omega, HST.out, by trivial⟩
          case measure => simp [intOf]; omega
    · have ek : k = T.length := by omega
      subst ek
      have EF := Lib.hid (show addF T = (T, P0, 140) by unfold addF; rw [HEQ.out, List.drop_length]; rfl)
      have t1 := BT.out.cell0 (i := 1) rfl
      have t2 := BT.out.cell0 (i := 2) rfl
      have t3 := BT.out.cell0 (i := 3) rfl
      obtain ⟨x0, x1⟩ := BN.out.pid
      have r0 := BR.out.cell0 (i := 0) rfl
      have r1 := BR.out.cell0 (i := 1) rfl
      have r2 := BR.out.cell0 (i := 2) rfl
      have r3 := BR.out.cell0 (i := 3) rfl
      have rf := BR.out.free
      have p0 := BP.out.cell0 (i := 0) rfl
      have p1 := BP.out.cell0 (i := 1) rfl
      have pf := BP.out.free
      obtain ⟨D1, e1, f1, -, -, -, -⟩ := R.out.h.form
      obtain ⟨D2, e2, f2, -, -, -, -⟩ := R.out.a.form
      obtain ⟨D3, e3, f3, -, -, -, -⟩ := R.out.n.form
      rw [List.length_map] at f1 f2 f3
      subst f1 f2 f3
      go_wp2_with fail
      go_region
      all_goals
        go_wp2_with fail
        refine bodyPost_ret (v := .tuple #[.agg (rtC T.length (.slice D1 T.length e1) (.slice D2 T.length e2) (.slice D3 T.length e3)), .agg P0.cs, .int .i64 140]) (by simp [results, Try.results17, go_sem, r0, r1, r2, r3, p0, p1]) rfl ?_
        rw [EF.out]
        refine ⟨_, _, _, rfl, R.out.only2 BR.out BP.out ?_, (O.out.more (T := [w.heap.size + 1, w.heap.size + 1 + 1]) (by simp)).trans (T := [w.heap.size + 1, w.heap.size + 1 + 1]) ?_ (by simp) |>.more (by intro i hi; right; simp at hi; omega)⟩
        all_goals repeat (first | (with_reducible refine Only.drew ?_) | (with_reducible refine Only.drewN ?_ _) | (with_reducible refine Only.set ?_ (.inl (by simp)) _) | (with_reducible exact Only.refl _ _))
end Go.Proofs.Ytlidnlcmnkagaaa
