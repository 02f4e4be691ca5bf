/- The law TiePlays, given the program's contracts. TiePlays of its argument as it comes. -/
import Derived.Test.YtkodblhompphjaaVbe
import Derived.Test.YtkodblhompphjaaVb
import Derived.Deep.CutRange
namespace Go.Proofs.Ytkodblhompphjaa
open Go.RowKit
set_option maxRecDepth 20000

theorem rnew15_any (w : World) : Calls Try.prog 8 #[] w fun e w' => e = .returned (.agg (tiC true (.slice none 0 0))) ∧ Only [] w w' := by
  go_enter Try.func8, Try.ntmps8
  go_wp2_with fail
  first
    | (refine bodyPost_ret (v := .agg (tiC true (.slice none 0 0))) (by simp [results, Try.results8, go_sem]) rfl ⟨rfl, ?_⟩
       exact ((Only.refl [] w).alloc _))
    | (refine bodyPost_ret (v := .agg (tiC true (.slice none 0 0))) (by simp [results, Try.results8, go_sem]) rfl ⟨rfl, ?_⟩
       exact Only.refl _ _)
set_option maxHeartbeats 16000000 in
theorem tplays_any (R : TiesRep) (K : TiesDoes R) (M : TiesMore R) (hA : AwakeOk15) (A : Option Addr) (xs : List TOp) (cap : Nat) (w : World) (h : RdS KO w A xs) (hl : xs.length ≤ 17592186044416) :
    Calls Try.prog 3 #[.slice A xs.length cap] w fun e w' => e = .returned (.bool true) ∧ Only [] w w' := by
  have H := Lib.hid h
  have K1 := Lib.hid (K.new w)
  clear h
  go_enter Try.func3, Try.ntmps3
  go_wp2_with fail
  (with_reducible refine K1.out.mono ?_)
  rintro e w1 ⟨b, F0, rfl, h1, hF, o1⟩
  have K2 := Lib.hid (rnew15_any w1)
  have R1 := Lib.hid h1
  have HF := Lib.hid hF
  have O1 := Lib.hid o1
  clear h1 hF o1 K1
  go_wp2_with fail
  (with_reducible refine K2.out.mono ?_)
  rintro e w2 ⟨rfl, o2⟩
  obtain ⟨w3, e3⟩ : ∃ w3, w3 = (w2.alloc (.cells (tiC true (.slice none 0 0)) tyTi)).alloc (.cells (tiC false (.slice none 0 0)) tyTi) := ⟨_, rfl⟩
  have o13 : Only [] w1 w3 := by rw [e3]; exact (o2.alloc _).alloc _
  have T3 := Lib.hid (show TS R w [w2.heap.size, w2.heap.size + 1] b w2.heap.size (w2.heap.size + 1) (.pointer none) (.slice none 0 0) F0 (.slice none 0 0) [] w3 from by
    have b6 : Bk w3 (w2.heap.size + 1) tyTi (tiC false (.slice none 0 0)) := by rw [e3]; exact Bk.newAt (by simp)
    have s12 := o2.size
    have s1 := O1.out.size
    refine ⟨false, .slice none 0 0, ⟨⟨R.only R1.out o13 (by simp), OwnS.nil _ _ _, fun g hg => (by cases hg), fun g hg => HF.out g hg⟩, by rw [e3]; exact (Bk.made w2 _ _).alloc _, b6, fun g hg hm => ?_, fun g hg => ?_, by simp, by simp, O1.out.trans o13 (by simp), fun g hg => ?_, by omega⟩, .inl ⟨rfl, b6⟩⟩
    · have h1 := R.lt R1.out _ hm
      simp at hg
      omega
    · have h1 := b6.lt
      simp at hg
      omega
    · simp at hg
      omega)
  have E3 := Lib.hid e3
  clear o2 o13 K2 e3
  go_wp2_with fail
  rw [← E3.out]
  clear E3 R1 HF
  generalize hr4 : w2.heap.size = r4 at *
  go_loopw [5, 7, 8, 9, 10, 11, 12] (fun cv iv _ _ _ _ _ wr => ∃ (i : Nat) (F : List Nat) (v : Value) (l : List Te), iv = .int .i64 i ∧ i ≤ xs.length ∧ TS R w [r4, r4 + 1] b r4 (r4 + 1) cv v F v l wr) (fun _ iv _ _ _ _ _ _ => xs.length - (intOf iv).toNat)
  case atStart => exact ⟨0, _, _, _, rfl, Nat.zero_le _, T3.out⟩
  case round =>
    clear T3
    obtain ⟨i, F, v, l, rfl, hi, t⟩ := hrel
    have T := Lib.hid t
    obtain ⟨f6, v6, t0, -⟩ := t
    obtain ⟨Av, cv, rfl, hrd, hnF⟩ := t0.t.form
    have HRD := Lib.hid hrd
    have HNF := Lib.hid hnF
    have O := Lib.hid t0.o
    by_cases hlt : i < xs.length
    · obtain ⟨bl, off, rfl, hb, hc⟩ := RdO.at6 (H.out.only O.out (by simp)) (by omega)
      obtain ⟨⟨kd, rf, an, ag, bn, bg⟩, hx⟩ := some_at hlt
      have HX := Lib.hid hx
      obtain ⟨x0, x1, x2, x3, x4, x5⟩ := hc i _ hx
      dsimp only at x0 x1 x2 x3 x4 x5
      have HI := Lib.hid (show i + 1 ≤ xs.length from hlt)
      have pk : (i : Int) < (xs.length : Int) := by omega
      have HCX := Lib.hid (show ∀ W' : World, Only [] w W' → W'.cell? ⟨bl, off + i * 6, none⟩ = some (.int .i64 kd) ∧ W'.cell? ⟨bl, off + i * 6 + 1, none⟩ = some (.int .i64 rf) ∧ W'.cell? ⟨bl, off + i * 6 + 2, none⟩ = some (.int .i64 an) ∧ W'.cell? ⟨bl, off + i * 6 + 3, none⟩ = some (.int .i64 ag) ∧ W'.cell? ⟨bl, off + i * 6 + 4, none⟩ = some (.int .i64 bn) ∧ W'.cell? ⟨bl, off + i * 6 + 5, none⟩ = some (.int .i64 bg) from fun W' oz => by
        obtain ⟨bl', off', e', -, hc'⟩ := RdO.at6 (H.out.only oz (by simp)) (by omega)
        injection e' with e'
        injection e' with e1 e2
        subst e1 e2
        exact hc' i _ HX.out)
      clear x0 x1 x2 x3 x4 x5 hb hc hx hi t0 hrd hnF
      go_upto_region 10 with fail
      go_cut [8, 9] from 23 to 32 (fun v8 v9 wx => ∃ (b8 : Nat) (v2 : Value) (F2 : List Nat), v8 = .pointer (some ⟨b8, 0, none⟩) ∧ v9 = .bool true ∧ Bk wx b8 tyTi (tiC true v2) ∧ TS R w [b8, r4, r4 + 1] b r4 (r4 + 1) u5 (.slice Av l.length cv) F2 v2 (doT l ⟨kd, rf, an, ag, bn, bg⟩) wx ∧ b8 ≠ r4 ∧ b8 ≠ r4 + 1)
      case first =>
        have HCS := Lib.hid (show ∀ (W' : World) (N : List Nat) (F2 : List Nat) (v2 : Value) (l2 : List Te), TS R w N b r4 (r4 + 1) u5 (.slice Av l.length cv) F2 v2 l2 W' → (W'.cell? ⟨r4, 0, none⟩ = some (.bool true) ∧ W'.cell? ⟨r4, 1, none⟩ = some (.slice Av l.length cv)) ∧ W'.cell? ⟨bl, off + i * 6, none⟩ = some (.int .i64 kd) ∧ W'.cell? ⟨bl, off + i * 6 + 1, none⟩ = some (.int .i64 rf) ∧ W'.cell? ⟨bl, off + i * 6 + 2, none⟩ = some (.int .i64 an) ∧ W'.cell? ⟨bl, off + i * 6 + 3, none⟩ = some (.int .i64 ag) ∧ W'.cell? ⟨bl, off + i * 6 + 4, none⟩ = some (.int .i64 bn) ∧ W'.cell? ⟨bl, off + i * 6 + 5, none⟩ = some (.int .i64 bg) from fun W' N F2 v2 l2 t => by
          obtain ⟨f, u, t, -⟩ := t
          exact ⟨⟨t.b4.cell0 rfl, t.b4.cell0 rfl⟩, HCX.out W' t.o⟩)
        have q1 := HCS.out wr _ _ _ _ T.out
        have b1d := HCS.out wr.drew _ _ _ _ (T.out.only ((Only.refl [] wr).drew))
        have b1z := HCS.out (wr.alloc (.cells (tiC false (.slice none 0 0)) tyTi)) _ _ _ _ (T.out.alloc _)
        have b1e := HCS.out (wr.alloc (.cells (tiC false (.slice none 0 0)) tyTi)).drew _ _ _ _ (T.out.only (((Only.refl [] wr).alloc _).drew))
        have KW : Hid (∀ W' N, TS R w N b r4 (r4 + 1) u5 (.slice Av l.length cv) F (.slice Av l.length cv) l W' → Only [] wr W' → Calls Try.prog 9 #[ptB b, .agg (tiC true (.slice Av l.length cv)), .agg (TOp.mk kd rf an ag bn bg).cs] W' fun e w' => ∃ v2 F2, e = .returned (.tuple #[.agg (tiC true v2), .bool true]) ∧ TS R w N b r4 (r4 + 1) u5 (.slice Av l.length cv) F2 v2 (doT l ⟨kd, rf, an, ag, bn, bg⟩) w' ∧ Only F W' w' ∧ (∀ g ∈ N, g ∉ F)) := Lib.hid (fun W' N t oz => by
          obtain ⟨f, u, t', c⟩ := t
          exact (does_any R K M t'.t.rep Av cv (HRD.out.only oz (by simp)) HNF.out ⟨kd, rf, an, ag, bn, bg⟩).mono fun e w' d => TS.does ⟨f, u, t', c⟩ d)
        have L4 := Lib.hid (show r4 < wr.heap.size ∧ r4 + 1 < wr.heap.size from by
          obtain ⟨f, u, t, -⟩ := T.out
          exact ⟨t.nl r4 (by simp), t.nl (r4 + 1) (by simp)⟩)
        go_region_held3 (fun W' => (W'.cell? ⟨r4, 0, none⟩ = some (.bool true) ∧ W'.cell? ⟨r4, 1, none⟩ = some (.slice Av l.length cv)) ∧ W'.cell? ⟨bl, off + i * 6, none⟩ = some (.int .i64 kd) ∧ W'.cell? ⟨bl, off + i * 6 + 1, none⟩ = some (.int .i64 rf) ∧ W'.cell? ⟨bl, off + i * 6 + 2, none⟩ = some (.int .i64 an) ∧ W'.cell? ⟨bl, off + i * 6 + 3, none⟩ = some (.int .i64 ag) ∧ W'.cell? ⟨bl, off + i * 6 + 4, none⟩ = some (.int .i64 bn) ∧ W'.cell? ⟨bl, off + i * 6 + 5, none⟩ = some (.int .i64 bg)) (with_reducible (first | exact q1 | exact b1d | exact b1z | exact b1e | exact b5 | exact b5y | exact b5z | exact b6))
          (first
            | (go_at_call 9; (with_reducible refine (KW.out _ [r4, r4 + 1] (T.out.only ((Only.refl [] wr).drew)) ((Only.refl [] wr).drew)).mono ?_); rintro e w6 ⟨v2, F2, rfl, t6, o6, -⟩; have T6 := Lib.hid t6; obtain ⟨f7, v7, t7, -⟩ := t6; obtain ⟨A2, c2, rfl, -, -⟩ := t7.t.form; have b5 := HCS.out w6 _ _ _ _ T6.out; have b5y := HCS.out (w6.alloc (.cells (tiC false (.slice none 0 0)) tyTi)) _ _ _ _ (T6.out.alloc _); have b5z := HCS.out (w6.alloc (.cells (tiC true (.slice A2 (doT l ⟨kd, rf, an, ag, bn, bg⟩).length c2)) tyTi)) _ _ _ _ (T6.out.alloc _); have s6 := o6.size; have S6 := Lib.hid (show wr.heap.size ≤ w6.heap.size from s6); clear t7 o6 s6)
            | (go_at_call 9; (with_reducible refine (KW.out _ [wr.heap.size, r4, r4 + 1] ((T.out.alloc _).only ((Only.refl [] _).drew)) (((Only.refl [] wr).alloc _).drew)).mono ?_); rintro e w6 ⟨v2, F2, rfl, t6, o6, n6⟩; have T6 := Lib.hid t6; obtain ⟨f7, v7, t7, -⟩ := t6; obtain ⟨A2, c2, rfl, -, -⟩ := t7.t.form; have b5 := HCS.out w6 _ _ _ _ T6.out; have zb : Bk w6 wr.heap.size tyTi (tiC false (.slice none 0 0)) := Bk.only (by with_reducible (first | exact (Bk.made _ _ _).drew | exact Bk.made _ _ _)) o6 (n6 _ (by simp)); have zc0 := zb.cell0 (i := 0) rfl; have zc1 := zb.cell0 (i := 1) rfl; have zcf := zb.free; have ZB := Lib.hid zb; have T9 := Lib.hid (T6.out.other zb (by simp) (by have := L4.out; omega) (by have := L4.out; omega) (set2 w6 wr.heap.size true (.slice A2 (doT l ⟨kd, rf, an, ag, bn, bg⟩).length c2))); have b6 := HCS.out _ _ _ _ _ T9.out; clear t7 o6 n6 zb)
            | fail)
        all_goals
          go_wp2_with fail
          go_meet
          first
            | (refine ⟨wr.heap.size, .slice A2 (doT l ⟨kd, rf, an, ag, bn, bg⟩).length c2, F2, (by with_reducible rfl), rfl, ?_, ?_, ?_, ?_⟩
               · exact ((ZB.out.set 0 (.bool true)).set 1 (.slice A2 (doT l ⟨kd, rf, an, ag, bn, bg⟩).length c2))
               · (with_reducible exact T9.out)
               · have := L4.out; omega
               · have := L4.out; omega)
            | (refine ⟨w6.heap.size, .slice A2 (doT l ⟨kd, rf, an, ag, bn, bg⟩).length c2, F2, (by with_reducible rfl), rfl, ?_, ?_, ?_, ?_⟩
               · (with_reducible exact Bk.made w6 _ _)
               · (with_reducible exact T6.out.alloc _)
               · have h1 := L4.out; have h2 := S6.out; omega
               · have h1 := L4.out; have h2 := S6.out; omega)
      case rest =>
        obtain ⟨b8, v2, F2, rfl, rfl, B8, T8, n84, n86⟩ := hcut
        clear T HRD HNF O
        have T8 := Lib.hid T8
        generalize doT l ⟨kd, rf, an, ag, bn, bg⟩ = l2 at *
        obtain ⟨A2, c2, rfl⟩ : ∃ A2 c2, v2 = .slice A2 l2.length c2 := by
          obtain ⟨f, u, t, -⟩ := T8.out
          obtain ⟨A2, c2, e2, -, -⟩ := t.t.form
          exact ⟨A2, c2, e2⟩
        have B8 := Lib.hid B8
        go_upto_region 11 with fail
        go_cut [10] from 33 to 40 (fun v10 wx => (∃ bb : Bool, v10 = .bool bb) ∧ Only [] wc wx)
        case first =>
          by_cases h100 : (xs.length : Int) < 100
          · go_wp2_with fail
            go_meet
            exact ⟨⟨_, rfl⟩, Only.refl _ _⟩
          · go_wp2_with fail
            go_meet
            exact ⟨⟨_, rfl⟩, Only.refl _ _⟩
        case rest =>
          obtain ⟨⟨bb, rfl⟩, o9⟩ := hcut
          have T8 := Lib.hid (T8.out.only o9)
          have B8 := Lib.hid (B8.out.only o9 (by simp))
          clear o9
          go_upto_region 12 with fail
          go_cut [67] from 41 to 67 (fun v67 wx => v67 = .bool false ∧ Only [] wc wx)
          case first =>
            have x5 := HCX.out wc (by obtain ⟨f, u, t, -⟩ := T8.out; exact t.o)
            cases bb with
            | false =>
              go_quiet (fail)
              go_wp2_with fail
              go_meet
              exact ⟨rfl, (Only.refl [] wc).drewN _⟩
            | true =>
              have k0 : ∀ x : Cm wc, x.1.cell? ⟨b8, 0, none⟩ = some (.bool true) := Cm.cell (B8.out.cell0 rfl)
              have k1 : ∀ x : Cm wc, x.1.cell? ⟨b8, 1, none⟩ = some (.slice A2 l2.length c2) := Cm.cell (B8.out.cell0 rfl)
              have k2 : ∀ x : Cm wc, x.1.cell? ⟨bl, off + i * 6 + 2, none⟩ = some (.int .i64 an) := Cm.cell x5.2.2.1
              have k3 : ∀ x : Cm wc, x.1.cell? ⟨bl, off + i * 6 + 3, none⟩ = some (.int .i64 ag) := Cm.cell x5.2.2.2.1
              have k4 : ∀ x : Cm wc, x.1.cell? ⟨bl, off + i * 6 + 4, none⟩ = some (.int .i64 bn) := Cm.cell x5.2.2.2.2.1
              have k5 : ∀ x : Cm wc, x.1.cell? ⟨bl, off + i * 6 + 5, none⟩ = some (.int .i64 bg) := Cm.cell x5.2.2.2.2.2
              have KI : Hid (∀ (x : Cm wc) (pn pg : Int), Calls Try.prog 10 #[ptB b, .agg (tiC true (.slice A2 l2.length c2)), .agg #[.int .i64 pn, .int .i64 pg]] x.1 fun e w' => e = .returned (.bool true) ∧ Only [] x.1 w') := Lib.hid (fun x pn pg => by
                obtain ⟨f, u, t, -⟩ := T8.out
                exact is_any R (t.t.only0 x.o).rep true A2 c2 ⟨pn, pg⟩ ((t.t.row.only x.o (by simp)).rd_) (by have := (K.may t.t.rep).2; omega))
              clear x5
              refine wp_region_calm (by kernel_rfl) (by kernel_rfl) ?_
              repeat (go_big_quiet_step ((go_at_call 10; exact calmS (KI.out _ _ _))))
              refine wpQuiet_nil ?_
              rintro w5 ⟨⟨w5', o5⟩, e5⟩
              obtain rfl : w5 = w5' := e5
              go_wp2_with fail
              go_meet
              exact ⟨rfl, o5⟩
          case rest =>
            obtain ⟨rfl, o10⟩ := hcut
            have T9 := Lib.hid ((T8.out.only o10).less (by simp) (by simp))
            have B9 := B8.out.only o10 (by simp)
            have z0 := B9.cell0 (i := 0) (v := .bool true) rfl
            have z1 := B9.cell0 (i := 1) (v := .slice A2 l2.length c2) rfl
            have b4 : Bk wc r4 tyTi (tiC true (.slice Av l.length cv)) := by
              obtain ⟨f, u, t, -⟩ := T9.out
              exact t.b4
            have y0 := b4.cell0 (i := 0) (v := .bool true) rfl
            have y1 := b4.cell0 (i := 1) (v := .slice Av l.length cv) rfl
            have yf := b4.free
            have T10 := Lib.hid (T9.out.put4 (.slice A2 l2.length c2))
            have x5 := HCX.out _ (show Only [] w ((wc.setCell ⟨r4, 0, none⟩ (.bool true)).setCell ⟨r4, 1, none⟩ (.slice A2 l2.length c2)) from by obtain ⟨f, u, t, -⟩ := T10.out; exact t.o)
            clear o10 T8 B8 B9 b4 T9
            go_upto_if 74 with fail
            clear x5 z0 z1 y0 y1 yf
            generalize (wc.setCell ⟨r4, 0, none⟩ (.bool true)).setCell ⟨r4, 1, none⟩ (.slice A2 l2.length c2) = w10 at *
            go_cut [5] from 69 to 79 (fun c' wx => TS R w [r4, r4 + 1] b r4 (r4 + 1) c' (.slice A2 l2.length c2) F2 (.slice A2 l2.length c2) l2 wx)
            case first =>
              by_cases h6 : kd = 6
              · have d6 : (kd == 6) = true := by simp [h6]
                have KC : Hid (Calls Try.prog 11 #[ptB b] w10 fun e w' => ∃ b' F', e = .returned (ptB b') ∧ R.rep w' b' F' l2 ∧ (∀ g ∈ F', w10.heap.size ≤ g) ∧ Only [] w10 w') := Lib.hid (by obtain ⟨f, u, t, -⟩ := T10.out; exact M.copy t.t.rep)
                clear h6
                go_wp2_with fail
                (with_reducible refine KC.out.mono ?_)
                rintro e w11 ⟨b', F', rfl, hr, hF, o11⟩
                obtain ⟨f9, v9, t9, -⟩ := T10.out
                have t9' := t9.only o11
                have T11 := Lib.hid (t9'.put6 (t9.copied hr hF o11))
                have y0 := t9'.b4.cell0 (i := 0) (v := .bool true) rfl
                have y1 := t9'.b4.cell0 (i := 1) (v := .slice A2 l2.length c2) rfl
                have z0 := t9'.b6.cell0 (i := 0) (v := .bool f9) rfl
                have z1 := t9'.b6.cell0 (i := 1) (v := v9) rfl
                have zf := t9'.b6.free
                clear hr hF o11 t9 t9' KC
                go_wp2_with fail
                go_meet
                exact T11.out
              · have d6 : (kd == 6) = false := by simp [h6]
                clear h6
                go_wp2_with fail
                go_meet
                exact T10.out
            case rest =>
              clear T10
              obtain ⟨f9, v9, t9, c9⟩ := hcut
              have T9 := Lib.hid t9
              have C9 := Lib.hid c9
              rcases c9 with ⟨e9, h9⟩ | ⟨b', F', v', l', e9, h9, c9⟩
              · subst e9
                clear t9 h9
                go_wp2_with fail
                go_roundw
                case rel => exact ⟨i + 1, _, _, _, by go_num, HI.out, f9, v9, T9.out, C9.out⟩
                case measure => have := HI.out; simp [intOf]; omega
              · subst e9
                by_cases h3 : ((i : Int) % 3 == 0) = true
                · obtain ⟨Ac, cc, rfl, hrc, hnc⟩ := c9.t.form
                  have t0 : T0 R w [r4, r4 + 1] b r4 (r4 + 1) (.slice A2 l2.length c2) F2 (.slice A2 l2.length c2) l2 true (.slice Ac l'.length cc) wc := ⟨t9.t, t9.b4, h9, t9.nF, t9.nl, t9.m4, t9.m6, t9.o, t9.lo⟩
                  have T0' := Lib.hid t0
                  have CB' := Lib.hid c9
                  have HRC := Lib.hid hrc
                  have HNC := Lib.hid hnc
                  have h3' : ((i : Int) % 3 == 0) = true := h3
                  clear t9 h9 c9 t0 hrc hnc T9 C9
                  go_upto_region 21 with fail
                  go_cut [11, 12] from 80 to 98 (fun v11 v12 wx => ∃ (b11 : Nat) (v3 : Value) (F3 : List Nat) (l3 : List Te), v11 = .pointer (some ⟨b11, 0, none⟩) ∧ v12 = .bool true ∧ Bk wx b11 tyTi (tiC true v3) ∧ T0 R w [b11, r4, r4 + 1] b r4 (r4 + 1) (.slice A2 l2.length c2) F2 (.slice A2 l2.length c2) l2 true (.slice Ac l'.length cc) wx ∧ CB R w [b11, r4, r4 + 1] b' F3 v3 l3 F2 (.slice A2 l2.length c2) wx)
                  case first =>
                    have HCS := Lib.hid (show ∀ (W' : World) (N : List Nat), T0 R w N b r4 (r4 + 1) (.slice A2 l2.length c2) F2 (.slice A2 l2.length c2) l2 true (.slice Ac l'.length cc) W' → (W'.cell? ⟨r4 + 1, 0, none⟩ = some (.bool true) ∧ W'.cell? ⟨r4 + 1, 1, none⟩ = some (.slice Ac l'.length cc)) ∧ W'.cell? ⟨bl, off + i * 6 + 2, none⟩ = some (.int .i64 an) ∧ W'.cell? ⟨bl, off + i * 6 + 3, none⟩ = some (.int .i64 ag) from fun W' N t => by
                      have x := HCX.out W' t.o
                      exact ⟨⟨t.b6.cell0 rfl, t.b6.cell0 rfl⟩, x.2.2.1, x.2.2.2.1⟩)
                    have q1 := HCS.out wc _ T0'.out
                    have b1d := HCS.out wc.drew _ (T0'.out.only ((Only.refl [] wc).drew))
                    have b1z := HCS.out (wc.alloc (.cells (tiC false (.slice none 0 0)) tyTi)) _ (T0'.out.alloc _)
                    have b1e := HCS.out (wc.alloc (.cells (tiC false (.slice none 0 0)) tyTi)).drew _ (T0'.out.only (((Only.refl [] wc).alloc _).drew))
                    have KW : Hid (∀ W' N, T0 R w N b r4 (r4 + 1) (.slice A2 l2.length c2) F2 (.slice A2 l2.length c2) l2 true (.slice Ac l'.length cc) W' → CB R w N b' F' (.slice Ac l'.length cc) l' F2 (.slice A2 l2.length c2) W' → Only [] wc W' → Calls Try.prog 9 #[ptB b', .agg (tiC true (.slice Ac l'.length cc)), .agg #[.int .i64 5, .int .i64 0, .int .i64 an, .int .i64 ag, .int .i64 0, .int .i64 0]] W' fun e w' => ∃ v2 F3, e = .returned (.tuple #[.agg (tiC true v2), .bool true]) ∧ T0 R w N b r4 (r4 + 1) (.slice A2 l2.length c2) F2 (.slice A2 l2.length c2) l2 true (.slice Ac l'.length cc) w' ∧ CB R w N b' F3 v2 (doT l' ⟨5, 0, an, ag, 0, 0⟩) F2 (.slice A2 l2.length c2) w' ∧ Only F' W' w' ∧ (∀ g ∈ N, g ∉ F')) := Lib.hid (fun W' N t c oz =>
                      (does_any R K M c.t.rep Ac cc (HRC.out.only oz (by simp)) HNC.out ⟨5, 0, an, ag, 0, 0⟩).mono fun e w' d => by
                        obtain ⟨v2, F3, h1, h2, h3, h4⟩ := t.does c d
                        exact ⟨v2, F3, h1, h2, h3, h4, c.nF⟩)
                    have L4 := Lib.hid (show r4 < wc.heap.size ∧ r4 + 1 < wc.heap.size from ⟨T0'.out.nl r4 (by simp), T0'.out.nl (r4 + 1) (by simp)⟩)
                    go_region_held3 (fun W' => (W'.cell? ⟨r4 + 1, 0, none⟩ = some (.bool true) ∧ W'.cell? ⟨r4 + 1, 1, none⟩ = some (.slice Ac l'.length cc)) ∧ W'.cell? ⟨bl, off + i * 6 + 2, none⟩ = some (.int .i64 an) ∧ W'.cell? ⟨bl, off + i * 6 + 3, none⟩ = some (.int .i64 ag)) (with_reducible (first | exact q1 | exact b1d | exact b1z | exact b1e | exact b5 | exact b5y | exact b5z | exact b6))
                      (first
                        | (go_at_call 9; (with_reducible refine (KW.out _ [r4, r4 + 1] (T0'.out.only ((Only.refl [] wc).drew)) (CB'.out.only ((Only.refl [] wc).drew)) ((Only.refl [] wc).drew)).mono ?_); rintro e w6 ⟨v3, F3, rfl, t6, c6, o6, -⟩; have T6 := Lib.hid t6; have C6 := Lib.hid c6; obtain ⟨A3, c3, rfl, -, -⟩ := c6.t.form; have b5 := HCS.out w6 _ T6.out; have b5y := HCS.out (w6.alloc (.cells (tiC false (.slice none 0 0)) tyTi)) _ (T6.out.alloc _); have b5z := HCS.out (w6.alloc (.cells (tiC true (.slice A3 (doT l' ⟨5, 0, an, ag, 0, 0⟩).length c3)) tyTi)) _ (T6.out.alloc _); clear t6 c6 o6)
                        | (go_at_call 9; (with_reducible refine (KW.out _ [wc.heap.size, r4, r4 + 1] ((T0'.out.alloc _).only ((Only.refl [] _).drew)) ((CB'.out.alloc _).only ((Only.refl [] _).drew)) (((Only.refl [] wc).alloc _).drew)).mono ?_); rintro e w6 ⟨v3, F3, rfl, t6, c6, o6, n6⟩; have T6 := Lib.hid t6; have C6 := Lib.hid c6; obtain ⟨A3, c3, rfl, -, -⟩ := c6.t.form; have b5 := HCS.out w6 _ T6.out; have zb : Bk w6 wc.heap.size tyTi (tiC false (.slice none 0 0)) := Bk.only (by with_reducible (first | exact (Bk.made _ _ _).drew | exact Bk.made _ _ _)) o6 (n6 _ (by simp)); have zc0 := zb.cell0 (i := 0) rfl; have zc1 := zb.cell0 (i := 1) rfl; have zcf := zb.free; have ZB := Lib.hid zb; have T8' := Lib.hid (T6.out.other zb (by simp) (by have := L4.out; omega) (by have := L4.out; omega) (set2 w6 wc.heap.size true (.slice A3 (doT l' ⟨5, 0, an, ag, 0, 0⟩).length c3))); have C8' := Lib.hid (C6.out.other zb (by simp) (set2 w6 wc.heap.size true (.slice A3 (doT l' ⟨5, 0, an, ag, 0, 0⟩).length c3))); have b6 := HCS.out _ _ T8'.out; clear t6 c6 o6 n6 zb)
                        | fail)
                    all_goals
                      go_wp2_with fail
                      go_meet
                      first
                        | (refine ⟨wc.heap.size, .slice A3 (doT l' ⟨5, 0, an, ag, 0, 0⟩).length c3, F3, doT l' ⟨5, 0, an, ag, 0, 0⟩, (by with_reducible rfl), rfl, ?_, ?_, ?_⟩
                           · exact ((ZB.out.set 0 (.bool true)).set 1 (.slice A3 (doT l' ⟨5, 0, an, ag, 0, 0⟩).length c3))
                           · (with_reducible exact T8'.out)
                           · (with_reducible exact C8'.out))
                        | (refine ⟨w6.heap.size, .slice A3 (doT l' ⟨5, 0, an, ag, 0, 0⟩).length c3, F3, doT l' ⟨5, 0, an, ag, 0, 0⟩, (by with_reducible rfl), rfl, ?_, ?_, ?_⟩
                           · (with_reducible exact Bk.made w6 _ _)
                           · (with_reducible exact T6.out.alloc _)
                           · (with_reducible exact C6.out.alloc _))
                  case rest =>
                    obtain ⟨b11, v3, F3, l3, rfl, rfl, B11, t11, c11⟩ := hcut
                    obtain ⟨A3, c3, rfl, -, -⟩ := c11.t.form
                    have T12 := Lib.hid ((t11.less (by simp) (by simp)).put6 c11.less)
                    have z0 := B11.cell0 (i := 0) (v := .bool true) rfl
                    have z1 := B11.cell0 (i := 1) (v := .slice A3 l3.length c3) rfl
                    have y0 := t11.b6.cell0 (i := 0) (v := .bool true) rfl
                    have y1 := t11.b6.cell0 (i := 1) (v := .slice Ac l'.length cc) rfl
                    have yf := t11.b6.free
                    clear t11 c11 B11 T0' CB' HRC HNC
                    go_wp2_with fail
                    go_roundw
                    case rel => exact ⟨i + 1, _, _, _, by go_num, HI.out, T12.out⟩
                    case measure => have := HI.out; simp [intOf]; omega
                · have d3 : ((i : Int) % 3 == 0) = false := by simpa using h3
                  clear t9 h9 c9 h3
                  go_wp2_with fail
                  go_roundw
                  case rel => exact ⟨i + 1, _, _, _, by go_num, HI.out, f9, v9, T9.out, C9.out⟩
                  case measure => have := HI.out; simp [intOf]; omega
    · have e : i = xs.length := by omega
      subst e
      have hm := (K.may t0.t.rep).2
      have b4 := t0.b4
      have KI := Lib.hid (fun (W' : World) (oz : Only [] wr W') => is_any R (t0.t.only0 oz).rep true Av cv ⟨1, 1⟩ (hrd.only oz (by simp)) (by omega))
      have y0 := b4.cell0 (i := 0) (v := .bool true) rfl
      have y1 := b4.cell0 (i := 1) (v := .slice Av l.length cv) rfl
      have KI1 := Lib.hid (KI.out wr (Only.refl _ _))
      obtain ⟨f9, v9, t9, c9⟩ := T.out
      rcases c9 with ⟨e9, h9⟩ | ⟨b', F', v', l', e9, h9, c9⟩
      · subst e9
        clear t0 hrd hnF HRD HNF b4 t9 h9 T hm
        go_wp2_with fail
        (with_reducible refine KI1.out.mono ?_)
        rintro e w5 ⟨rfl, o5⟩
        have O5 := Lib.hid (O.out.trans o5 (by simp))
        have KA := Lib.hid (hA w5)
        clear o5 KI KI1 y0 y1
        go_wp2_with fail
        (with_reducible refine KA.out.mono ?_)
        rintro e w6 ⟨rfl, o6⟩
        have O6 := Lib.hid (O5.out.trans o6 (by simp))
        clear o6
        go_wp2_with fail
        go_ret
        exact ⟨rfl, O6.out⟩
      · subst e9
        obtain ⟨Ac, cc, rfl, hrc, hnc⟩ := c9.t.form
        have hm' := (K.may c9.t.rep).2
        have KC := Lib.hid (fun (W' : World) (oz : Only [] wr W') => is_any R (c9.t.only0 oz).rep true Ac cc ⟨1, 1⟩ (hrc.only oz (by simp)) (by omega))
        have H9 := Lib.hid h9
        clear t0 hrd hnF HRD HNF b4 t9 h9 T c9 hrc hnc hm hm'
        go_wp2_with fail
        (with_reducible refine KI1.out.mono ?_)
        rintro e w5 ⟨rfl, o5⟩
        have O5 := Lib.hid (O.out.trans o5 (by simp))
        have h9' := H9.out.only o5 (by simp)
        have z0 := h9'.cell0 (i := 0) (v := .bool true) rfl
        have z1 := h9'.cell0 (i := 1) (v := .slice Ac l'.length cc) rfl
        have KC5 := Lib.hid (KC.out w5 o5)
        clear o5 KI KI1 KC y0 y1 h9'
        go_wp2_with fail
        (with_reducible refine KC5.out.mono ?_)
        rintro e w6 ⟨rfl, o6⟩
        have O6 := Lib.hid (O5.out.trans o6 (by simp))
        have KA := Lib.hid (hA w6)
        clear o6 KC5 z0 z1
        go_wp2_with fail
        (with_reducible refine KA.out.mono ?_)
        rintro e w7 ⟨rfl, o7⟩
        have O7 := Lib.hid (O6.out.trans o7 (by simp))
        clear o7
        go_wp2_with fail
        go_ret
        exact ⟨rfl, O7.out⟩
end Go.Proofs.Ytkodblhompphjaa

namespace Go.Proofs.Ytkodblhompphjaa
open Go.RowKit
theorem tplays_of (R : TiesRep) (K : TiesDoes R) (M : TiesMore R) (hA : AwakeOk15) {W : World} {v : Value} (h : Kd.ok W (.l kO 48) v) : Calls Try.prog 3 #[v] W fun e w' => e = .returned (.bool true) ∧ Only [] W w' := by
  obtain ⟨A, xs, cap, rfl, _, _, hb, hr, _⟩ := RdS.of_ok KO rfl decO h
  rw [show KO.by' = 48 from rfl] at hb
  exact tplays_any R K M hA A xs cap W hr (by omega)
end Go.Proofs.Ytkodblhompphjaa
