/- The law TableNames. -/
import Derived.Test.YtlidnlcmnkagaaaJC
import Derived.Test.YtlidnlcmnkagaaaCm
namespace Go.Proofs.Ytlidnlcmnkagaaa
open Go.RowKit
set_option maxRecDepth 20000

/-- Where the law's loops stand: the table is under way, the eight pids are the call's own. -/
structure NRel (w : World) (b g mb : Nat) (T : List Pl) (v : Value) (wr : World) : Prop where
  n : N8 T
  u : Und w b g mb 8 T wr
  r : OwnS KP wr w.heap.size v l8
theorem NRel.only {w wr w' : World} {b g mb : Nat} {T : List Pl} {v : Value} (h : NRel w b g mb T v wr) (o : Only [] wr w') : NRel w b g mb T v w' := ⟨h.n, h.u.only o, h.r.only o (by simp)⟩
theorem kp1 : KP.e ≠ 83 := by decide +kernel
theorem kp2 : KP.e ≠ 79 := by decide +kernel
theorem NRel.free_ {w wr w' : World} {b g mb : Nat} {T : List Pl} {v : Value} {r : List Pl × Int} {e : Ending} (h : NRel w b g mb T v wr) (f : FreeE wr b g mb 8 r e w') (n : N8 r.1) : e = .returned (.int .i64 r.2) ∧ NRel w b g mb r.1 v w' :=
  ⟨f.1, n, (h.u.free_ f).2, h.r.byTable h.u.rep kp1 kp2 f.2.2⟩
set_option maxHeartbeats 16000000 in
theorem names_any {A : Option Addr} {xs : List Nm} (cap : Nat) (w : World) (h : RdS KN w A xs) (hl : xs.length ≤ 17592186044416) (hok : ∀ x ∈ xs, x.ok) :
    Calls Try.prog 6 #[.slice A xs.length cap] w fun e w' => e = .returned (.bool true) ∧ Only [] w w' := by
  have H := Lib.hid h
  have HOK := Lib.hid hok
  have K1 : Hid (Calls Try.prog 18 #[.int .i64 8] w (NewE w 8)) := Lib.hid (new_yes 8 w (by omega) (by omega))
  clear h hok
  go_enter Try.func6, Try.ntmps6
  go_wp2_with fail
  (with_reducible refine K1.out.mono ?_)
  rintro e w1 ⟨b, g, mb, rfl, hr, ⟨n1, n2, n3⟩, o1⟩
  have U1 : Hid (Und w b g mb 8 (A8 0) w1) := Lib.hid ⟨hr, n1, n2, n3, o1⟩
  clear hr n1 n2 n3 o1 K1
  go_wp2_with fail
  go_loopw [5, 6, 7, 8] (fun v iv _ _ wr => ∃ i : Nat, iv = .int .i64 i ∧ i ≤ 8 ∧ Und w b g mb 8 (A8 i) wr ∧ OwnS KP wr w.heap.size v (l8.take i)) (fun _ iv _ _ _ => 8 - (intOf iv).toNat)
  case atStart => exact ⟨0, rfl, Nat.zero_le _, U1.out, OwnS.nil _ _ _⟩
  case round =>
    clear U1
    obtain ⟨i, rfl, hi, u, r⟩ := hrel
    have U := Lib.hid u
    have R := Lib.hid r
    by_cases hlt : i < 8
    · have K2 := add_any u.rep
      rw [A8_add i hlt] at K2
      have K2 := Lib.hid K2
      have HT := Lib.hid (l8_take hlt)
      clear u r
      go_wp2_with fail
      (with_reducible refine K2.out.mono ?_)
      rintro e w2 hF
      obtain ⟨rfl, u2⟩ := U.out.add_ hF
      have r2 : OwnS KP w2 w.heap.size u5 (l8.take i) := R.out.byTable U.out.rep kp1 kp2 (hF.2.2.more (by simp))
      have U2 := Lib.hid (u2.only (((Only.refl [] w2).alloc (.cells #[.int .i64 (i : Int), .int .i64 1] 38)).alloc (.cells #[.int .i64 (i : Int), .int .i64 1] 38)))
      have R2 := Lib.hid ((r2.alloc (.cells #[.int .i64 (i : Int), .int .i64 1] 38)).alloc (.cells #[.int .i64 (i : Int), .int .i64 1] 38))
      have LL : ((l8.take i).length + [(⟨(i : Int), 1⟩ : Pd)].length) * KP.by' ≤ 140737488355328 := by
        have : (l8.take i).length ≤ 8 := by simp [l8]; omega
        show (_ + 1) * 16 ≤ _
        omega
      have L0 : w.heap.size ≤ w2.heap.size + 1 + 1 := by have := u2.o.size; omega
      clear hF u2 r2 K2
      go_wp2_with (at_builtin; refine wpList_appS KP _ (by rfl) (.tmp 39) (.tmp 41) (by rfl) (by rfl) R2.out (some ⟨w2.heap.size + 1, 0, none⟩) [⟨(i : Int), 1⟩] 1 1 (by rfl) rfl (RdS.one (Bk.newAt (by simp)) rfl) (by simp; omega) LL ?_; intro v' w3 hown hgrow hat; have G1 := Lib.hid (U2.out.byRow R2.out kp1 kp2 hgrow (Nat.le_refl _)); have G2 := Lib.hid hown; clear hgrow hown hat)
      go_roundw
      case rel => exact ⟨i + 1, by go_num, by omega, G1.out, by rw [HT.out]; exact G2.out⟩
      case measure => simp [intOf]; omega
    · have ei : i = 8 := by omega
      subst ei
      have N := Lib.hid (show NRel w b g mb (A8 8) u5 wr from ⟨N8.start, u, r⟩)
      clear u r U R hi hlt
      rw [show ((8 : Nat) : Int) = 8 from rfl]
      go_wp2_with fail
      generalize u5 = v5 at *
      go_loopw [9, 10, 11, 12, 13, 14, 15, 16, 17] (fun iv _ _ _ _ _ _ _ _ wr => ∃ (i : Nat) (T : List Pl), iv = .int .i64 i ∧ i ≤ xs.length ∧ NRel w b g mb T v5 wr) (fun iv _ _ _ _ _ _ _ _ _ => xs.length - (intOf iv).toNat)
      case atStart => exact ⟨0, _, rfl, Nat.zero_le _, N.out⟩
      case round =>
        clear N
        obtain ⟨i, T, rfl, hi, hn⟩ := hrel
        have N := Lib.hid hn
        by_cases hlt : i < xs.length
        · obtain ⟨bl, off, rfl, hb, hc⟩ := RdNm.at3 (H.out.only0 hn.u.o) (by omega)
          obtain ⟨x, hx⟩ := some_at hlt
          obtain ⟨x0, x1, x2⟩ := hc i x hx
          have HS := Lib.hid (HOK.out x (List.mem_of_getElem? hx))
          have HX := Lib.hid hx
          have HWL := Lib.hid (show g < wr.heap.size ∧ mb < wr.heap.size from ⟨hn.u.rep.glt, hn.u.rep.map.lt⟩)
          obtain ⟨xa, xs', xe⟩ := x
          dsimp only at x0 x1 x2
          obtain ⟨A5, c5, e5, -, -, hr5, ha5⟩ := hn.r.form
          subst e5
          obtain ⟨b5, o5, e6, hb5, -⟩ := hr5.form (by decide)
          obtain ⟨-, -, e7, -⟩ := ha5 b5 o5 e6
          subst e6 e7
          rw [show l8.length = 8 from rfl] at *
          obtain ⟨m, hm, em0⟩ := uint_mod 8 (by omega) (by omega) xa
          have em : wrap64 ((IntKind.u64.wrap xa).tmod 8) = (m : Int) := em0
          have p0 := N.out.r.at_ (l8_at hm) (j := 0) rfl (q := m * 2) (by show _ = m * 2 + 0; omega)
          have p1 := N.out.r.at_ (l8_at hm) (j := 1) rfl (q := m * 2 + 1) rfl
          have pm : (m : Int) < 8 := by omega
          have pm0 : (0 : Int) ≤ (m : Int) := by omega
          have N1 := Lib.hid (N.out.only ((Only.refl [] wr).alloc (.cells #[.int .i64 (m : Int), .int .i64 1] 38)))
          have P1 := Lib.hid (Bk.made wr 38 (⟨(m : Int), 1⟩ : Pd).cs)
          have pi : (i : Int) < (xs.length : Int) := by omega
          have x2 := (((Only.refl [] wr).alloc (.cells #[.int .i64 (m : Int), .int .i64 1] 38)).cell (p := ⟨bl, off + i * 3 + 2, none⟩) hb (by simp)).trans x2
          clear hn hb hc hx hr5 ha5 em0 hb5
          cases xe with
          | true =>
            have KF := Lib.hid (free_any N1.out.u.rep ⟨(m : Int), 1⟩)
            have NF := Lib.hid (N1.out.n.free ⟨(m : Int), 1⟩)
            generalize freeF T ⟨(m : Int), 1⟩ = rr at KF NF
            obtain ⟨T2, er⟩ := rr
            go_wp2_with fail
            (with_reducible refine KF.out.mono ?_)
            rintro e w2 hF
            obtain ⟨rfl, n2⟩ := N1.out.free_ hF NF.out
            have N2 := Lib.hid n2
            clear hF n2 KF N1 N P1 x0 x1 x2 p0 p1
            go_wp2_with fail
            go_loopw [14, 15, 16, 17] (fun kv _ _ _ wr => ∃ k : Nat, kv = .int .i64 k ∧ k ≤ 8 ∧ NRel w b g mb T2 (.slice (some ⟨b5, 0, none⟩) 8 c5) wr) (fun kv _ _ _ _ => 8 - (intOf kv).toNat)
            case atStart => exact ⟨0, rfl, Nat.zero_le _, N2.out⟩
            case round =>
              clear N2
              obtain ⟨k, rfl, hk, hn⟩ := hrel
              have M := Lib.hid hn
              by_cases hk8 : k < 8
              · have l0 := hn.r.at_ (l8_at hk8) (j := 0) rfl (q := k * 2) (by show _ = k * 2 + 0; omega)
                have l1 := hn.r.at_ (l8_at hk8) (j := 1) rfl (q := k * 2 + 1) rfl
                have KQ := Lib.hid (nameOf_any hn.u.rep ⟨(k : Int), 1⟩)
                have HB := Lib.hid (fun h => hn.n.back (k := k) h)
                have pk : (k : Int) < 8 := by omega
                clear hn
                generalize hnm : nameOfF T2 ⟨(k : Int), 1⟩ = nm at KQ HB
                clear hnm
                go_wp2_with fail
                (with_reducible refine KQ.out.mono ?_)
                rintro e v2 ⟨rfl, ov2⟩
                have M2 := Lib.hid (M.out.only ov2)
                have KW := where_any M2.out.u.rep nm
                have l0 := M2.out.r.at_ (l8_at hk8) (j := 0) rfl (q := k * 2) (by show _ = k * 2 + 0; omega)
                have l1 := M2.out.r.at_ (l8_at hk8) (j := 1) rfl (q := k * 2 + 1) rfl
                clear ov2 KQ M
                cases hne : nm.toList.isEmpty with
                | true =>
                  obtain ⟨yp, ye, hy⟩ : ∃ yp ye, whereE (whereF T2 nm) = pidE yp ye := by
                    unfold whereE
                    split
                    · exact ⟨_, _, rfl⟩
                    · exact ⟨_, _, rfl⟩
                  rw [hy] at KW
                  have KW := Lib.hid KW
                  clear hy HB
                  go_wp2_with fail
                  (with_reducible refine KW.out.mono ?_)
                  rintro e v3 ⟨rfl, ov3⟩
                  have M3 := Lib.hid ((M2.out.only ov3).only ((Only.refl [] v3).alloc (.cells yp.cs 38)))
                  clear ov3 KW M2
                  go_wp2_with fail
                  go_quiet (fail)
                  go_wp2
                  go_roundw
                  case rel => exact ⟨k + 1, by go_num, by omega, M3.out.only ((Only.refl [] _).drewN _)⟩
                  case measure => simp [intOf]; omega
                | false =>
                  obtain ⟨hb1, hb2⟩ := HB.out (E0b_ne hne)
                  rw [hb1] at KW
                  simp only [whereE] at KW
                  have KW := Lib.hid KW
                  have HB2 := Lib.hid hb2
                  have ek : eq2 (k : Int) 1 (k : Int) 1 = true := by simp [eq2]
                  clear hb1 hb2 HB
                  go_wp2_with fail
                  (with_reducible refine KW.out.mono ?_)
                  rintro e v3 ⟨rfl, ov3⟩
                  have M3 := Lib.hid ((M2.out.only ov3).only ((Only.refl [] v3).alloc (.cells #[.int .i64 (k : Int), .int .i64 1] 38)))
                  obtain ⟨z0, z1⟩ := Bk.pid (x := ⟨(k : Int), 1⟩) (Bk.made v3 38 #[.int .i64 (k : Int), .int .i64 1])
                  have l0 := M3.out.r.at_ (l8_at hk8) (j := 0) rfl (q := k * 2) (by show _ = k * 2 + 0; omega)
                  have l1 := M3.out.r.at_ (l8_at hk8) (j := 1) rfl (q := k * 2 + 1) rfl
                  have KI : Hid (∀ n, Calls Try.prog 21 #[ptA b, .agg (⟨(k : Int), 1⟩ : Pd).cs] ((v3.alloc (.cells #[.int .i64 (k : Int), .int .i64 1] 38)).drewN n) fun e w' => e = .returned (.bool true) ∧ Only [] ((v3.alloc (.cells #[.int .i64 (k : Int), .int .i64 1] 38)).drewN n) w') := Lib.hid (fun n => by
                    have := is_any (M3.out.only ((Only.refl [] _).drewN n)).u.rep ⟨(k : Int), 1⟩
                    rwa [HB2.out] at this)
                  clear ov3 KW M2
                  go_wp2_with fail
                  refine wp_region_quiet_then 19 (by kernel_rfl) (by kernel_rfl) ?_
                  simp only [List.take_succ_cons, List.take_zero, List.drop_succ_cons, List.drop_zero]
                  repeat (go_big_quiet_step (fail))
                  refine wpQuiet_nil ?_
                  intro q
                  go_wp2_with fail
                  (with_reducible refine (KI.out q).mono ?_)
                  rintro e v4 ⟨rfl, ov4⟩
                  have M4 := Lib.hid ((M3.out.only ((Only.refl [] _).drewN q)).only ov4)
                  clear ov4 KI M3
                  go_wp2_with fail
                  go_roundw
                  case rel => exact ⟨k + 1, by go_num, by omega, M4.out⟩
                  case measure => simp [intOf]; omega
              · have q8 : decide ((k : Int) < 8) = false := decide_eq_false (by omega)
                clear hn hk hk8
                go_wp2_with fail
                go_roundw
                case rel => exact ⟨i + 1, _, by go_num, by omega, M.out⟩
                case measure => simp [intOf]; omega
          | false =>
            have q1 : (wr.alloc (.cells #[.int .i64 (m : Int), .int .i64 1] 38)).cell? ⟨wr.heap.size, 0, none⟩ = some (.int .i64 (m : Int)) ∧ (wr.alloc (.cells #[.int .i64 (m : Int), .int .i64 1] 38)).cell? ⟨wr.heap.size, 1, none⟩ = some (.int .i64 1) := P1.out.pid
            have k0 : ∀ x : Cm (wr.alloc (.cells #[.int .i64 (m : Int), .int .i64 1] 38)), x.1.cell? ⟨wr.heap.size, 0, none⟩ = some (.int .i64 (m : Int)) := Cm.cell q1.1
            have k1 : ∀ x : Cm (wr.alloc (.cells #[.int .i64 (m : Int), .int .i64 1] 38)), x.1.cell? ⟨wr.heap.size, 1, none⟩ = some (.int .i64 1) := Cm.cell q1.2
            have KA := Lib.hid (fun x : Cm (wr.alloc (.cells #[.int .i64 (m : Int), .int .i64 1] 38)) => nameOf_any (N1.out.only x.o).u.rep ⟨(m : Int), 1⟩)
            have KB := Lib.hid (fun x : Cm (wr.alloc (.cells #[.int .i64 (m : Int), .int .i64 1] 38)) => is_any (N1.out.only x.o).u.rep ⟨(m : Int), 1⟩)
            clear N
            go_wp2_with fail
            clear x0 x1 x2 p0 p1
            refine wp_region_calm (by kernel_rfl) (by kernel_rfl) ?_
            repeat (go_big_quiet_step ((first | (go_at_call 23; exact calmS (KA.out _)) | (go_at_call 21; exact calmS (KB.out _)))))
            refine wpQuiet_nil ?_
            rintro w3 ⟨⟨w3', o3⟩, e3⟩
            obtain rfl : w3 = w3' := e3
            have N3 := Lib.hid (N1.out.only o3)
            have P3 := Lib.hid (P1.out.only o3 (by simp))
            obtain ⟨y0, y1⟩ := Bk.pid (x := ⟨(m : Int), 1⟩) P3.out
            clear q1 k0 k1 KA KB o3 N1 P1
            obtain ⟨bl', off', eA, -, hc⟩ := RdNm.at3 (H.out.only0 N3.out.u.o) (by omega)
            injection eA with eA
            injection eA with eA1 eA2
            subst eA1 eA2
            obtain ⟨-, xn, -⟩ := hc i _ HX.out
            dsimp only at xn
            clear hc
            have KM : Hid (∀ n, Calls Try.prog 24 #[ptA b, .agg (⟨(m : Int), 1⟩ : Pd).cs, .string xs'] (w3.drewN n) (FreeE (w3.drewN n) b g mb 8 (nameF T ⟨(m : Int), 1⟩ xs'))) := Lib.hid (fun n => name_any (N3.out.only ((Only.refl [] _).drewN n)).u.rep ⟨(m : Int), 1⟩ xs' HS.out)
            have NN := Lib.hid (N3.out.n.name ⟨(m : Int), 1⟩ xs')
            have NY := Lib.hid (fun h => name_yes (T := T) (p := ⟨(m : Int), 1⟩) (s := xs') h)
            have NO := Lib.hid (fun h => name_not (T := T) (p := ⟨(m : Int), 1⟩) (s := xs') h)
            generalize nameF T ⟨(m : Int), 1⟩ xs' = rr at KM NN NY NO
            obtain ⟨T2, er⟩ := rr
            dsimp only at NN NY NO
            go_wp2_with fail
            refine wp_region_quiet_then 7 (by kernel_rfl) (by kernel_rfl) ?_
            simp only [List.take_succ_cons, List.take_zero, List.drop_succ_cons, List.drop_zero]
            repeat (go_big_quiet_step (fail))
            refine wpQuiet_nil ?_
            intro q
            go_wp2_with fail
            (with_reducible refine (KM.out q).mono ?_)
            rintro e w4 hF
            obtain ⟨rfl, n4⟩ := (N3.out.only ((Only.refl [] _).drewN q)).free_ hF NN.out
            have N4 := Lib.hid n4
            have P4 := (P3.out.drewN q).only hF.2.2 (by have h1 := N3.out.u.rep.glt; have h2 := N3.out.u.rep.map.lt; have h3 := HWL.out; simp; omega)
            obtain ⟨bl', off', eA, hb4, hc⟩ := RdNm.at3 (H.out.only0 N4.out.u.o) (by omega)
            injection eA with eA
            injection eA with eA1 eA2
            subst eA1 eA2
            have HB4 := Lib.hid hb4
            obtain ⟨-, xn4, -⟩ := hc i _ HX.out
            dsimp only at xn4
            have q4 : (w4.cell? ⟨wr.heap.size, 0, none⟩ = some (.int .i64 (m : Int)) ∧ w4.cell? ⟨wr.heap.size, 1, none⟩ = some (.int .i64 1)) ∧ w4.cell? ⟨bl, off + i * 3 + 1, none⟩ = some (.string xs') := ⟨P4.pid, xn4⟩
            have P4h := Lib.hid P4
            clear hc hF n4 KM N3 P3 xn y0 y1 xn4 P4
            by_cases her : er = 0
            · obtain ⟨g1, g2, g3⟩ := NY.out her
              subst her
              have KE : Hid (∀ x : Cm w4, Calls Try.prog 23 #[ptA b, .agg (⟨(m : Int), 1⟩ : Pd).cs] x.1 fun e w' => e = .returned (.string xs') ∧ Only [] x.1 w') := Lib.hid (fun x => by
                have := nameOf_any (N4.out.only x.o).u.rep ⟨(m : Int), 1⟩
                rwa [g3] at this)
              rw [g1, g2]
              have he0 : E0b.toList.isEmpty = true := by decide +kernel
              have hs1 : (xs'.toList == xs'.toList) = true := beq_self_eq_true _
              clear NY NO g1 g2 g3
              have k0 : ∀ x : Cm w4, x.1.cell? ⟨wr.heap.size, 0, none⟩ = some (.int .i64 (m : Int)) := Cm.cell q4.1.1
              have k1 : ∀ x : Cm w4, x.1.cell? ⟨wr.heap.size, 1, none⟩ = some (.int .i64 1) := Cm.cell q4.1.2
              have k2 : ∀ x : Cm w4, x.1.cell? ⟨bl, off + i * 3 + 1, none⟩ = some (.string xs') := Cm.cell q4.2
              clear q4
              go_wp2_with fail
              refine wp_region_calm (by kernel_rfl) (by kernel_rfl) ?_
              repeat (go_big_quiet_step ((go_at_call 23; exact calmS (KE.out _))))
              refine wpQuiet_nil ?_
              rintro w5 ⟨⟨w5', o5⟩, e5⟩
              obtain rfl : w5 = w5' := e5
              have N5 := Lib.hid (N4.out.only o5)
              clear k0 k1 k2 KE o5 N4 P4h
              go_wp2_with fail
              go_loopw [14, 15, 16, 17] (fun kv _ _ _ wr => ∃ k : Nat, kv = .int .i64 k ∧ k ≤ 8 ∧ NRel w b g mb T2 (.slice (some ⟨b5, 0, none⟩) 8 c5) wr) (fun kv _ _ _ _ => 8 - (intOf kv).toNat)
              case atStart => exact ⟨0, rfl, Nat.zero_le _, N5.out⟩
              case round =>
                clear N5
                obtain ⟨k, rfl, hk, hn⟩ := hrel
                have M := Lib.hid hn
                by_cases hk8 : k < 8
                · have l0 := hn.r.at_ (l8_at hk8) (j := 0) rfl (q := k * 2) (by show _ = k * 2 + 0; omega)
                  have l1 := hn.r.at_ (l8_at hk8) (j := 1) rfl (q := k * 2 + 1) rfl
                  have KQ := Lib.hid (nameOf_any hn.u.rep ⟨(k : Int), 1⟩)
                  have HB := Lib.hid (fun h => hn.n.back (k := k) h)
                  have pk : (k : Int) < 8 := by omega
                  clear hn
                  generalize hnm : nameOfF T2 ⟨(k : Int), 1⟩ = nm at KQ HB
                  clear hnm
                  go_wp2_with fail
                  (with_reducible refine KQ.out.mono ?_)
                  rintro e v2 ⟨rfl, ov2⟩
                  have M2 := Lib.hid (M.out.only ov2)
                  have KW := where_any M2.out.u.rep nm
                  have l0 := M2.out.r.at_ (l8_at hk8) (j := 0) rfl (q := k * 2) (by show _ = k * 2 + 0; omega)
                  have l1 := M2.out.r.at_ (l8_at hk8) (j := 1) rfl (q := k * 2 + 1) rfl
                  clear ov2 KQ M
                  cases hne : nm.toList.isEmpty with
                  | true =>
                    obtain ⟨yp, ye, hy⟩ : ∃ yp ye, whereE (whereF T2 nm) = pidE yp ye := by
                      unfold whereE
                      split
                      · exact ⟨_, _, rfl⟩
                      · exact ⟨_, _, rfl⟩
                    rw [hy] at KW
                    have KW := Lib.hid KW
                    clear hy HB
                    go_wp2_with fail
                    (with_reducible refine KW.out.mono ?_)
                    rintro e v3 ⟨rfl, ov3⟩
                    have M3 := Lib.hid ((M2.out.only ov3).only ((Only.refl [] v3).alloc (.cells yp.cs 38)))
                    clear ov3 KW M2
                    go_wp2_with fail
                    go_quiet (fail)
                    go_wp2
                    go_roundw
                    case rel => exact ⟨k + 1, by go_num, by omega, M3.out.only ((Only.refl [] _).drewN _)⟩
                    case measure => simp [intOf]; omega
                  | false =>
                    obtain ⟨hb1, hb2⟩ := HB.out (E0b_ne hne)
                    rw [hb1] at KW
                    simp only [whereE] at KW
                    have KW := Lib.hid KW
                    have HB2 := Lib.hid hb2
                    have ek : eq2 (k : Int) 1 (k : Int) 1 = true := by simp [eq2]
                    clear hb1 hb2 HB
                    go_wp2_with fail
                    (with_reducible refine KW.out.mono ?_)
                    rintro e v3 ⟨rfl, ov3⟩
                    have M3 := Lib.hid ((M2.out.only ov3).only ((Only.refl [] v3).alloc (.cells #[.int .i64 (k : Int), .int .i64 1] 38)))
                    obtain ⟨z0, z1⟩ := Bk.pid (x := ⟨(k : Int), 1⟩) (Bk.made v3 38 #[.int .i64 (k : Int), .int .i64 1])
                    have l0 := M3.out.r.at_ (l8_at hk8) (j := 0) rfl (q := k * 2) (by show _ = k * 2 + 0; omega)
                    have l1 := M3.out.r.at_ (l8_at hk8) (j := 1) rfl (q := k * 2 + 1) rfl
                    have KI : Hid (∀ n, Calls Try.prog 21 #[ptA b, .agg (⟨(k : Int), 1⟩ : Pd).cs] ((v3.alloc (.cells #[.int .i64 (k : Int), .int .i64 1] 38)).drewN n) fun e w' => e = .returned (.bool true) ∧ Only [] ((v3.alloc (.cells #[.int .i64 (k : Int), .int .i64 1] 38)).drewN n) w') := Lib.hid (fun n => by
                      have := is_any (M3.out.only ((Only.refl [] _).drewN n)).u.rep ⟨(k : Int), 1⟩
                      rwa [HB2.out] at this)
                    clear ov3 KW M2
                    go_wp2_with fail
                    refine wp_region_quiet_then 19 (by kernel_rfl) (by kernel_rfl) ?_
                    simp only [List.take_succ_cons, List.take_zero, List.drop_succ_cons, List.drop_zero]
                    repeat (go_big_quiet_step (fail))
                    refine wpQuiet_nil ?_
                    intro q
                    go_wp2_with fail
                    (with_reducible refine (KI.out q).mono ?_)
                    rintro e v4 ⟨rfl, ov4⟩
                    have M4 := Lib.hid ((M3.out.only ((Only.refl [] _).drewN q)).only ov4)
                    clear ov4 KI M3
                    go_wp2_with fail
                    go_roundw
                    case rel => exact ⟨k + 1, by go_num, by omega, M4.out⟩
                    case measure => simp [intOf]; omega
                · have q8 : decide ((k : Int) < 8) = false := decide_eq_false (by omega)
                  clear hn hk hk8
                  go_wp2_with fail
                  go_roundw
                  case rel => exact ⟨i + 1, _, by go_num, by omega, M.out⟩
                  case measure => simp [intOf]; omega
            · have te : (er == 0) = false := by simpa using her
              have te2 : (er != 0) = true := by simpa using her
              have e2 := NO.out her
              subst e2
              have KE := Lib.hid (fun x : Cm w4 => nameOf_any (N4.out.only x.o).u.rep ⟨(m : Int), 1⟩)
              clear NY NO her
              generalize nameOfF T2 ⟨(m : Int), 1⟩ = hd at KE ⊢
              generalize isF T2 ⟨(m : Int), 1⟩ = hi2 at *
              have hs1 : (hd.toList == hd.toList) = true := beq_self_eq_true _
              have k0 : ∀ x : Cm w4, x.1.cell? ⟨wr.heap.size, 0, none⟩ = some (.int .i64 (m : Int)) := Cm.cell q4.1.1
              have k1 : ∀ x : Cm w4, x.1.cell? ⟨wr.heap.size, 1, none⟩ = some (.int .i64 1) := Cm.cell q4.1.2
              have k2 : ∀ x : Cm w4, x.1.cell? ⟨bl, off + i * 3 + 1, none⟩ = some (.string xs') := Cm.cell q4.2
              clear q4
              go_wp2_with fail
              refine wp_region_calm (by kernel_rfl) (by kernel_rfl) ?_
              repeat (go_big_quiet_step ((go_at_call 23; exact calmS (KE.out _))))
              refine wpQuiet_nil ?_
              rintro w5 ⟨⟨w5', o5⟩, e5⟩
              obtain rfl : w5 = w5' := e5
              have N5 := Lib.hid (N4.out.only o5)
              clear k0 k1 k2 KE o5 N4 P4h
              go_wp2_with fail
              go_loopw [14, 15, 16, 17] (fun kv _ _ _ wr => ∃ k : Nat, kv = .int .i64 k ∧ k ≤ 8 ∧ NRel w b g mb T2 (.slice (some ⟨b5, 0, none⟩) 8 c5) wr) (fun kv _ _ _ _ => 8 - (intOf kv).toNat)
              case atStart => exact ⟨0, rfl, Nat.zero_le _, N5.out⟩
              case round =>
                clear N5
                obtain ⟨k, rfl, hk, hn⟩ := hrel
                have M := Lib.hid hn
                by_cases hk8 : k < 8
                · have l0 := hn.r.at_ (l8_at hk8) (j := 0) rfl (q := k * 2) (by show _ = k * 2 + 0; omega)
                  have l1 := hn.r.at_ (l8_at hk8) (j := 1) rfl (q := k * 2 + 1) rfl
                  have KQ := Lib.hid (nameOf_any hn.u.rep ⟨(k : Int), 1⟩)
                  have HB := Lib.hid (fun h => hn.n.back (k := k) h)
                  have pk : (k : Int) < 8 := by omega
                  clear hn
                  generalize hnm : nameOfF T2 ⟨(k : Int), 1⟩ = nm at KQ HB
                  clear hnm
                  go_wp2_with fail
                  (with_reducible refine KQ.out.mono ?_)
                  rintro e v2 ⟨rfl, ov2⟩
                  have M2 := Lib.hid (M.out.only ov2)
                  have KW := where_any M2.out.u.rep nm
                  have l0 := M2.out.r.at_ (l8_at hk8) (j := 0) rfl (q := k * 2) (by show _ = k * 2 + 0; omega)
                  have l1 := M2.out.r.at_ (l8_at hk8) (j := 1) rfl (q := k * 2 + 1) rfl
                  clear ov2 KQ M
                  cases hne : nm.toList.isEmpty with
                  | true =>
                    obtain ⟨yp, ye, hy⟩ : ∃ yp ye, whereE (whereF T2 nm) = pidE yp ye := by
                      unfold whereE
                      split
                      · exact ⟨_, _, rfl⟩
                      · exact ⟨_, _, rfl⟩
                    rw [hy] at KW
                    have KW := Lib.hid KW
                    clear hy HB
                    go_wp2_with fail
                    (with_reducible refine KW.out.mono ?_)
                    rintro e v3 ⟨rfl, ov3⟩
                    have M3 := Lib.hid ((M2.out.only ov3).only ((Only.refl [] v3).alloc (.cells yp.cs 38)))
                    clear ov3 KW M2
                    go_wp2_with fail
                    go_quiet (fail)
                    go_wp2
                    go_roundw
                    case rel => exact ⟨k + 1, by go_num, by omega, M3.out.only ((Only.refl [] _).drewN _)⟩
                    case measure => simp [intOf]; omega
                  | false =>
                    obtain ⟨hb1, hb2⟩ := HB.out (E0b_ne hne)
                    rw [hb1] at KW
                    simp only [whereE] at KW
                    have KW := Lib.hid KW
                    have HB2 := Lib.hid hb2
                    have ek : eq2 (k : Int) 1 (k : Int) 1 = true := by simp [eq2]
                    clear hb1 hb2 HB
                    go_wp2_with fail
                    (with_reducible refine KW.out.mono ?_)
                    rintro e v3 ⟨rfl, ov3⟩
                    have M3 := Lib.hid ((M2.out.only ov3).only ((Only.refl [] v3).alloc (.cells #[.int .i64 (k : Int), .int .i64 1] 38)))
                    obtain ⟨z0, z1⟩ := Bk.pid (x := ⟨(k : Int), 1⟩) (Bk.made v3 38 #[.int .i64 (k : Int), .int .i64 1])
                    have l0 := M3.out.r.at_ (l8_at hk8) (j := 0) rfl (q := k * 2) (by show _ = k * 2 + 0; omega)
                    have l1 := M3.out.r.at_ (l8_at hk8) (j := 1) rfl (q := k * 2 + 1) rfl
                    have KI : Hid (∀ n, Calls Try.prog 21 #[ptA b, .agg (⟨(k : Int), 1⟩ : Pd).cs] ((v3.alloc (.cells #[.int .i64 (k : Int), .int .i64 1] 38)).drewN n) fun e w' => e = .returned (.bool true) ∧ Only [] ((v3.alloc (.cells #[.int .i64 (k : Int), .int .i64 1] 38)).drewN n) w') := Lib.hid (fun n => by
                      have := is_any (M3.out.only ((Only.refl [] _).drewN n)).u.rep ⟨(k : Int), 1⟩
                      rwa [HB2.out] at this)
                    clear ov3 KW M2
                    go_wp2_with fail
                    refine wp_region_quiet_then 19 (by kernel_rfl) (by kernel_rfl) ?_
                    simp only [List.take_succ_cons, List.take_zero, List.drop_succ_cons, List.drop_zero]
                    repeat (go_big_quiet_step (fail))
                    refine wpQuiet_nil ?_
                    intro q
                    go_wp2_with fail
                    (with_reducible refine (KI.out q).mono ?_)
                    rintro e v4 ⟨rfl, ov4⟩
                    have M4 := Lib.hid ((M3.out.only ((Only.refl [] _).drewN q)).only ov4)
                    clear ov4 KI M3
                    go_wp2_with fail
                    go_roundw
                    case rel => exact ⟨k + 1, by go_num, by omega, M4.out⟩
                    case measure => simp [intOf]; omega
                · have q8 : decide ((k : Int) < 8) = false := decide_eq_false (by omega)
                  clear hn hk hk8
                  go_wp2_with fail
                  go_roundw
                  case rel => exact ⟨i + 1, _, by go_num, by omega, M.out⟩
                  case measure => simp [intOf]; omega
        · have ei : i = xs.length := by omega
          subst ei
          have KA := Lib.hid (awake_any wr)
          have O := Lib.hid hn.u.o
          clear hn
          go_wp2_with fail
          (with_reducible refine KA.out.mono ?_)
          rintro e w9 ⟨rfl, o9⟩
          go_wp2_with fail
          go_ret
          exact ⟨rfl, O.out.trans o9 (by simp)⟩
end Go.Proofs.Ytlidnlcmnkagaaa
