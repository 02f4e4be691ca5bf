/- The law TableFresh. -/
import Derived.Test.YtlidnlcmnkagaaaJF
import Derived.Test.YtlidnlcmnkagaaaGShell
namespace Go.Proofs.Ytlidnlcmnkagaaa
open Go.RowKit
set_option maxRecDepth 20000

abbrev rtC (n : Int) (v1 v2 v3 : Value) : Array Value := #[.int .i64 n, v1, v2, v3]
abbrev rt0 : Array Value := rtC 0 (.slice none 0 0) (.slice none 0 0) (.slice none 0 0)
set_option maxHeartbeats 2000000 in
theorem rnew_no (room : Int) (w : World) (h : ¬ (1 ≤ room ∧ room ≤ 256)) : Calls Try.prog 19 #[.int .i64 room] w fun e w' => e = .returned (.tuple #[.agg rt0, .int .i64 1]) ∧ Only [] w w' := by
  have O := Lib.hid (((Only.refl [] w).alloc (.cells rt0 30)).alloc (.cells rt0 30))
  by_cases h1 : room < 1
  · go_enter Try.func19, Try.ntmps19
    go_wp2_with fail
    refine bodyPost_ret (v := .tuple #[.agg rt0, .int .i64 1]) (by simp [results, Try.results19, go_sem]) rfl ⟨rfl, O.out⟩
  · have q0 : decide (room < 1) = false := decide_eq_false h1
    have q1 : decide (256 < room) = true := decide_eq_true (by omega)
    go_enter Try.func19, Try.ntmps19
    go_wp2_with fail
    refine bodyPost_ret (v := .tuple #[.agg rt0, .int .i64 1]) (by simp [results, Try.results19, go_sem]) rfl ⟨rfl, O.out⟩
theorem kb1 : KB.e ≠ 83 := by decide +kernel
theorem kb2 : KB.e ≠ 79 := by decide +kernel
theorem kpb : KP.e ≠ KB.e := by decide +kernel
theorem kp1' : KP.e ≠ 83 := by decide +kernel
theorem kp2' : KP.e ≠ 79 := by decide +kernel
structure GRel (w : World) (b g mb room : Nat) (T : List Pl) (given : List Pd) (dead : List Bool) (i : Nat) (v9 v10 : Value) (wr : World) : Prop where
  n : FInv room T given dead i
  u : Und w b g mb room T wr
  r : OwnS KP wr w.heap.size v9 given
  d : OwnS KB wr w.heap.size v10 dead
theorem GRel.only {w wr w' : World} {b g mb room : Nat} {T : List Pl} {given : List Pd} {dead : List Bool} {i : Nat} {v9 v10 : Value} (h : GRel w b g mb room T given dead i v9 v10 wr) (o : Only [] wr w') : GRel w b g mb room T given dead i v9 v10 w' := ⟨h.n, h.u.only o, h.r.only o (by simp), h.d.only o (by simp)⟩
set_option maxHeartbeats 16000000 in
theorem fresh_any (A : Option Addr) {xs : List Int} (cap : Nat) (room : Int) (w : World) (h : RdS KI w A xs) (hl : xs.length * 8 + 4096 ≤ 140737488355328) :
    Calls Try.prog 5 #[.int .i64 room, .slice A xs.length cap] w fun e w' => e = .returned (.bool true) ∧ Only [] w w' := by
  have H := Lib.hid h
  clear h
  by_cases hroom : 1 ≤ room ∧ room ≤ 256
  · obtain ⟨n, rfl⟩ := Int.eq_ofNat_of_zero_le (show 0 ≤ room by omega)
    have hn1 : 1 ≤ n := by omega
    have hn2 : n ≤ 256 := by omega
    have K1 := Lib.hid (new_yes n w hn1 hn2)
    clear hroom
    go_enter Try.func5, Try.ntmps5
    go_wp2_with fail
    (with_reducible refine K1.out.mono ?_)
    rintro e w1 ⟨b, g, mb, rfl, hr, ⟨n1, n2, n3⟩, o1⟩
    have G1 : Hid (GRel w b g mb n (zeroT n) [] [] 0 (.slice none 0 0) (.slice none 0 0) w1) := Lib.hid ⟨FInv.start hn1 hn2, ⟨hr, n1, n2, n3, o1⟩, OwnS.nil _ _ _, OwnS.nil _ _ _⟩
    clear hr n1 n2 n3 o1 K1
    go_wp2_with fail
    go_loopw [9, 10, 11, 12, 13, 14, 15, 16, 17] (fun v9 v10 av iv _ _ _ _ _ wr => ∃ (i : Nat) (T : List Pl) (given : List Pd) (dead : List Bool), iv = .int .i64 i ∧ i ≤ xs.length ∧ av = .int .i64 (cntAl T : Nat) ∧ GRel w b g mb n T given dead i v9 v10 wr) (fun _ _ _ iv _ _ _ _ _ _ => xs.length - (intOf iv).toNat)
    case atStart => exact ⟨0, _, _, _, rfl, Nat.zero_le _, by rw [cntAl_zero]; rfl, G1.out⟩
    case round =>
      clear G1
      obtain ⟨i, T, given, dead, rfl, hi, rfl, hg⟩ := hrel
      have G := Lib.hid hg
      obtain ⟨A9, c9, e9, hc9, hm9, -, -⟩ := hg.r.form
      obtain ⟨A10, c10, e10, hc10, hm10, -, -⟩ := hg.d.form
      subst e9 e10
      have hlen := hg.n.len_le
      have HSM := Lib.hid hg.n.same
      by_cases hlt : i < xs.length
      · obtain ⟨bl, off, rfl, hb, hc⟩ := RdI.at1 (H.out.only0 hg.u.o) (by omega)
        obtain ⟨x, hx⟩ := some_at hlt
        have x0 := hc i x hx
        have pi : (i : Int) < (xs.length : Int) := by omega
        clear hc hx hg
        by_cases hadd : x < 0 ∨ given = []
        · have hcond : decide (x < 0) = true ∨ (decide (x < 0) = false ∧ ((given.length : Int) == 0) = true) := by
            by_cases h0 : x < 0
            · exact .inl (decide_eq_true h0)
            · refine .inr ⟨decide_eq_false h0, ?_⟩
              rcases hadd with h1 | h1
              · exact absurd h1 h0
              · rw [h1]; rfl
          have K2 := add_any G.out.u.rep
          have hcle := cntAl_le T
          have hTl := G.out.n.len
          by_cases hfull : cntAl T < n
          · obtain ⟨k0, y, hai, hy, hal, hadf⟩ := G.out.n.room (by omega) hfull
            obtain ⟨hnx, hcnt⟩ := G.out.n.add hai hy hal
            have HFR := Lib.hid (fun j q hq => G.out.n.fresh hy (j := j) (q := q) hq)
            rw [hadf] at K2
            have K2 := Lib.hid K2
            have HNX := Lib.hid hnx
            have HCNT := Lib.hid hcnt
            generalize T.set k0 ⟨y.had + 1, true, y.nm⟩ = T2 at K2 HNX HCNT
            have t5 : decide ((cntAl T : Int) < (n : Int)) = true := decide_eq_true (by omega)
            have t5' : decide (cntAl T < n) = true := decide_eq_true hfull
            generalize hp : (⟨(k0 : Int), y.had + 1⟩ : Pd) = p at K2 HFR HNX
            clear hadf hai hy hal hnx hcnt hadd hp hTl
            rcases hcond with t0 | ⟨t0, t1⟩
            all_goals
              go_wp2_with fail
              (with_reducible refine K2.out.mono ?_)
              rintro e w2 hF
              obtain ⟨rfl, u2⟩ := G.out.u.add_ hF
              have U2 := Lib.hid (u2.only ((Only.refl [] w2).alloc (.cells p.cs 38)))
              have R2 := Lib.hid ((G.out.r.byTable G.out.u.rep kp1' kp2' (hF.2.2.more (by simp))).alloc (.cells p.cs 38))
              have D2 := Lib.hid ((G.out.d.byTable G.out.u.rep kb1 kb2 (hF.2.2.more (by simp))).alloc (.cells p.cs 38))
              have P2 := Lib.hid (Bk.made w2 38 p.cs)
              clear hF u2 K2
              go_wp2_with fail
              go_loopw [15] (fun kv wr => ∃ k : Nat, kv = .int .i64 k ∧ k ≤ given.length ∧ Only [] (w2.alloc (.cells p.cs 38)) wr) (fun kv _ => given.length - (intOf kv).toNat)
              case atStart => exact ⟨0, rfl, Nat.zero_le _, Only.refl _ _⟩
              case round =>
                obtain ⟨k, rfl, hk, ho⟩ := hrel
                have HO := Lib.hid ho
                by_cases hk2 : k < given.length
                · obtain ⟨q, hq⟩ := some_at hk2
                  have r3 := R2.out.only ho (by simp)
                  obtain ⟨b9, o9, e9, hb9, hc9'⟩ := RdP.at2 (show RdS KP wr A9 given from by
                    obtain ⟨A', c', e', -, -, hr', -⟩ := r3.form
                    injection e' with e'
                    rw [e']; exact hr') (by omega)
                  subst e9
                  obtain ⟨z0, z1⟩ := hc9' k q hq
                  obtain ⟨y0, y1⟩ := (P2.out.only ho (by simp)).pid
                  have hE := HFR.out k q hq
                  simp only [eqP] at hE
                  have pk : (k : Int) < (given.length : Int) := by omega
                  clear hc9' r3 hq ho hb9
                  go_wp2_with fail
                  go_quiet (fail)
                  go_wp2
                  go_roundw
                  case rel => exact ⟨k + 1, by go_num, by omega, HO.out.drewN _⟩
                  case measure => simp [intOf]; omega
                · have ek : k = given.length := by omega
                  subst ek
                  obtain ⟨y0, y1⟩ := (P2.out.only ho (by simp)).pid
                  have U3 := Lib.hid (U2.out.only (ho.alloc (.cells p.cs 38)))
                  have R3 := Lib.hid ((R2.out.only ho (by simp)).alloc (.cells p.cs 38))
                  have D3 := Lib.hid ((D2.out.only ho (by simp)).alloc (.cells p.cs 38))
                  have LL : (given.length + [p].length) * KP.by' ≤ 140737488355328 := by show (_ + 1) * 16 ≤ _; omega
                  have LB : (dead.length + [false].length) * KB.by' ≤ 140737488355328 := by show (_ + 1) * 1 ≤ _; have := HSM.out; omega
                  have L0 : w.heap.size ≤ (wr.alloc (.cells p.cs 38)).heap.size := U3.out.o.size
                  clear ho
                  go_wp2_with (first
                    | (at_builtin; refine wpList_appS KP _ (by rfl) (.tmp 94) (.tmp 96) (by rfl) (by rfl) R3.out (some ⟨wr.heap.size, 0, none⟩) [p] 1 1 (by rfl) rfl (RdS.one (Bk.newAt rfl) rfl) L0 LL ?_; intro v9 w5 hown hgrow hat; have U5 := Lib.hid ((U3.out.byRow R3.out kp1' kp2' hgrow (Nat.le_refl _)).only ((Only.refl [] w5).alloc (.cells #[.bool false] 4))); have R5 := Lib.hid (hown.alloc (.cells #[.bool false] 4)); have D5 := Lib.hid ((OwnS.only D3.out (Only.of_grown hgrow) (D3.out.beside R3.out (fun e => kpb e.symm))).alloc (.cells #[.bool false] 4)); have L5 : w.heap.size ≤ (w5.alloc (.cells #[.bool false] 4)).heap.size := U5.out.o.size; clear hown hgrow hat)
                    | (at_builtin; refine wpList_appS KB _ (by rfl) (.tmp 98) (.tmp 99) (by rfl) (by rfl) D5.out (some ⟨w5.heap.size, 0, none⟩) [false] 1 1 (by rfl) rfl (RdS.one (Bk.newAt rfl) rfl) L5 LB ?_; intro v10 w6 hown hgrow hat; have U6 := Lib.hid (U5.out.byRow D5.out kb1 kb2 hgrow (Nat.le_refl _)); have R6 := Lib.hid (OwnS.only R5.out (Only.of_grown hgrow) (R5.out.beside D5.out kpb)); have D6 := Lib.hid hown; clear hown hgrow hat)
                    | fail)
                  go_roundw
                  case rel => exact ⟨i + 1, T2, given ++ [p], dead ++ [false], by go_num, by omega, by rw [HCNT.out]; go_num, HNX.out, U6.out, R6.out, D6.out⟩
                  case measure => simp [intOf]; omega
          · have hadf := G.out.n.full hfull
            rw [hadf] at K2
            have K2 := Lib.hid K2
            have t5 : decide ((cntAl T : Int) < (n : Int)) = false := decide_eq_false (by omega)
            have t5' : decide (cntAl T < n) = false := decide_eq_false hfull
            clear hadf hadd hTl
            rcases hcond with t0 | ⟨t0, t1⟩
            all_goals
              go_wp2_with fail
              (with_reducible refine K2.out.mono ?_)
              rintro e w2 hF
              obtain ⟨rfl, u2⟩ := G.out.u.add_ hF
              have N2 := Lib.hid (show GRel w b g mb n T given dead (i + 1) (.slice A9 given.length c9) (.slice A10 dead.length c10) (w2.alloc (.cells P0.cs 38)) from
                ⟨G.out.n.next, u2.only ((Only.refl [] w2).alloc _), (G.out.r.byTable G.out.u.rep kp1' kp2' (hF.2.2.more (by simp))).alloc _, (G.out.d.byTable G.out.u.rep kb1 kb2 (hF.2.2.more (by simp))).alloc _⟩)
              clear hF u2 K2
              go_wp2_with fail
              go_roundw
              case rel => exact ⟨i + 1, T, given, dead, by go_num, by omega, rfl, N2.out⟩
              case measure => simp [intOf]; omega
        · have hx0 : ¬ x < 0 := fun h => hadd (.inl h)
          have hne : given ≠ [] := fun h => hadd (.inr h)
          have hgl : 0 < given.length := List.length_pos_iff.2 hne
          have t0 : decide (x < 0) = false := decide_eq_false hx0
          have t1 : ((given.length : Int) == 0) = false := by simp; omega
          have hm0 := Int.emod_nonneg x (show (given.length : Int) ≠ 0 by omega)
          have hm1 := Int.emod_lt_of_pos x (show (0 : Int) < (given.length : Int) by omega)
          obtain ⟨m, hm⟩ := Int.eq_ofNat_of_zero_le hm0
          have em : x.tmod (given.length : Int) = (m : Int) := by rw [Int.tmod_eq_emod_of_nonneg (by omega)]; exact hm
          have em2 : x % (given.length : Int) = (m : Int) := hm
          have hml : m < given.length := by omega
          have pm : (m : Int) < (given.length : Int) := by omega
          have pm2 : (m : Int) < (dead.length : Int) := by have := HSM.out; omega
          have pm0 : (0 : Int) ≤ (m : Int) := by omega
          obtain ⟨q, hq⟩ := some_at hml
          obtain ⟨b9, rfl⟩ : ∃ b9, A9 = some ⟨b9, 0, none⟩ := by
            obtain ⟨A', c', e', -, -, hr', ha'⟩ := G.out.r.form
            injection e' with e'
            subst e'
            obtain ⟨bl', off', e2, -, -⟩ := hr'.form hgl
            obtain ⟨-, -, e3, -⟩ := ha' bl' off' e2
            subst e3
            exact ⟨bl', e2⟩
          obtain ⟨b10, rfl⟩ : ∃ b10, A10 = some ⟨b10, 0, none⟩ := by
            obtain ⟨A', c', e', -, -, hr', ha'⟩ := G.out.d.form
            injection e' with e'
            subst e'
            obtain ⟨bl', off', e2, -, -⟩ := hr'.form (by have := HSM.out; omega)
            obtain ⟨-, -, e3, -⟩ := ha' bl' off' e2
            subst e3
            exact ⟨bl', e2⟩
          have z0 := G.out.r.at_ hq (j := 0) rfl (q := m * 2) (by show _ = m * 2 + 0; omega)
          have z1 := G.out.r.at_ hq (j := 1) rfl (q := m * 2 + 1) rfl
          have KF := free_any G.out.u.rep q
          have hml2 : m < dead.length := by have := HSM.out; omega
          clear hm hm0 hm1 hne hadd hx0
          rcases G.out.n.free hq with ⟨hd, hfr, hnx⟩ | ⟨hd, her, hnx, hcnt⟩
          · rw [hfr] at KF
            have KF := Lib.hid KF
            have HNX := Lib.hid hnx
            have HD := Lib.hid hd
            clear hfr hnx hd hq
            go_wp2_with fail
            (with_reducible refine KF.out.mono ?_)
            rintro e w2 hF
            obtain ⟨rfl, u2⟩ := G.out.u.free_ hF
            have U2 := Lib.hid u2
            have R2 := Lib.hid (G.out.r.byTable G.out.u.rep kp1' kp2' hF.2.2)
            have D2 := Lib.hid (G.out.d.byTable G.out.u.rep kb1 kb2 hF.2.2)
            have y0 := D2.out.at_ HD.out (j := 0) rfl (q := m) (by show m = m * 1 + 0; omega)
            have yf := D2.out.free_ m
            have nd : Only [b10] w2 (w2.setCell ⟨b10, m, none⟩ (.bool true)) := (Only.refl _ w2).set (.inl (by simp)) _
            have ap := U2.out.rep.beside D2.out kb1 kb2
            have ar := R2.out.beside D2.out kpb
            have N2 := Lib.hid (show GRel w b g mb n T given (dead.set m true) (i + 1) (.slice (some ⟨b9, 0, none⟩) given.length c9) (.slice (some ⟨b10, 0, none⟩) dead.length c10) (w2.setCell ⟨b10, m, none⟩ (.bool true)) from
              ⟨HNX.out, ⟨U2.out.rep.only nd ap.1 ap.2.1 ap.2.2, U2.out.nb, U2.out.ng, U2.out.nm, U2.out.o.trans nd (fun j hj => .inr (by have := (D2.out.own_ge b10 (by simp [Value.ownBlock])).1; simp at hj; omega))⟩, R2.out.only nd ar, D2.out.put (j := 0) true HD.out (.bool true) (by show 0 < 1; omega) rfl (q := m) (by show m = m * 1 + 0; omega)⟩)
            clear hF u2 KF ap ar nd
            go_wp2_with fail
            go_roundw
            case rel => exact ⟨i + 1, T, given, dead.set m true, by go_num, by omega, rfl, N2.out⟩
            case measure => simp [intOf]; omega
          · generalize freeF T q = rr at KF her hnx hcnt
            obtain ⟨T2, er⟩ := rr
            dsimp only at her hnx hcnt
            subst her
            obtain ⟨c, hc⟩ : ∃ c, cntAl T = c := ⟨_, rfl⟩
            rw [hc] at hcnt
            obtain rfl : c = cntAl T2 + 1 := hcnt.symm
            have hcle := cntAl_le T2
            have hTl := hnx.len
            have hcb : cntAl T2 ≤ 256 := by omega
            rw [hc]
            have e0 : (((cntAl T2 + 1 : Nat) : Int) - 1) = ((cntAl T2 : Nat) : Int) := by omega
            have w0 : IntKind.i64.wrap (((cntAl T2 + 1 : Nat) : Int) - 1) = ((cntAl T2 : Nat) : Int) := by rw [e0]; exact IntWalk.i64_in _ (by omega)
            have KF := Lib.hid KF
            have HNX := Lib.hid hnx
            have HD := Lib.hid hd
            clear hnx hd hcnt hc hq hTl hcle
            go_wp2_with fail
            (with_reducible refine KF.out.mono ?_)
            rintro e w2 hF
            obtain ⟨rfl, u2⟩ := G.out.u.free_ hF
            have U2 := Lib.hid u2
            have R2 := Lib.hid (G.out.r.byTable G.out.u.rep kp1' kp2' hF.2.2)
            have D2 := Lib.hid (G.out.d.byTable G.out.u.rep kb1 kb2 hF.2.2)
            have y0 := D2.out.at_ HD.out (j := 0) rfl (q := m) (by show m = m * 1 + 0; omega)
            have yf := D2.out.free_ m
            have nd : Only [b10] w2 (w2.setCell ⟨b10, m, none⟩ (.bool true)) := (Only.refl _ w2).set (.inl (by simp)) _
            have ap := U2.out.rep.beside D2.out kb1 kb2
            have ar := R2.out.beside D2.out kpb
            have N2 := Lib.hid (show GRel w b g mb n T2 given (dead.set m true) (i + 1) (.slice (some ⟨b9, 0, none⟩) given.length c9) (.slice (some ⟨b10, 0, none⟩) dead.length c10) (w2.setCell ⟨b10, m, none⟩ (.bool true)) from
              ⟨HNX.out, ⟨U2.out.rep.only nd ap.1 ap.2.1 ap.2.2, U2.out.nb, U2.out.ng, U2.out.nm, U2.out.o.trans nd (fun j hj => .inr (by have := (D2.out.own_ge b10 (by simp [Value.ownBlock])).1; simp at hj; omega))⟩, R2.out.only nd ar, D2.out.put (j := 0) true HD.out (.bool true) (by show 0 < 1; omega) rfl (q := m) (by show m = m * 1 + 0; omega)⟩)
            clear hF u2 KF ap ar nd
            go_wp2_with fail
            go_roundw
            case rel => exact ⟨i + 1, T2, given, dead.set m true, by go_num, by omega, by first | rfl | rw [e0], N2.out⟩
            case measure => simp [intOf]; omega
      · clear hg
        go_wp2_with fail
        go_loopw [18] (fun kv wq => ∃ k : Nat, kv = .int .i64 k ∧ k ≤ given.length ∧ Only [] wr wq) (fun kv _ => given.length - (intOf kv).toNat)
        case atStart => exact ⟨0, rfl, Nat.zero_le _, Only.refl _ _⟩
        case round =>
          obtain ⟨k, rfl, hk, ho⟩ := hrel
          have HO := Lib.hid ho
          have GK := Lib.hid (G.out.only ho)
          by_cases hk2 : k < given.length
          · obtain ⟨q, hq⟩ := some_at hk2
            obtain ⟨d, hd⟩ := some_at (show k < dead.length by have := HSM.out; omega)
            obtain ⟨b9, rfl⟩ : ∃ b9, A9 = some ⟨b9, 0, none⟩ := by
              obtain ⟨A', c', e', -, -, hr', ha'⟩ := G.out.r.form
              injection e' with e'
              subst e'
              obtain ⟨bl', off', e2, -, -⟩ := hr'.form (by omega)
              obtain ⟨-, -, e3, -⟩ := ha' bl' off' e2
              subst e3
              exact ⟨bl', e2⟩
            obtain ⟨b10, rfl⟩ : ∃ b10, A10 = some ⟨b10, 0, none⟩ := by
              obtain ⟨A', c', e', -, -, hr', ha'⟩ := G.out.d.form
              injection e' with e'
              subst e'
              obtain ⟨bl', off', e2, -, -⟩ := hr'.form (by have := HSM.out; omega)
              obtain ⟨-, -, e3, -⟩ := ha' bl' off' e2
              subst e3
              exact ⟨bl', e2⟩
            have z0 : ∀ x : Cm wr, x.1.cell? ⟨b9, k * 2, none⟩ = some (.int .i64 q.n) := Cm.cell (GK.out.r.at_ hq (j := 0) rfl (q := k * 2) (by show _ = k * 2 + 0; omega))
            have z1 : ∀ x : Cm wr, x.1.cell? ⟨b9, k * 2 + 1, none⟩ = some (.int .i64 q.g) := Cm.cell (GK.out.r.at_ hq (j := 1) rfl (q := k * 2 + 1) rfl)
            have y0 : ∀ x : Cm wr, x.1.cell? ⟨b10, k, none⟩ = some (.bool d) := Cm.cell (GK.out.d.at_ hd (j := 0) rfl (q := k) (by show k = k * 1 + 0; omega))
            have KI : Hid (∀ x : Cm wr, Calls Try.prog 21 #[ptA b, .agg q.cs] x.1 fun e w' => e = .returned (.bool (!d)) ∧ Only [] x.1 w') := Lib.hid (fun x => by
              have := is_any (GK.out.only x.o).u.rep q
              rwa [G.out.n.is k q d hq hd] at this)
            have pk : (k : Int) < (given.length : Int) := by omega
            have pk2 : (k : Int) < (dead.length : Int) := by have := HSM.out; omega
            clear hq hd ho
            cases d with
            | true =>
              simp only [Bool.not_true] at KI
              go_wp2_with fail
              refine wp_region_calm (by kernel_rfl) (by kernel_rfl) ?_
              repeat (go_big_quiet_step ((go_at_call 21; exact calmS (KI.out _))))
              refine wpQuiet_nil ?_
              rintro w5 ⟨⟨w5', o5⟩, e5⟩
              obtain rfl : w5 = w5' := e5
              have O5 := Lib.hid (HO.out.trans o5 (by simp))
              clear z0 z1 y0 o5 KI
              go_wp2_with fail
              go_roundw
              case rel => exact ⟨k + 1, by go_num, by omega, O5.out⟩
              case measure => simp [intOf]; omega
            | false =>
              simp only [Bool.not_false] at KI
              go_wp2_with fail
              refine wp_region_calm (by kernel_rfl) (by kernel_rfl) ?_
              repeat (go_big_quiet_step ((go_at_call 21; exact calmS (KI.out _))))
              refine wpQuiet_nil ?_
              rintro w5 ⟨⟨w5', o5⟩, e5⟩
              obtain rfl : w5 = w5' := e5
              have O5 := Lib.hid (HO.out.trans o5 (by simp))
              clear z0 z1 y0 o5 KI
              go_wp2_with fail
              go_roundw
              case rel => exact ⟨k + 1, by go_num, by omega, O5.out⟩
              case measure => simp [intOf]; omega
          · have ek : k = given.length := by omega
            subst ek
            have KL2 := Lib.hid (live_any GK.out.u.rep)
            have CN := Lib.hid (pidsG_cnt T 0)
            clear ho
            go_wp2_with fail
            (with_reducible refine KL2.out.mono ?_)
            rintro e w5 ⟨v5, rfl, hv5, o5⟩
            obtain ⟨A5, c5, e5, -, -, -, -⟩ := hv5.form
            subst e5
            have KA := Lib.hid (awake_any w5)
            have O5 := Lib.hid (GK.out.u.o.trans o5 (by simp))
            have te : (((pidsG 0 T).length : Int) == (cntAl T : Int)) = true := by rw [CN.out]; exact beq_self_eq_true _
            clear hv5 o5
            go_wp2_with fail
            (with_reducible refine KA.out.mono ?_)
            rintro e w6 ⟨rfl, o6⟩
            go_wp2_with fail
            go_ret
            exact ⟨rfl, O5.out.trans o6 (by simp)⟩
  · have K1 := Lib.hid (new_no room w hroom)
    have K2 := Lib.hid (rnew_no room w hroom)
    clear hroom
    go_enter Try.func5, Try.ntmps5
    go_wp2_with fail
    (with_reducible refine K1.out.mono ?_)
    rintro e w1 ⟨rfl, rfl⟩
    go_wp2_with fail
    (with_reducible refine K2.out.mono ?_)
    rintro e w2 ⟨rfl, o2⟩
    have K3 := Lib.hid (awake_any (w2.alloc (.cells rt0 30)))
    have O2 := Lib.hid (o2.alloc (.cells rt0 30))
    clear o2
    go_wp2_with fail
    (with_reducible refine K3.out.mono ?_)
    rintro e w3 ⟨rfl, o3⟩
    go_wp2_with fail
    go_ret
    exact ⟨rfl, O2.out.trans o3 (by simp)⟩
end Go.Proofs.Ytlidnlcmnkagaaa
