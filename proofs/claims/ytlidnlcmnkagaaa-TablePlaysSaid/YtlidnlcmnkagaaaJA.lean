/- Load of the program's table. -/
import Derived.Test.YtlidnlcmnkagaaaJ9
namespace Go.Proofs.Ytlidnlcmnkagaaa
open Go.RowKit
set_option maxRecDepth 20000

theorem RdI.at1 {w : World} {A : Option Addr} {xs : List Int} (h : RdS KI w A xs) (h0 : 0 < xs.length) : ∃ bl off, A = some ⟨bl, off, none⟩ ∧ bl < w.heap.size ∧ ∀ (i : Nat) (x : Int), xs[i]? = some x → w.cell? ⟨bl, off + i, none⟩ = some (.int .i64 x) := by
  obtain ⟨bl, off, e, hb, hc⟩ := h.form h0
  refine ⟨bl, off, e, hb, fun i x hx => ?_⟩
  have := hc i x hx 0 _ rfl
  rwa [Nat.add_zero, show KI.k = 1 from rfl, Nat.mul_one] at this
theorem RdN.at1 {w : World} {A : Option Addr} {xs : List ByteArray} (h : RdS KS w A xs) (h0 : 0 < xs.length) : ∃ bl off, A = some ⟨bl, off, none⟩ ∧ bl < w.heap.size ∧ ∀ (i : Nat) (x : ByteArray), xs[i]? = some x → w.cell? ⟨bl, off + i, none⟩ = some (.string x) := by
  obtain ⟨bl, off, e, hb, hc⟩ := h.form h0
  refine ⟨bl, off, e, hb, fun i x hx => ?_⟩
  have := hc i x hx 0 _ rfl
  rwa [Nat.add_zero, show KS.k = 1 from rfl, Nat.mul_one] at this
theorem RdS.only0 {α : Type} {K : Sk α} {w w' : World} {A : Option Addr} {xs : List α} (h : RdS K w A xs) (o : Only [] w w') : RdS K w' A xs := h.only o (by simp)
def LRel1 (w : World) (gens : List Int) (b g mb cap : Nat) (k : Nat) (wr : World) : Prop := k ≤ gens.length ∧ (∀ x ∈ gens.take k, okGen x = true) ∧ Und w b g mb cap (mixT gens k) wr
theorem loadE_no {w w' : World} {r : Option (List Pl)} {e : Ending} (h : r = none) (he : e = .returned (.tuple #[.pointer none, .int .i64 1])) (o : Only [] w w') : LoadE w r e w' := by
  subst h
  exact ⟨he, o⟩
theorem loadE_yes {w w' : World} {r : Option (List Pl)} {e : Ending} {T : List Pl} {b g mb cap : Nat} (h : r = some T) (he : e = .returned (.tuple #[ptA b, .int .i64 0])) (u : Und w b g mb cap T w') : LoadE w r e w' := by
  subst h
  exact ⟨b, he, g, mb, cap, u.rep, ⟨u.nb, u.ng, u.nm⟩, u.o⟩
theorem zip_drop {live : List Pd} {names : List ByteArray} {k : Nat} {p : Pd} {s : ByteArray} (hp : live[k]? = some p) (hs : names[k]? = some s) : (live.zip names).drop k = (p, s) :: (live.zip names).drop (k + 1) := by
  have h1 := (List.getElem?_eq_some_iff.1 hp).1
  have h2 := (List.getElem?_eq_some_iff.1 hs).1
  rw [List.drop_eq_getElem_cons (by rw [List.length_zip]; omega)]
  congr 1
  have e1 := (List.getElem?_eq_some_iff.1 hp).2
  have e2 := (List.getElem?_eq_some_iff.1 hs).2
  rw [List.getElem_zip, e1, e2]
set_option maxHeartbeats 16000000 in
theorem load_any {w : World} {A B C : Option Addr} {gens : List Int} {live : List Pd} {names : List ByteArray} (ca cb cc : Nat) (hA : RdS KI w A gens) (hB : RdS KP w B live) (hC : RdS KS w C names)
    (la : gens.length ≤ 17592186044416) (lb : live.length ≤ 17592186044416) (lc : names.length ≤ 17592186044416) (hsz : ∀ s ∈ names, s.size ≤ 140737488351232) :
    Calls Try.prog 11 #[.slice A gens.length ca, .slice B live.length cb, .slice C names.length cc] w (LoadE w (loadF gens live names)) := by
  have HA := Lib.hid hA
  have HB := Lib.hid hB
  have HC := Lib.hid hC
  have HSZ := Lib.hid hsz
  clear hA hB hC hsz
  by_cases hl : 1 ≤ gens.length ∧ gens.length ≤ 256
  · have KN := Lib.hid (new_yes gens.length w hl.1 hl.2)
    by_cases hnl : names.length = live.length
    · have HNL := Lib.hid hnl
      have q0 : ((names.length : Int) != (live.length : Int)) = false := by simp [hnl]
      have HLF := Lib.hid (show loadF gens live names = if gens.all okGen = true then loadGo gens (live.zip names) (-1) (genT gens) else none by
        unfold loadF
        by_cases ha : gens.all okGen = true
        · rw [if_pos ⟨hl, hnl, ha⟩, if_pos ha]
        · rw [if_neg (fun h => ha h.2.2), if_neg ha])
      clear hnl
      go_enter Try.func11, Try.ntmps11
      go_wp2_with fail
      (with_reducible refine KN.out.mono ?_)
      rintro e w1 ⟨b, g, mb, rfl, hr, ⟨n1, n2, n3⟩, o1⟩
      have U1 := Lib.hid (show Und w b g mb gens.length (mixT gens 0) w1 from ⟨by rw [mix_zero]; exact hr, n1, n2, n3, o1⟩)
      clear hr n1 n2 n3 o1 KN
      go_wp2_with fail
      go_loopw [10, 11, 32] (fun _ _ kv wr => ∃ k : Nat, kv = .int .i64 k ∧ LRel1 w gens b g mb gens.length k wr) (fun _ _ kv _ => gens.length - (intOf kv).toNat)
      case atStart => exact ⟨0, rfl, Nat.zero_le _, by simp, U1.out⟩
      case round =>
        clear U1
        obtain ⟨k, rfl, hk, hall, u⟩ := hrel
        have U := Lib.hid u
        have HALL := Lib.hid hall
        by_cases hlt : k < gens.length
        · obtain ⟨bl, off, rfl, hb, hc⟩ := RdI.at1 (HA.out.only0 u.o) (by omega)
          obtain ⟨x, hx⟩ := some_at hlt
          have x0 := hc k x hx
          have d1 := u.rep.blk.cell0 (i := 1) rfl
          have hml : (mixT gens k).length = gens.length := by simp [zeroT]; omega
          rw [show (tabC b g mb (mixT gens k).length gens.length)[1] = .slice (some ⟨g, 0, none⟩) (mixT gens k).length gens.length from rfl, hml] at d1
          have hz := mix_at hlt
          have y0 := u.rep.row.at_ hz (j := 0) rfl (q := k * 3) (by show _ = k * 3 + 0; omega)
          have yf := u.rep.row.free_ (k * 3)
          have HX := Lib.hid hx
          have HZ := Lib.hid hz
          clear hc hb hx hz u hall hml
          by_cases hg : okGen x = true
          · have hg2 := hg
            simp only [okGen, Bool.and_eq_true, decide_eq_true_eq] at hg2
            have t0 : decide (x < 0) = false := decide_eq_false (by omega)
            have t1 : decide (4611686018427387903 < x) = false := decide_eq_false (by have h9 : x ≤ 4611686018427387903 := hg2.2; omega)
            have N := Lib.hid (show LRel1 w gens b g mb gens.length (k + 1) (wr.setCell ⟨g, k * 3, none⟩ (.int .i64 x)) from by
              have hall2 : ∀ y ∈ gens.take (k + 1), okGen y = true := fun y hy => by
                rw [List.take_add_one, HX.out] at hy
                rcases List.mem_append.1 hy with hy | hy
                · exact HALL.out y hy
                · simp at hy; rw [hy]; exact hg
              refine ⟨hlt, hall2, ?_⟩
              have h2 := U.out.put (k := k) (j := 0) ⟨x, false, E0b⟩ HZ.out (.int .i64 x) (by omega) rfl (q := k * 3) (by omega) (by rw [mix_set HX.out]; exact mix_ok hl hlt hall2) (fun s => by rw [mix_set HX.out, mix_where, mix_where])
              rwa [mix_set HX.out] at h2)
            have p1 : (k : Int) < (gens.length : Int) := by omega
            clear hg hg2
            go_wp2_with fail
            go_roundw
            case rel => exact ⟨k + 1, by go_num, N.out⟩
            case measure => simp [intOf]; omega
          · have hnall : ¬ gens.all okGen = true := fun h => hg (List.all_eq_true.1 h x (List.mem_of_getElem? HX.out))
            have EN := Lib.hid (show loadF gens live names = none by rw [HLF.out, if_neg hnall])
            have O := Lib.hid U.out.o
            have hg2 : ¬ (0 ≤ x ∧ x ≤ MX) := fun h => hg (by simp only [okGen, Bool.and_eq_true, decide_eq_true_eq]; exact h)
            clear hnall hg
            by_cases hx0 : x < 0
            · have t0 : decide (x < 0) = true := decide_eq_true hx0
              clear hg2
              go_wp2_with fail
              go_ret2
              exact loadE_no EN.out rfl O.out
            · have t0 : decide (x < 0) = false := decide_eq_false hx0
              have t1 : decide (4611686018427387903 < x) = true := decide_eq_true (by
                have h9 : ¬ x ≤ 4611686018427387903 := fun h => hg2 ⟨by omega, h⟩
                omega)
              clear hg2
              go_wp2_with fail
              go_ret2
              exact loadE_no EN.out rfl O.out
        · have ek : k = gens.length := by omega
          subst ek
          have hall' : gens.all okGen = true := List.all_eq_true.2 (by have := hall; rwa [List.take_length] at this)
          have EQ := Lib.hid (show loadF gens live names = loadGo gens ((live.zip names).drop 0) (-1) (genT gens) by rw [HLF.out, if_pos hall']; rfl)
          have LI := Lib.hid (LInv.start hl hall')
          have U2 := Lib.hid (show Und w b g mb gens.length (genT gens) wr by have := u; rwa [mix_full] at this)
          clear u hall hall' U HALL HLF
          go_wp2_with fail
          go_loopw [12, 13, 14, 54] (fun av _ _ kv wr => ∃ (k : Nat) (T : List Pl) (ahead : Int), kv = .int .i64 k ∧ k ≤ live.length ∧ av = .int .i64 ahead ∧ loadF gens live names = loadGo gens ((live.zip names).drop k) ahead T ∧ LInv gens ahead T ∧ Und w b g mb gens.length T wr) (fun _ _ _ kv _ => live.length - (intOf kv).toNat)
          case atStart => exact ⟨0, _, _, rfl, Nat.zero_le _, rfl, EQ.out, LI.out, U2.out⟩
          case round =>
            clear EQ LI U2
            obtain ⟨k, T, ahead, rfl, hk, rfl, heq, hli, hu⟩ := hrel
            have EQ := Lib.hid heq
            have LI := Lib.hid hli
            have U := Lib.hid hu
            clear heq hli hu
            by_cases hlt : k < live.length
            · obtain ⟨bP, oP, rfl, -, hcP⟩ := RdP.at2 (HB.out.only0 U.out.o) (by omega)
              obtain ⟨bN, oN, rfl, hbN, hcN⟩ := RdN.at1 (HC.out) (by have := HNL.out; omega)
              obtain ⟨p, hp⟩ := some_at hlt
              obtain ⟨s, hs⟩ := some_at (show k < names.length by have := HNL.out; omega)
              obtain ⟨p0, p1⟩ := hcP k p hp
              have SN := Lib.hid (hcN k s hs)
              have HS := Lib.hid (HSZ.out s (List.mem_of_getElem? hs))
              have ED := Lib.hid (zip_drop hp hs)
              have bk := (Bk.made wr 38 p.cs).pid
              obtain ⟨k0, k1⟩ := bk
              have pl : (k : Int) < (names.length : Int) := by have := HNL.out; omega
              have pk : (k : Int) < (live.length : Int) := by omega
              have O : Hid (∀ n, Only [] w ((wr.alloc (.cells p.cs 38)).drewN n)) := Lib.hid (fun n => (U.out.o.alloc _).drewN n)
              have HSt := Lib.hid (fun q => show loadS gens ahead T p s = q → loadF gens live names = (match q with | some T' => loadGo gens ((live.zip names).drop (k + 1)) p.n T' | none => none) from fun e => by
                rw [EQ.out, ED.out, ← e]
                rfl)
              obtain ⟨pn, pg⟩ := p
              dsimp only at p0 p1 k0 k1
              clear hcP hcN hp hs
              by_cases h1 : pn ≤ ahead
              · have EN := Lib.hid (show loadF gens live names = none from HSt.out none (loadS_no s (.inl h1)))
                have t1 : decide (pn ≤ ahead) = true := decide_eq_true h1
                clear h1 HSt
                go_wp2_with fail
                go_quiet (fail)
                go_wp2
                go_ret2
                exact loadE_no EN.out rfl (O.out _)
              · have t1 : decide (pn ≤ ahead) = false := decide_eq_false h1
                by_cases h2 : (gens.length : Int) ≤ pn
                · have EN := Lib.hid (show loadF gens live names = none from HSt.out none (loadS_no s (.inr (.inl h2))))
                  have t2 : decide ((gens.length : Int) ≤ pn) = true := decide_eq_true h2
                  clear h2 h1 HSt
                  go_wp2_with fail
                  go_quiet (fail)
                  go_wp2
                  go_ret2
                  exact loadE_no EN.out rfl (O.out _)
                · have t2 : decide ((gens.length : Int) ≤ pn) = false := decide_eq_false h2
                  by_cases h3 : pg < 1
                  · have EN := Lib.hid (show loadF gens live names = none from HSt.out none (loadS_no s (.inr (.inr (.inl h3)))))
                    have t3 : decide (pg < 1) = true := decide_eq_true h3
                    clear h3 h2 h1 HSt
                    go_wp2_with fail
                    go_quiet (fail)
                    go_wp2
                    go_ret2
                    exact loadE_no EN.out rfl (O.out _)
                  · have t3 : decide (pg < 1) = false := decide_eq_false h3
                    obtain ⟨kk, rfl⟩ := Int.eq_ofNat_of_zero_le (show 0 ≤ pn by have := LI.out.low; omega)
                    obtain ⟨bG, oG, rfl, hbG, hcG⟩ := RdI.at1 (HA.out) (by omega)
                    obtain ⟨y, hy⟩ := some_at (show kk < gens.length by omega)
                    have y0 := ((U.out.o.alloc (.cells #[.int .i64 (kk : Int), .int .i64 pg] 38)).cell (p := ⟨bG, oG + kk, none⟩) hbG (by simp)).trans (hcG kk y hy)
                    have pkk : (kk : Int) < (gens.length : Int) := by omega
                    have t2' : decide (gens.length ≤ kk) = false := decide_eq_false (by omega)
                    clear hcG
                    have ee : gens[((kk : Nat) : Int).toNat]? = gens[kk]? := by rw [Int.toNat_natCast]
                    by_cases h4 : pg = y
                    · have t4 : (pg != y) = false := by simp [h4]
                      have hc : ¬ ((kk : Int) ≤ ahead ∨ (gens.length : Int) ≤ (kk : Int) ∨ pg < 1 ∨ gens[((kk : Nat) : Int).toNat]? ≠ some pg) := by
                        rintro (h | h | h | h)
                        · exact h1 h
                        · exact h2 h
                        · exact h3 h
                        · exact h (by rw [ee, hy, h4])
                      obtain ⟨k2, e2, hx, hg1, hgk, hah⟩ := LI.out.place (p := ⟨(kk : Int), pg⟩) hc
                      obtain rfl : kk = k2 := by simp only at e2; omega
                      have AL := Lib.hid (LI.out.alive hx hg1 hgk hah)
                      have HC2 := Lib.hid hc
                      have HX := Lib.hid hx
                      have nb1 : bN ≠ g := by have := U.out.ng; omega
                      have nb2 : wr.heap.size ≠ g := by have := U.out.rep.glt; omega
                      have nb3 : b ≠ g := fun e => U.out.rep.gb e.symm
                      have d1 := (U.out.rep.blk.alloc (.cells #[.int .i64 (kk : Int), .int .i64 pg] 38)).cell0 (i := 1) rfl
                      rw [show (tabC b g mb T.length gens.length)[1] = .slice (some ⟨g, 0, none⟩) T.length gens.length from rfl, LI.out.len] at d1
                      have y1 := (OwnS.alloc U.out.rep.row (.cells #[.int .i64 (kk : Int), .int .i64 pg] 38)).at_ hx (j := 1) rfl (q := kk * 3 + 1) rfl
                      have yf := (OwnS.alloc U.out.rep.row (.cells #[.int .i64 (kk : Int), .int .i64 pg] 38)).free_
                      have s1 := ((U.out.o.alloc (.cells #[.int .i64 (kk : Int), .int .i64 pg] 38)).cell (p := ⟨bN, oN + k, none⟩) hbN (by simp)).trans SN.out
                      have U3 : Hid (∀ n, Und w b g mb gens.length (T.set kk ⟨pg, true, E0b⟩) (((wr.alloc (.cells #[.int .i64 (kk : Int), .int .i64 pg] 38)).drewN n).setCell ⟨g, kk * 3 + 1, none⟩ (.bool true))) := Lib.hid (fun n =>
                        (U.out.only (((Only.refl [] wr).alloc _).drewN n)).put (k := kk) (j := 1) ⟨pg, true, E0b⟩ hx (.bool true) (by omega) rfl rfl AL.out.1.ok AL.out.2)
                      clear h4 h3 h2 h1 hy ee hc hx hg1 hgk hah
                      go_wp2_with fail
                      go_quiet (fail)
                      go_wp2
                      refine wp_region_quiet_then 8 (by kernel_rfl) (by kernel_rfl) ?_
                      simp only [List.take_succ_cons, List.take_zero, List.drop_succ_cons, List.drop_zero]
                      repeat (go_big_quiet_step (fail))
                      refine wpQuiet_nil ?_
                      intro q
                      go_wp2_with fail
                      have K3 : Hid (Bk (((wr.alloc (.cells #[.int .i64 (kk : Int), .int .i64 pg] 38)).drewN (nq + q)).setCell ⟨g, kk * 3 + 1, none⟩ (.bool true)) wr.heap.size 38 (⟨(kk : Int), pg⟩ : Pd).cs) := Lib.hid (((Bk.made wr 38 (⟨(kk : Int), pg⟩ : Pd).cs).drewN (nq + q)).away (p := ⟨g, kk * 3 + 1, none⟩) nb2 (.bool true))
                      have U4 := Lib.hid (U3.out (nq + q))
                      generalize hW3 : World.setCell _ _ _ = W3 at U4 K3 ⊢
                      have HW3 := Lib.hid hW3
                      clear hW3 k0 k1 y0 d1 y1 yf s1 U3 t1 t2 t2' t3 t4
                      obtain ⟨z0, z1⟩ := K3.out.pid
                      have s3 := (U4.out.o.cell (p := ⟨bN, oN + k, none⟩) hbN (by simp)).trans SN.out
                      cases hse : s.toList.isEmpty with
                      | true =>
                        have e0 := E0b_list hse
                        have NX := Lib.hid (show loadF gens live names = loadGo gens ((live.zip names).drop (k + 1)) (kk : Int) (T.set kk ⟨pg, true, E0b⟩) from by
                          have := HSt.out (some (T.set kk ⟨pg, true, E0b⟩)) (by rw [e0, loadS_plain HC2.out]; simp)
                          exact this)
                        clear e0 HSt
                        go_quiet (fail)
                        go_wp2
                        go_roundw
                        case rel => exact ⟨k + 1, _, _, by go_num, by omega, rfl, NX.out, AL.out.1, U4.out.only ((Only.refl [] _).drewN _)⟩
                        case measure => simp [intOf]; omega
                      | false =>
                        have hse2 := E0b_ne hse
                        have NM := loadS_name (gens := gens) (ahead := ahead) (p := ⟨(kk : Int), pg⟩) (k := kk) rfl hse2 HC2.out HX.out AL.out.2
                        have KN := Lib.hid (fun q2 => name_any (U4.out.only ((Only.refl [] _).drewN q2)).rep ⟨(kk : Int), pg⟩ s HS.out)
                        rcases NM with ⟨hne, hno⟩ | ⟨hyes, hst, hat, hwn⟩
                        · have EN := Lib.hid (show loadF gens live names = none from HSt.out none hno)
                          have te : ((nameF (T.set kk ⟨pg, true, E0b⟩) ⟨(kk : Int), pg⟩ s).2 != 0) = true := by simpa using hne
                          clear hne hno hse2 HSt
                          refine wp_region_quiet_then 12 (by kernel_rfl) (by kernel_rfl) ?_
                          simp only [List.take_succ_cons, List.take_zero, List.drop_succ_cons, List.drop_zero]
                          repeat (go_big_quiet_step (fail))
                          refine wpQuiet_nil ?_
                          intro q2
                          go_wp2_with fail
                          (with_reducible refine (KN.out q2).mono ?_)
                          rintro e w4 hF
                          obtain ⟨rfl, hu4⟩ := (U4.out.only ((Only.refl [] _).drewN q2)).free_ hF
                          have O4 := Lib.hid hu4.o
                          clear hF hu4
                          generalize (nameF (T.set kk ⟨pg, true, E0b⟩) ⟨(kk : Int), pg⟩ s).2 = er at *
                          go_wp2_with fail
                          go_ret2
                          exact loadE_no EN.out rfl O4.out
                        · have NX := Lib.hid (show loadF gens live names = loadGo gens ((live.zip names).drop (k + 1)) (kk : Int) (T.set kk ⟨pg, true, s⟩) from HSt.out (some (T.set kk ⟨pg, true, s⟩)) hst)
                          have hlk := (List.getElem?_eq_some_iff.1 HX.out).1
                          have L5 := Lib.hid (show LInv gens kk (T.set kk ⟨pg, true, s⟩) from by
                            have := AL.out.1.named (g := pg) (s := s) (by rw [List.getElem?_set_self hlk]) hat (by rw [AL.out.2]; exact hwn)
                            rwa [List.set_set] at this)
                          rw [hyes] at KN
                          clear hyes hst hat hwn hse2 HSt
                          refine wp_region_quiet_then 12 (by kernel_rfl) (by kernel_rfl) ?_
                          simp only [List.take_succ_cons, List.take_zero, List.drop_succ_cons, List.drop_zero]
                          repeat (go_big_quiet_step (fail))
                          refine wpQuiet_nil ?_
                          intro q2
                          go_wp2_with fail
                          (with_reducible refine (KN.out q2).mono ?_)
                          rintro e w4 hF
                          obtain ⟨rfl, hu4⟩ := (U4.out.only ((Only.refl [] _).drewN q2)).free_ hF
                          have U5 := Lib.hid hu4
                          have k4 := (K3.out.drewN q2)
                          have k5 := k4.only hF.2.2 (by have h1 := U.out.rep.glt; have h2 := U.out.rep.map.lt; simp; omega)
                          clear hF hu4
                          obtain ⟨x0, x1⟩ := k5.pid
                          clear k4 k5
                          go_wp2_with fail
                          go_roundw
                          case rel => exact ⟨k + 1, _, _, by go_num, by omega, rfl, NX.out, L5.out, U5.out⟩
                          case measure => simp [intOf]; omega
                    · have t4 : (pg != y) = true := by simp [h4]
                      have EN := Lib.hid (show loadF gens live names = none from HSt.out none (loadS_no s (.inr (.inr (.inr (by rw [ee, hy]; intro h; injection h with h; exact h4 h.symm))))))
                      clear h4 h3 h2 h1 HSt hy ee
                      go_wp2_with fail
                      go_quiet (fail)
                      go_wp2
                      go_ret2
                      exact loadE_no EN.out rfl (O.out _)
            · have ek : k = live.length := by omega
              subst ek
              have ER := Lib.hid (show loadF gens live names = some T by
                rw [EQ.out, List.drop_of_length_le (by rw [List.length_zip]; exact Nat.min_le_left _ _)]
                rfl)
              go_wp2_with fail
              go_ret2
              exact loadE_yes ER.out rfl U.out
    · have EN := Lib.hid (show loadF gens live names = none by unfold loadF; rw [if_neg (fun h => hnl h.2.1)])
      have q0 : ((names.length : Int) != (live.length : Int)) = true := by simp; omega
      clear hnl
      go_enter Try.func11, Try.ntmps11
      go_wp2_with fail
      (with_reducible refine KN.out.mono ?_)
      rintro e w1 ⟨b, g, mb, rfl, hr, -, o1⟩
      go_wp2_with fail
      go_ret2
      exact loadE_no EN.out rfl o1
  · have KN := Lib.hid (new_no (gens.length : Int) w (by omega))
    have EN := Lib.hid (show loadF gens live names = none by unfold loadF; rw [if_neg (fun h => hl h.1)])
    have O := Lib.hid (Only.refl [] w)
    clear hl
    go_enter Try.func11, Try.ntmps11
    go_wp2_with fail
    (with_reducible refine KN.out.mono ?_)
    rintro e w1 ⟨rfl, rfl⟩
    go_wp2_with fail
    go_ret2
    exact loadE_no EN.out rfl O.out
end Go.Proofs.Ytlidnlcmnkagaaa
