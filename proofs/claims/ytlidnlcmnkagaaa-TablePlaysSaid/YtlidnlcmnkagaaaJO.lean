/- The document's table: Load. -/
import Derived.Test.YtlidnlcmnkagaaaJN
import Derived.Test.YtlidnlcmnkagaaaJA
import Derived.Test.YtlidnlcmnkagaaaCm
namespace Go.Proofs.Ytlidnlcmnkagaaa
open Go.RowKit
set_option maxRecDepth 20000

/-- The document's table under way: all its memory is new. -/
structure RUnd (w : World) (b n g1 g2 g3 c1 c2 c3 : Nat) (T : List Pl) (wr : World) : Prop where
  len : T.length = n
  h : OwnS KI wr w.heap.size (.slice (some ⟨g1, 0, none⟩) n c1) (hads T)
  a : OwnS KB wr w.heap.size (.slice (some ⟨g2, 0, none⟩) n c2) (als T)
  m : OwnS KS wr w.heap.size (.slice (some ⟨g3, 0, none⟩) n c3) (nms T)
  bk : Bk wr b 30 (rtC n (.slice (some ⟨g1, 0, none⟩) n c1) (.slice (some ⟨g2, 0, none⟩) n c2) (.slice (some ⟨g3, 0, none⟩) n c3))
  r6 : Bk wr w.heap.size 30 rt0
  r8 : Bk wr (w.heap.size + 1) 30 rt0
  nb : w.heap.size + 1 < b
  o : Only [] w wr
theorem RUnd.only {w wr w' : World} {b n g1 g2 g3 c1 c2 c3 : Nat} {T : List Pl} (u : RUnd w b n g1 g2 g3 c1 c2 c3 T wr) (o : Only [] wr w') : RUnd w b n g1 g2 g3 c1 c2 c3 T w' :=
  ⟨u.len, u.h.only o (by simp), u.a.only o (by simp), u.m.only o (by simp), u.bk.only o (by simp), u.r6.only o (by simp), u.r8.only o (by simp), u.nb, u.o.trans o (by simp)⟩
theorem RUnd.putH {w wr : World} {b n g1 g2 g3 c1 c2 c3 k : Nat} {T : List Pl} {x : Pl} (u : RUnd w b n g1 g2 g3 c1 c2 c3 T wr) (hx : T[k]? = some x) (y : Int) : RUnd w b n g1 g2 g3 c1 c2 c3 (T.set k ⟨y, x.al, x.nm⟩) (wr.setCell ⟨g1, k, none⟩ (.int .i64 y)) where
  len := by rw [List.length_set]; exact u.len
  h := by
    have := u.h.put (j := 0) y (had_at hx) (.int .i64 y) (by show 0 < 1; omega) rfl (q := k) (by show k = k * 1 + 0; omega)
    simpa [hads, List.map_set] using this
  a := by
    have := u.a.setRow u.h (fun e => kib e.symm) k (.int .i64 y)
    rw [← set_same (al_at hx)] at this
    simpa [als, List.map_set] using this
  m := by
    have := u.m.setRow u.h (fun e => kis e.symm) k (.int .i64 y)
    rw [← set_same (nm_at hx)] at this
    simpa [nms, List.map_set] using this
  bk := u.bk.byRow u.h ki3 k _
  r6 := u.r6.byRow u.h ki3 k _
  r8 := u.r8.byRow u.h ki3 k _
  nb := u.nb
  o := Only.set u.o (p := ⟨g1, k, none⟩) (.inr (u.h.block rfl).1) _
theorem RUnd.putA {w wr : World} {b n g1 g2 g3 c1 c2 c3 k : Nat} {T : List Pl} {x : Pl} (u : RUnd w b n g1 g2 g3 c1 c2 c3 T wr) (hx : T[k]? = some x) (y : Bool) : RUnd w b n g1 g2 g3 c1 c2 c3 (T.set k ⟨x.had, y, x.nm⟩) (wr.setCell ⟨g2, k, none⟩ (.bool y)) where
  len := by rw [List.length_set]; exact u.len
  h := by
    have := u.h.setRow u.a kib k (.bool y)
    rw [← set_same (had_at hx)] at this
    simpa [hads, List.map_set] using this
  a := by
    have := u.a.put (j := 0) y (al_at hx) (.bool y) (by show 0 < 1; omega) rfl (q := k) (by show k = k * 1 + 0; omega)
    simpa [als, List.map_set] using this
  m := by
    have := u.m.setRow u.a (fun e => kbs e.symm) k (.bool y)
    rw [← set_same (nm_at hx)] at this
    simpa [nms, List.map_set] using this
  bk := u.bk.byRow u.a kb3 k _
  r6 := u.r6.byRow u.a kb3 k _
  r8 := u.r8.byRow u.a kb3 k _
  nb := u.nb
  o := Only.set u.o (p := ⟨g2, k, none⟩) (.inr (u.a.block rfl).1) _
theorem RUnd.putM {w wr : World} {b n g1 g2 g3 c1 c2 c3 k : Nat} {T : List Pl} {x : Pl} (u : RUnd w b n g1 g2 g3 c1 c2 c3 T wr) (hx : T[k]? = some x) (y : ByteArray) : RUnd w b n g1 g2 g3 c1 c2 c3 (T.set k ⟨x.had, x.al, y⟩) (wr.setCell ⟨g3, k, none⟩ (.string y)) where
  len := by rw [List.length_set]; exact u.len
  h := by
    have := u.h.setRow u.m kis k (.string y)
    rw [← set_same (had_at hx)] at this
    simpa [hads, List.map_set] using this
  a := by
    have := u.a.setRow u.m kbs k (.string y)
    rw [← set_same (al_at hx)] at this
    simpa [als, List.map_set] using this
  m := by
    have := u.m.put (j := 0) y (nm_at hx) (.string y) (by show 0 < 1; omega) rfl (q := k) (by show k = k * 1 + 0; omega)
    simpa [nms, List.map_set] using this
  bk := u.bk.byRow u.m ks3 k _
  r6 := u.r6.byRow u.m ks3 k _
  r8 := u.r8.byRow u.m ks3 k _
  nb := u.nb
  o := Only.set u.o (p := ⟨g3, k, none⟩) (.inr (u.m.block rfl).1) _
def RLoadE (w : World) (r : Option (List Pl)) (e : Ending) (w' : World) : Prop := match r with
  | some T => ∃ u1 u2 u3, e = .returned (.tuple #[.agg (rtC T.length u1 u2 u3), .int .i64 0]) ∧ RT w' u1 u2 u3 T ∧ (OwnS KI w' w.heap.size u1 (hads T) ∧ OwnS KB w' w.heap.size u2 (als T) ∧ OwnS KS w' w.heap.size u3 (nms T)) ∧ Only [] w w'
  | none => e = .returned (.tuple #[.agg rt0, .int .i64 1]) ∧ Only [] w w'
theorem rloadE_no {w w' : World} {r : Option (List Pl)} {e : Ending} (h : r = none) (he : e = .returned (.tuple #[.agg rt0, .int .i64 1])) (o : Only [] w w') : RLoadE w r e w' := by
  subst h
  exact ⟨he, o⟩
theorem rloadE_yes {w w' : World} {r : Option (List Pl)} {e : Ending} {T : List Pl} {u1 u2 u3 : Value} (h : r = some T) (he : e = .returned (.tuple #[.agg (rtC T.length u1 u2 u3), .int .i64 0])) (t : RT w' u1 u2 u3 T) (t3 : OwnS KI w' w.heap.size u1 (hads T) ∧ OwnS KB w' w.heap.size u2 (als T) ∧ OwnS KS w' w.heap.size u3 (nms T)) (o : Only [] w w') : RLoadE w r e w' := by
  subst h
  exact ⟨u1, u2, u3, he, t, t3, o⟩
set_option maxHeartbeats 32000000 in
theorem rload_any {w : World} {A B C : Option Addr} {gens : List Int} {live : List Pd} {names : List ByteArray} (ca cb cc : Nat) (hA : RdS KI w A gens) (hB : RdS KP w B live) (hC : RdS KS w C names)
    (la : gens.length ≤ 17592186044416) (lb : live.length ≤ 17592186044416) (lc : names.length ≤ 17592186044416) (hsz : ∀ s ∈ names, s.size ≤ 140737488351232) :
    Calls Try.prog 12 #[.slice A gens.length ca, .slice B live.length cb, .slice C names.length cc] w (RLoadE w (loadF gens live names)) := by
  have HA := Lib.hid hA
  have HB := Lib.hid hB
  have HC := Lib.hid hC
  have HSZ := Lib.hid hsz
  clear hA hB hC hsz
  obtain ⟨W0, hW0⟩ : ∃ W0, W0 = (w.alloc (.cells rt0 30)).alloc (.cells rt0 30) := ⟨_, rfl⟩
  have B6 : Hid (Bk W0 w.heap.size 30 rt0) := Lib.hid (by rw [hW0]; exact (Bk.made w _ _).alloc _)
  have B8 : Hid (Bk W0 (w.heap.size + 1) 30 rt0) := Lib.hid (by rw [hW0]; exact Bk.newAt (by simp))
  have O : Hid (Only [] w W0) := Lib.hid (by rw [hW0]; exact ((Only.refl [] w).alloc _).alloc _)
  by_cases hl : 1 ≤ gens.length ∧ gens.length ≤ 256
  · have KN := Lib.hid (rnew_own gens.length W0 hl.1 hl.2)
    by_cases hnl : names.length = live.length
    · have HNL := Lib.hid hnl
      have q0 : ((live.length : Int) != (names.length : Int)) = false := by simp [hnl]
      have HLF := Lib.hid (show loadF gens live names = if gens.all okGen = true then loadGo gens (live.zip names) (-1) (genT gens) else none by
        unfold loadF
        by_cases ha : gens.all okGen = true
        · rw [if_pos ⟨hl, hnl, ha⟩, if_pos ha]
        · rw [if_neg (fun h => ha h.2.2), if_neg ha])
      clear hnl
      go_enter Try.func12, Try.ntmps12
      go_wp2_with fail
      rw [← hW0]
      clear hW0
      (with_reducible refine KN.out.mono ?_)
      rintro e w1 ⟨v1, v2, v3, rfl, ⟨x1, x2, x3⟩, o1⟩
      have hlz : (zeroT gens.length).length = gens.length := by simp [zeroT]
      obtain ⟨g1, c1, f1⟩ := x1.some_ (by simp [zeroT]; omega)
      obtain ⟨g2, c2, f2⟩ := x2.some_ (by simp [zeroT]; omega)
      obtain ⟨g3, c3, f3⟩ := x3.some_ (by simp [zeroT]; omega)
      rw [List.length_map, hlz] at f1 f2 f3
      subst f1 f2 f3
      have hs0 : w.heap.size + 1 < W0.heap.size := B8.out.lt
      have hle : w.heap.size ≤ W0.heap.size := by omega
      have U1 := Lib.hid (show RUnd w w1.heap.size gens.length g1 g2 g3 c1 c2 c3 (mixT gens 0) (w1.alloc (.cells (rtC gens.length (.slice (some ⟨g1, 0, none⟩) gens.length c1) (.slice (some ⟨g2, 0, none⟩) gens.length c2) (.slice (some ⟨g3, 0, none⟩) gens.length c3)) 30)) from by
        rw [mix_zero]
        exact ⟨hlz, (x1.low hle).alloc _, (x2.low hle).alloc _, (x3.low hle).alloc _, Bk.made _ _ _, (B6.out.only o1 (by simp)).alloc _, (B8.out.only o1 (by simp)).alloc _, Nat.lt_of_lt_of_le hs0 o1.size, (O.out.trans o1 (by simp)).alloc _⟩)
      clear x1 x2 x3 o1 KN hlz hle hs0 O B6 B8
      go_wp2_with fail
      go_loopw [11] (fun kv wr => ∃ k : Nat, kv = .int .i64 k ∧ k ≤ gens.length ∧ (∀ x ∈ gens.take k, okGen x = true) ∧ RUnd w w1.heap.size gens.length g1 g2 g3 c1 c2 c3 (mixT gens k) wr) (fun kv _ => gens.length - (intOf kv).toNat)
      case atStart => exact ⟨0, rfl, Nat.zero_le _, by simp, U1.out⟩
      case round =>
        clear U1
        obtain ⟨k, rfl, hk, hall, u⟩ := hrel
        have U := Lib.hid u
        have HALL := Lib.hid hall
        have X6 := Lib.hid u.r6
        have X8 := Lib.hid u.r8
        by_cases hlt : k < gens.length
        · obtain ⟨bl, off, rfl, hb, hc⟩ := RdI.at1 (HA.out.only0 u.o) (by omega)
          obtain ⟨x, hx⟩ := some_at hlt
          have x0 := hc k x hx
          have HX := Lib.hid hx
          clear hc hb hx hall
          by_cases hg : okGen x = true
          · have hg2 := hg
            simp only [okGen, Bool.and_eq_true, decide_eq_true_eq] at hg2
            have t0 : decide (x < 0) = false := decide_eq_false (by omega)
            have t1 : decide (4611686018427387903 < x) = false := decide_eq_false (by have h9 : x ≤ 4611686018427387903 := hg2.2; omega)
            have hz := mix_at hlt
            have d1 := u.bk.cell0 (i := 1) rfl
            have y0 := u.h.at_ (had_at hz) (j := 0) rfl (q := k) (by show k = k * 1 + 0; omega)
            have yf := u.h.free_ k
            have N := Lib.hid (fun q => show RUnd w w1.heap.size gens.length g1 g2 g3 c1 c2 c3 (mixT gens (k + 1)) ((wr.drewN q).setCell ⟨g1, k, none⟩ (.int .i64 x)) from by
              have h2 := (U.out.only ((Only.refl [] wr).drewN q)).putH hz x
              rwa [mix_set HX.out] at h2)
            have HALL2 := Lib.hid (show ∀ y ∈ gens.take (k + 1), okGen y = true from fun y hy => by
              rw [List.take_add_one, HX.out] at hy
              rcases List.mem_append.1 hy with hy | hy
              · exact HALL.out y hy
              · simp at hy; rw [hy]; exact hg)
            have p1 : (k : Int) < (gens.length : Int) := by omega
            clear hg hg2 hz u
            go_wp2_with fail
            refine wp_region_quiet_then 8 (by kernel_rfl) (by kernel_rfl) ?_
            simp only [List.take_succ_cons, List.take_zero, List.drop_succ_cons, List.drop_zero]
            repeat (go_big_quiet_step (fail))
            refine wpQuiet_nil ?_
            intro q
            go_wp2_with fail
            go_roundw
            case rel => exact ⟨k + 1, by go_num, hlt, HALL2.out, N.out q⟩
            case measure => simp [intOf]; omega
          · have hnall : ¬ gens.all okGen = true := fun h => hg (List.all_eq_true.1 h x (List.mem_of_getElem? HX.out))
            have EN := Lib.hid (show loadF gens live names = none by rw [HLF.out, if_neg hnall])
            have O := Lib.hid u.o
            have hg2 : ¬ (0 ≤ x ∧ x ≤ MX) := fun h => hg (by simp only [okGen, Bool.and_eq_true, decide_eq_true_eq]; exact h)
            clear hnall hg u
            have r0 := X6.out.cell0 (i := 0) rfl
            have r1 := X6.out.cell0 (i := 1) rfl
            have r2 := X6.out.cell0 (i := 2) rfl
            have r3 := X6.out.cell0 (i := 3) rfl
            have rf := X6.out.free
            have s0 := X8.out.cell0 (i := 0) rfl
            have s1 := X8.out.cell0 (i := 1) rfl
            have s2 := X8.out.cell0 (i := 2) rfl
            have s3 := X8.out.cell0 (i := 3) rfl
            by_cases hx0 : x < 0
            · have t0 : decide (x < 0) = true := decide_eq_true hx0
              clear hg2
              go_wp2_with fail
              refine bodyPost_ret (v := .tuple #[.agg rt0, .int .i64 1]) (by simp [results, Try.results12, go_sem, r0, r1, r2, r3]) rfl ?_
              have o9 := fun W => only4 W w.heap.size (.int .i64 0) (.slice none 0 0) (.slice none 0 0) (.slice none 0 0)
              exact rloadE_no EN.out rfl (Only.trans (O.out) (o9 _) (by simp))
            · have t0 : decide (x < 0) = false := decide_eq_false hx0
              have t1 : decide (4611686018427387903 < x) = true := decide_eq_true (by
                have h9 : ¬ x ≤ 4611686018427387903 := fun h => hg2 ⟨by omega, h⟩
                omega)
              clear hg2
              go_wp2_with fail
              refine bodyPost_ret (v := .tuple #[.agg rt0, .int .i64 1]) (by simp [results, Try.results12, go_sem, r0, r1, r2, r3]) rfl ?_
              have o9 := fun W => only4 W w.heap.size (.int .i64 0) (.slice none 0 0) (.slice none 0 0) (.slice none 0 0)
              exact rloadE_no EN.out rfl (Only.trans (O.out) (o9 _) (by simp))
        · have ek : k = gens.length := by omega
          subst ek
          have hall' : gens.all okGen = true := List.all_eq_true.2 (by have := hall; rwa [List.take_length] at this)
          have EQ := Lib.hid (show loadF gens live names = loadGo gens ((live.zip names).drop 0) (-1) (genT gens) by rw [HLF.out, if_pos hall']; rfl)
          have LI := Lib.hid (LInv.start hl hall')
          have U2 := Lib.hid (show RUnd w w1.heap.size gens.length g1 g2 g3 c1 c2 c3 (genT gens) wr by have := u; rwa [mix_full] at this)
          clear u hall hall' U HALL HLF X6 X8
          go_wp2_with fail
          go_loopw [12, 13, 14, 15] (fun kv _ _ _ wr => ∃ (k : Nat) (T : List Pl) (ahead : Int), kv = .int .i64 k ∧ k ≤ live.length ∧ (k = 0 → ahead = -1) ∧ (∀ (j : Nat) (p : Pd), k = j + 1 → live[j]? = some p → ahead = p.n) ∧ loadF gens live names = loadGo gens ((live.zip names).drop k) ahead T ∧ LInv gens ahead T ∧ RUnd w w1.heap.size gens.length g1 g2 g3 c1 c2 c3 T wr) (fun kv _ _ _ _ => live.length - (intOf kv).toNat)
          case atStart => exact ⟨0, _, _, rfl, Nat.zero_le _, fun _ => rfl, fun j p h => (by omega), EQ.out, LI.out, U2.out⟩
          case round =>
            clear EQ LI U2
            obtain ⟨k, T, ahead, rfl, hk, ha0, haj, heq, hli, hu⟩ := hrel
            have EQ := Lib.hid heq
            have LI := Lib.hid hli
            have U := Lib.hid hu
            clear heq hli
            by_cases hlt : k < live.length
            · obtain ⟨bP, oP, rfl, hbP, hcP⟩ := RdP.at2 (HB.out.only0 U.out.o) (by omega)
              obtain ⟨bN, oN, rfl, hbN, hcN⟩ := RdN.at1 (HC.out) (by have := HNL.out; omega)
              obtain ⟨p, hp⟩ := some_at hlt
              obtain ⟨s, hs⟩ := some_at (show k < names.length by have := HNL.out; omega)
              obtain ⟨p0, p1⟩ := hcP k p hp
              have SN := Lib.hid (hcN k s hs)
              have HS := Lib.hid (HSZ.out s (List.mem_of_getElem? hs))
              have ED := Lib.hid (zip_drop hp hs)
              have pl : (k : Int) < (names.length : Int) := by have := HNL.out; omega
              have pk : (k : Int) < (live.length : Int) := by omega
              have HSt := Lib.hid (fun q => show loadS gens ahead T p s = q → loadF gens live names = (match q with | some T' => loadGo gens ((live.zip names).drop (k + 1)) p.n T' | none => none) from fun e => by
                rw [EQ.out, ED.out, ← e]
                rfl)
              have AHN := Lib.hid (show ∀ (j : Nat) (p' : Pd), k + 1 = j + 1 → live[j]? = some p' → p.n = p'.n from fun j p' e h => by
                obtain rfl : k = j := by omega
                rw [hp] at h
                injection h with h
                rw [h])
              have hLOW := LI.out.low
              -- whether the one ahead is below
              have hkc : (ahead = -1 ∧ decide (0 < (k : Int)) = false ∧ decide (0 < k) = false) ∨ (∃ (j : Nat), (IntKind.i64.wrap ((k : Int) - 1) = (j : Int) ∧ (j : Int) < (live.length : Int)) ∧ wr.cell? ⟨bP, oP + j * 2, none⟩ = some (.int .i64 ahead) ∧ decide (0 < (k : Int)) = true ∧ decide (0 < k) = true) := by
                cases k with
                | zero => exact .inl ⟨ha0 rfl, rfl, rfl⟩
                | succ j =>
                  obtain ⟨p', hp'⟩ := some_at (show j < live.length by omega)
                  have e := haj j p' rfl hp'
                  have := (hcP j p' hp').1
                  rw [← e] at this
                  refine .inr ⟨j, ⟨?_, by omega⟩, this, decide_eq_true (by omega), decide_eq_true (by omega)⟩
                  rw [show (((j + 1 : Nat)) : Int) - 1 = (j : Int) by omega]
                  exact IntWalk.i64_in _ (by omega)
              obtain ⟨pn, pg⟩ := p
              dsimp only at p0 p1
              clear hcN hcP hp hs ha0 haj
              have O : Hid (∀ n, Only [] w ((wr.alloc (.cells #[.int .i64 pn, .int .i64 pg] 38)).drewN n)) := Lib.hid (fun n => (U.out.o.alloc _).drewN n)
              have bk := (Bk.made wr 38 (⟨pn, pg⟩ : Pd).cs).pid
              obtain ⟨k0, k1⟩ := bk
              dsimp only at k0 k1
              have X6 := Lib.hid (U.out.r6.alloc (.cells #[.int .i64 pn, .int .i64 pg] 38))
              have X8 := Lib.hid (U.out.r8.alloc (.cells #[.int .i64 pn, .int .i64 pg] 38))
              clear hu
              by_cases h1 : pn < 0
              · have t1 : decide (pn < 0) = true := decide_eq_true h1
                have EN := Lib.hid (show loadF gens live names = none from HSt.out none (loadS_no s (.inl (by show pn ≤ ahead; omega))))
                clear h1 HSt hkc
                have r0 := X6.out.cell0 (i := 0) rfl
                have r1 := X6.out.cell0 (i := 1) rfl
                have r2 := X6.out.cell0 (i := 2) rfl
                have r3 := X6.out.cell0 (i := 3) rfl
                have rf := X6.out.free
                have s0 := X8.out.cell0 (i := 0) rfl
                have s1 := X8.out.cell0 (i := 1) rfl
                have s2 := X8.out.cell0 (i := 2) rfl
                have s3 := X8.out.cell0 (i := 3) rfl
                go_wp2_with fail
                go_quiet (fail)
                go_wp2_with fail
                refine bodyPost_ret (v := .tuple #[.agg rt0, .int .i64 1]) (by simp [results, Try.results12, go_sem, r0, r1, r2, r3]) rfl ?_
                have o9 := fun W => only4 W w.heap.size (.int .i64 0) (.slice none 0 0) (.slice none 0 0) (.slice none 0 0)
                exact rloadE_no EN.out rfl (Only.trans (O.out _) (o9 _) (by simp))
              · have t1 : decide (pn < 0) = false := decide_eq_false h1
                by_cases h2 : (gens.length : Int) ≤ pn
                · have t2 : decide ((gens.length : Int) ≤ pn) = true := decide_eq_true h2
                  have EN := Lib.hid (show loadF gens live names = none from HSt.out none (loadS_no s (.inr (.inl h2))))
                  clear h2 h1 HSt hkc
                  have r0 := X6.out.cell0 (i := 0) rfl
                  have r1 := X6.out.cell0 (i := 1) rfl
                  have r2 := X6.out.cell0 (i := 2) rfl
                  have r3 := X6.out.cell0 (i := 3) rfl
                  have rf := X6.out.free
                  have s0 := X8.out.cell0 (i := 0) rfl
                  have s1 := X8.out.cell0 (i := 1) rfl
                  have s2 := X8.out.cell0 (i := 2) rfl
                  have s3 := X8.out.cell0 (i := 3) rfl
                  go_wp2_with fail
                  go_quiet (fail)
                  go_wp2_with fail
                  refine bodyPost_ret (v := .tuple #[.agg rt0, .int .i64 1]) (by simp [results, Try.results12, go_sem, r0, r1, r2, r3]) rfl ?_
                  have o9 := fun W => only4 W w.heap.size (.int .i64 0) (.slice none 0 0) (.slice none 0 0) (.slice none 0 0)
                  exact rloadE_no EN.out rfl (Only.trans (O.out _) (o9 _) (by simp))
                · have t2 : decide ((gens.length : Int) ≤ pn) = false := decide_eq_false h2
                  obtain ⟨kk, rfl⟩ := Int.eq_ofNat_of_zero_le (show 0 ≤ pn by omega)
                  obtain ⟨bG, oG, rfl, hbG, hcG⟩ := RdI.at1 (HA.out) (by omega)
                  obtain ⟨y, hy⟩ := some_at (show kk < gens.length by omega)
                  have y0 := ((U.out.o.alloc (.cells #[.int .i64 (kk : Int), .int .i64 pg] 38)).cell (p := ⟨bG, oG + kk, none⟩) hbG (by simp)).trans (hcG kk y hy)
                  have pkk : (kk : Int) < (gens.length : Int) := by omega
                  have t2' : decide (gens.length ≤ kk) = false := decide_eq_false (by omega)
                  have t1' : decide ((kk : Int) < 0) = false := decide_eq_false (by omega)
                  have ee : gens[((kk : Nat) : Int).toNat]? = gens[kk]? := by rw [Int.toNat_natCast]
                  clear hcG
                  have hcond : ((kk : Int) ≤ ahead ∧ (∃ (j : Nat), (IntKind.i64.wrap ((k : Int) - 1) = (j : Int) ∧ (j : Int) < (live.length : Int)) ∧ (wr.alloc (.cells #[.int .i64 (kk : Int), .int .i64 pg] 38)).cell? ⟨bP, oP + j * 2, none⟩ = some (.int .i64 ahead) ∧ decide (0 < (k : Int)) = true ∧ decide (0 < k) = true ∧ decide ((kk : Int) ≤ ahead) = true)) ∨ (¬ (kk : Int) ≤ ahead ∧ ((decide (0 < (k : Int)) = false ∧ decide (0 < k) = false) ∨ (∃ (j : Nat), (IntKind.i64.wrap ((k : Int) - 1) = (j : Int) ∧ (j : Int) < (live.length : Int)) ∧ (wr.alloc (.cells #[.int .i64 (kk : Int), .int .i64 pg] 38)).cell? ⟨bP, oP + j * 2, none⟩ = some (.int .i64 ahead) ∧ decide (0 < (k : Int)) = true ∧ decide (0 < k) = true ∧ decide ((kk : Int) ≤ ahead) = false))) := by
                    rcases hkc with ⟨e, t⟩ | ⟨j, hj, hc, t⟩
                    · exact .inr ⟨by omega, .inl t⟩
                    · have hc2 := ((Only.refl [] wr).alloc (.cells #[.int .i64 (kk : Int), .int .i64 pg] 38)).cell (p := ⟨bP, oP + j * 2, none⟩) (World.block_lt_of_cell? wr _ hc) (by simp) |>.trans hc
                      by_cases h : (kk : Int) ≤ ahead
                      · exact .inl ⟨h, j, hj, hc2, t.1, t.2, decide_eq_true h⟩
                      · exact .inr ⟨h, .inr ⟨j, hj, hc2, t.1, t.2, decide_eq_false h⟩⟩
                  clear hkc
                  rcases hcond with ⟨h3, j, ⟨hj1, hj2⟩, hj3, tk, tk', tc⟩ | ⟨h3, hcs⟩
                  · have EN := Lib.hid (show loadF gens live names = none from HSt.out none (loadS_no s (.inl h3)))
                    clear h3 h2 h1 HSt
                    have r0 := X6.out.cell0 (i := 0) rfl
                    have r1 := X6.out.cell0 (i := 1) rfl
                    have r2 := X6.out.cell0 (i := 2) rfl
                    have r3 := X6.out.cell0 (i := 3) rfl
                    have rf := X6.out.free
                    have s0 := X8.out.cell0 (i := 0) rfl
                    have s1 := X8.out.cell0 (i := 1) rfl
                    have s2 := X8.out.cell0 (i := 2) rfl
                    have s3 := X8.out.cell0 (i := 3) rfl
                    go_wp2_with fail
                    go_quiet (fail)
                    go_wp2_with fail
                    refine bodyPost_ret (v := .tuple #[.agg rt0, .int .i64 1]) (by simp [results, Try.results12, go_sem, r0, r1, r2, r3]) rfl ?_
                    have o9 := fun W => only4 W w.heap.size (.int .i64 0) (.slice none 0 0) (.slice none 0 0) (.slice none 0 0)
                    exact rloadE_no EN.out rfl (Only.trans (O.out _) (o9 _) (by simp))
                  · by_cases h4 : pg < 1
                    · have t4 : decide (pg < 1) = true := decide_eq_true h4
                      rcases hcs with ⟨tk, tk'⟩ | ⟨j, ⟨hj1, hj2⟩, hj3, tk, tk', tc⟩
                      all_goals
                        have EN := Lib.hid (show loadF gens live names = none from HSt.out none (loadS_no s (.inr (.inr (.inl h4)))))
                        clear h4 h3 h2 h1 HSt
                        have r0 := X6.out.cell0 (i := 0) rfl
                        have r1 := X6.out.cell0 (i := 1) rfl
                        have r2 := X6.out.cell0 (i := 2) rfl
                        have r3 := X6.out.cell0 (i := 3) rfl
                        have rf := X6.out.free
                        have s0 := X8.out.cell0 (i := 0) rfl
                        have s1 := X8.out.cell0 (i := 1) rfl
                        have s2 := X8.out.cell0 (i := 2) rfl
                        have s3 := X8.out.cell0 (i := 3) rfl
                        go_wp2_with fail
                        go_quiet (fail)
                        go_wp2_with fail
                        refine bodyPost_ret (v := .tuple #[.agg rt0, .int .i64 1]) (by simp [results, Try.results12, go_sem, r0, r1, r2, r3]) rfl ?_
                        have o9 := fun W => only4 W w.heap.size (.int .i64 0) (.slice none 0 0) (.slice none 0 0) (.slice none 0 0)
                        exact rloadE_no EN.out rfl (Only.trans (O.out _) (o9 _) (by simp))
                    · have t4 : decide (pg < 1) = false := decide_eq_false h4
                      by_cases h5 : pg = y
                      · have t5 : (pg != y) = false := by simp [h5]
                        have hc : ¬ ((kk : Int) ≤ ahead ∨ (gens.length : Int) ≤ (kk : Int) ∨ pg < 1 ∨ gens[((kk : Nat) : Int).toNat]? ≠ some pg) := by
                          rintro (h | h | h | h)
                          · exact h3 h
                          · exact h2 h
                          · exact h4 h
                          · exact h (by rw [ee, hy, h5])
                        obtain ⟨k2, e2, hx, hg1, hgk, hah⟩ := LI.out.place (p := ⟨(kk : Int), pg⟩) hc
                        obtain rfl : kk = k2 := by simp only at e2; omega
                        have AL := Lib.hid (LI.out.alive hx hg1 hgk hah)
                        have HC2 := Lib.hid hc
                        have HX := Lib.hid hx
                        have s4 := ((U.out.o.alloc (.cells #[.int .i64 (kk : Int), .int .i64 pg] 38)).cell (p := ⟨bN, oN + k, none⟩) hbN (by simp)).trans SN.out
                        have UA := Lib.hid (fun n => U.out.only (((Only.refl [] wr).alloc (.cells #[.int .i64 (kk : Int), .int .i64 pg] 38)).drewN n))
                        have KA := Lib.hid (fun n => (Bk.made wr 38 (⟨(kk : Int), pg⟩ : Pd).cs).drewN n)
                        clear h5 h4 h3 h2 h1 hy ee hc hx hg1 hgk hah O
                        go_wp2_with fail
                        go_cut [108] from 69 to 107 (fun v108 wx => v108 = .bool false ∧ ∃ nq, wx = (wr.alloc (.cells #[.int .i64 (kk : Int), .int .i64 pg] 38)).drewN nq)
                        case first =>
                          rcases hcs with ⟨tk, tk'⟩ | ⟨j, ⟨hj1, hj2⟩, hj3, tk, tk', tc⟩
                          all_goals
                            go_quiet (fail)
                            go_wp2_with fail
                            go_meet
                            exact ⟨rfl, _, rfl⟩
                        case rest =>
                          obtain ⟨rfl, nq, hW1⟩ := hcut
                          clear hcs t1 t1' t2 t2' t4 t5
                          have UY := Lib.hid (UA.out nq)
                          have KY := Lib.hid (KA.out nq)
                          rw [← hW1] at UY KY
                          obtain ⟨W1, eW⟩ : ∃ W1, W1 = wc := ⟨_, rfl⟩
                          subst eW
                          have s6 := (UY.out.o.cell (p := ⟨bN, oN + k, none⟩) hbN (by simp)).trans SN.out
                          clear k0 k1 y0 s4 UA KA hW1 X6 X8
                          cases hse : s.toList.isEmpty with
                          | true =>
                            have e0 := E0b_list hse
                            have NX := Lib.hid (show loadF gens live names = loadGo gens ((live.zip names).drop (k + 1)) (kk : Int) (T.set kk ⟨pg, true, s⟩) from HSt.out (some (T.set kk ⟨pg, true, s⟩)) (by rw [e0, loadS_plain HC2.out]; simp))
                            have L5 := Lib.hid (show LInv gens kk (T.set kk ⟨pg, true, s⟩) from by rw [e0]; exact AL.out.1)
                            clear e0 HSt
                            have d2 := UY.out.bk.cell0 (i := 2) rfl
                            obtain ⟨z0, z1⟩ := KY.out.pid
                            have y2 := UY.out.a.at_ (al_at HX.out) (j := 0) rfl (q := kk) (by show kk = kk * 1 + 0; omega)
                            have yf2 := UY.out.a.free_ kk
                            have UZ := Lib.hid (UY.out.putA HX.out true)
                            have KZ := Lib.hid (KY.out.byRow UY.out.a kb4 kk (.bool true))
                            have d3 := UZ.out.bk.cell0 (i := 3) rfl
                            obtain ⟨x0, x1⟩ := KZ.out.pid
                            have s5 := (UZ.out.o.cell (p := ⟨bN, oN + k, none⟩) hbN (by simp)).trans SN.out
                            have HXZ := Lib.hid (show (T.set kk ⟨pg, true, E0b⟩)[kk]? = some ⟨pg, true, E0b⟩ from List.getElem?_set_self (List.getElem?_eq_some_iff.1 HX.out).1)
                            have y3 := UZ.out.m.at_ (nm_at HXZ.out) (j := 0) rfl (q := kk) (by show kk = kk * 1 + 0; omega)
                            have yf3 := UZ.out.m.free_ kk
                            have UF := Lib.hid (fun q => by have := (UZ.out.only ((Only.refl [] _).drewN q)).putM HXZ.out s; rw [List.set_set] at this; exact this)
                            go_wp2_with fail
                            refine wp_region_quiet_then 9 (by kernel_rfl) (by kernel_rfl) ?_
                            simp only [List.take_succ_cons, List.take_zero, List.drop_succ_cons, List.drop_zero]
                            repeat (go_big_quiet_step (fail))
                            refine wpQuiet_nil ?_
                            intro q
                            go_wp2_with fail
                            go_roundw
                            case rel => exact ⟨k + 1, _, _, by go_num, by omega, fun h => (by omega), AHN.out, NX.out, L5.out, UF.out q⟩
                            case measure => simp [intOf]; omega
                          | false =>
                            have hse2 := E0b_ne hse
                            obtain ⟨qq, er, hqe, hor⟩ : ∃ (qq : Pd) (er : Int), whereE (whereF T s) = pidE qq er ∧ ((er = 0 ∧ whereF T s ≠ none) ∨ (er = 3 ∧ whereF T s = none)) := by
                              cases hwh : whereF T s with
                              | some q => exact ⟨q, 0, rfl, .inl ⟨rfl, by simp⟩⟩
                              | none => exact ⟨P0, 3, rfl, .inr ⟨rfl, rfl⟩⟩
                            have KW := Lib.hid (show ∀ W, Only [] W1 W → Calls Try.prog 34 #[(.agg (rtC (gens.length : Int) (.slice (some ⟨g1, 0, none⟩) gens.length c1) (.slice (some ⟨g2, 0, none⟩) gens.length c2) (.slice (some ⟨g3, 0, none⟩) gens.length c3))), .string s] W fun e w' => e = .returned (pidE qq er) ∧ Only [] W1 w' ∧ Only [] W w' from fun W o => by
                              have U5 := UY.out.only o
                              have h1 := rwhere_any (v1 := .slice (some ⟨g1, 0, none⟩) gens.length c1) (v2 := .slice (some ⟨g2, 0, none⟩) gens.length c2) (v3 := .slice (some ⟨g3, 0, none⟩) gens.length c3) (T := T) ⟨U5.h.low (Nat.zero_le _), U5.a.low (Nat.zero_le _), U5.m.low (Nat.zero_le _)⟩ (by rw [U5.len]; exact hl.2) s
                              rw [U5.len, hqe] at h1
                              exact h1.mono fun e w' h => ⟨h.1, o.trans h.2 (by simp), h.2⟩)
                            have e0 := UY.out.bk.cell0 (i := 0) rfl
                            have e1 := UY.out.bk.cell0 (i := 1) rfl
                            have e2 := UY.out.bk.cell0 (i := 2) rfl
                            have e3 := UY.out.bk.cell0 (i := 3) rfl
                            have bA := UY.out.bk.alloc (.cells P0.cs 38)
                            have f0 := bA.cell0 (i := 0) rfl
                            have f1 := bA.cell0 (i := 1) rfl
                            have f2 := bA.cell0 (i := 2) rfl
                            have f3 := bA.cell0 (i := 3) rfl
                            have s7 := ((UY.out.o.alloc (.cells P0.cs 38)).cell (p := ⟨bN, oN + k, none⟩) hbN (by simp)).trans SN.out
                            clear bA
                            go_wp2_with fail
                            go_cut [14, 15] from 59 to 148 (fun v14 v15 wx => ∃ b14, v14 = .pointer (some ⟨b14, 0, none⟩) ∧ v15 = .int .i64 er ∧ Only [] W1 wx)
                            case first =>
                              go_region_with (go_at_call 34; (with_reducible refine (KW.out _ ?_).mono ?_); (focus (repeat first | exact Only.refl _ _ | refine Only.drew ?_ | refine Only.drewN ?_ _ | refine Only.alloc ?_ _)); rintro e w5 ⟨rfl, x5, o5⟩; have X5 := Lib.hid x5; try (have zb : Bk w5 W1.heap.size 38 P0.cs := Bk.only (by first | exact Bk.made _ _ _ | exact (Bk.made _ _ _).drew | exact (Bk.made _ _ _).drewN _) o5 (by simp); have zc0 := zb.cell0 (i := 0) rfl; have zc1 := zb.cell0 (i := 1) rfl; have zcf := zb.free); clear x5)
                              all_goals
                                go_wp2_with fail
                                go_meet
                                first
                                  | exact ⟨w5.heap.size, rfl, rfl, X5.out.alloc _⟩
                                  | exact ⟨w5.heap.size, rfl, rfl, (X5.out.alloc _).drewN _⟩
                                  | exact ⟨W1.heap.size, rfl, rfl, (X5.out.set (.inr (Nat.le_refl _)) _).set (.inr (Nat.le_refl _)) _⟩
                            case rest =>
                              obtain ⟨b14, rfl, rfl, ox⟩ := hcut
                              have UX := Lib.hid (UY.out.only ox)
                              have KX := Lib.hid (KY.out.only ox (by simp))
                              clear ox UY KY s6 KW e0 e1 e2 e3 f0 f1 f2 f3 s7 hqe
                              rcases hor with ⟨rfl, hwh⟩ | ⟨rfl, hwh⟩
                              · have EN := Lib.hid (show loadF gens live names = none from HSt.out none (by unfold loadS; rw [if_neg HC2.out, if_neg hse2, if_neg (fun h => hwh h.2)]))
                                have X6 := Lib.hid UX.out.r6
                                have X8 := Lib.hid UX.out.r8
                                clear HSt hse2
                                have r0 := X6.out.cell0 (i := 0) rfl
                                have r1 := X6.out.cell0 (i := 1) rfl
                                have r2 := X6.out.cell0 (i := 2) rfl
                                have r3 := X6.out.cell0 (i := 3) rfl
                                have rf := X6.out.free
                                have s0 := X8.out.cell0 (i := 0) rfl
                                have s1 := X8.out.cell0 (i := 1) rfl
                                have s2 := X8.out.cell0 (i := 2) rfl
                                have s3 := X8.out.cell0 (i := 3) rfl
                                go_wp2_with fail
                                refine bodyPost_ret (v := .tuple #[.agg rt0, .int .i64 1]) (by simp [results, Try.results12, go_sem, r0, r1, r2, r3]) rfl ?_
                                have o9 := fun W => only4 W w.heap.size (.int .i64 0) (.slice none 0 0) (.slice none 0 0) (.slice none 0 0)
                                exact rloadE_no EN.out rfl (Only.trans (UX.out.o) (o9 _) (by simp))
                              · have UY := Lib.hid UX.out
                                have KY := Lib.hid KX.out
                                have s8 := (UX.out.o.cell (p := ⟨bN, oN + k, none⟩) hbN (by simp)).trans SN.out
                                have KAt := atom_any s wc HS.out
                                cases hat : atomF s with
                                | false =>
                                  have EN := Lib.hid (show loadF gens live names = none from HSt.out none (by unfold loadS; rw [if_neg HC2.out, if_neg hse2, if_neg (by simp [hat])]))
                                  have X6 := Lib.hid UX.out.r6
                                  have X8 := Lib.hid UX.out.r8
                                  rw [hat] at KAt
                                  have KAt := Lib.hid KAt
                                  clear hat hse2 HSt
                                  have r0 := X6.out.cell0 (i := 0) rfl
                                  have r1 := X6.out.cell0 (i := 1) rfl
                                  have r2 := X6.out.cell0 (i := 2) rfl
                                  have r3 := X6.out.cell0 (i := 3) rfl
                                  have rf := X6.out.free
                                  have s0 := X8.out.cell0 (i := 0) rfl
                                  have s1 := X8.out.cell0 (i := 1) rfl
                                  have s2 := X8.out.cell0 (i := 2) rfl
                                  have s3 := X8.out.cell0 (i := 3) rfl
                                  go_wp2_with fail
                                  (with_reducible refine KAt.out.mono ?_)
                                  rintro e w9 ⟨rfl, rfl⟩
                                  go_wp2_with fail
                                  refine bodyPost_ret (v := .tuple #[.agg rt0, .int .i64 1]) (by simp [results, Try.results12, go_sem, r0, r1, r2, r3]) rfl ?_
                                  have o9 := fun W => only4 W w.heap.size (.int .i64 0) (.slice none 0 0) (.slice none 0 0) (.slice none 0 0)
                                  exact rloadE_no EN.out rfl (Only.trans (UX.out.o) (o9 _) (by simp))
                                | true =>
                                  have NX := Lib.hid (show loadF gens live names = loadGo gens ((live.zip names).drop (k + 1)) (kk : Int) (T.set kk ⟨pg, true, s⟩) from HSt.out (some (T.set kk ⟨pg, true, s⟩)) (by unfold loadS; rw [if_neg HC2.out, if_neg hse2, if_pos ⟨hat, hwh⟩]; simp))
                                  have L5 := Lib.hid (show LInv gens kk (T.set kk ⟨pg, true, s⟩) from by
                                    have := AL.out.1.named (g := pg) (s := s) (by rw [List.getElem?_set_self (List.getElem?_eq_some_iff.1 HX.out).1]) hat (by rw [AL.out.2]; exact hwh)
                                    rwa [List.set_set] at this)
                                  rw [hat] at KAt
                                  have KAt := Lib.hid KAt
                                  clear hat hse2 HSt hwh
                                  have d2 := UY.out.bk.cell0 (i := 2) rfl
                                  obtain ⟨z0, z1⟩ := KY.out.pid
                                  have y2 := UY.out.a.at_ (al_at HX.out) (j := 0) rfl (q := kk) (by show kk = kk * 1 + 0; omega)
                                  have yf2 := UY.out.a.free_ kk
                                  have UZ := Lib.hid (UY.out.putA HX.out true)
                                  have KZ := Lib.hid (KY.out.byRow UY.out.a kb4 kk (.bool true))
                                  have d3 := UZ.out.bk.cell0 (i := 3) rfl
                                  obtain ⟨x0, x1⟩ := KZ.out.pid
                                  have s5 := (UZ.out.o.cell (p := ⟨bN, oN + k, none⟩) hbN (by simp)).trans SN.out
                                  have HXZ := Lib.hid (show (T.set kk ⟨pg, true, E0b⟩)[kk]? = some ⟨pg, true, E0b⟩ from List.getElem?_set_self (List.getElem?_eq_some_iff.1 HX.out).1)
                                  have y3 := UZ.out.m.at_ (nm_at HXZ.out) (j := 0) rfl (q := kk) (by show kk = kk * 1 + 0; omega)
                                  have yf3 := UZ.out.m.free_ kk
                                  have UF := Lib.hid (fun q => by have := (UZ.out.only ((Only.refl [] _).drewN q)).putM HXZ.out s; rw [List.set_set] at this; exact this)
                                  go_wp2_with fail
                                  (with_reducible refine KAt.out.mono ?_)
                                  rintro e w9 ⟨rfl, rfl⟩
                                  go_wp2_with fail
                                  refine wp_region_quiet_then 9 (by kernel_rfl) (by kernel_rfl) ?_
                                  simp only [List.take_succ_cons, List.take_zero, List.drop_succ_cons, List.drop_zero]
                                  repeat (go_big_quiet_step (fail))
                                  refine wpQuiet_nil ?_
                                  intro q
                                  go_wp2_with fail
                                  go_roundw
                                  case rel => exact ⟨k + 1, _, _, by go_num, by omega, fun h => (by omega), AHN.out, NX.out, L5.out, UF.out q⟩
                                  case measure => simp [intOf]; omega
                      · have t5 : (pg != y) = true := by simp [h5]
                        rcases hcs with ⟨tk, tk'⟩ | ⟨j, ⟨hj1, hj2⟩, hj3, tk, tk', tc⟩
                        all_goals
                          have EN := Lib.hid (show loadF gens live names = none from HSt.out none (loadS_no s (.inr (.inr (.inr (by rw [ee, hy]; intro h; injection h with h; exact h5 h.symm))))))
                          clear h5 h4 h3 h2 h1 HSt hy ee
                          have r0 := X6.out.cell0 (i := 0) rfl
                          have r1 := X6.out.cell0 (i := 1) rfl
                          have r2 := X6.out.cell0 (i := 2) rfl
                          have r3 := X6.out.cell0 (i := 3) rfl
                          have rf := X6.out.free
                          have s0 := X8.out.cell0 (i := 0) rfl
                          have s1 := X8.out.cell0 (i := 1) rfl
                          have s2 := X8.out.cell0 (i := 2) rfl
                          have s3 := X8.out.cell0 (i := 3) rfl
                          go_wp2_with fail
                          go_quiet (fail)
                          go_wp2_with fail
                          refine bodyPost_ret (v := .tuple #[.agg rt0, .int .i64 1]) (by simp [results, Try.results12, go_sem, r0, r1, r2, r3]) rfl ?_
                          have o9 := fun W => only4 W w.heap.size (.int .i64 0) (.slice none 0 0) (.slice none 0 0) (.slice none 0 0)
                          exact rloadE_no EN.out rfl (Only.trans (O.out _) (o9 _) (by simp))
            · have ek : k = live.length := by omega
              subst ek
              have ER := Lib.hid (show loadF gens live names = some T by
                rw [EQ.out, List.drop_of_length_le (by rw [List.length_zip]; exact Nat.min_le_left _ _)]
                rfl)
              have X6 := Lib.hid U.out.r6
              have r0 := X6.out.cell0 (i := 0) rfl
              have r1 := X6.out.cell0 (i := 1) rfl
              have r2 := X6.out.cell0 (i := 2) rfl
              have r3 := X6.out.cell0 (i := 3) rfl
              have rf := X6.out.free
              have s0 := U.out.bk.cell0 (i := 0) rfl
              have s1 := U.out.bk.cell0 (i := 1) rfl
              have s2 := U.out.bk.cell0 (i := 2) rfl
              have s3 := U.out.bk.cell0 (i := 3) rfl
              clear hu
              go_wp2_with fail
              refine bodyPost_ret (v := .tuple #[.agg (rtC gens.length (.slice (some ⟨g1, 0, none⟩) gens.length c1) (.slice (some ⟨g2, 0, none⟩) gens.length c2) (.slice (some ⟨g3, 0, none⟩) gens.length c3)), .int .i64 0]) (by simp [results, Try.results12, go_sem, r0, r1, r2, r3]) rfl ?_
              have o9 := fun W => only4 W w.heap.size (.int .i64 (gens.length : Int)) (.slice (some ⟨g1, 0, none⟩) gens.length c1) (.slice (some ⟨g2, 0, none⟩) gens.length c2) (.slice (some ⟨g3, 0, none⟩) gens.length c3)
              have hRT : RT wr (.slice (some ⟨g1, 0, none⟩) gens.length c1) (.slice (some ⟨g2, 0, none⟩) gens.length c2) (.slice (some ⟨g3, 0, none⟩) gens.length c3) T := ⟨U.out.h.low (Nat.zero_le _), U.out.a.low (Nat.zero_le _), U.out.m.low (Nat.zero_le _)⟩
              exact rloadE_yes ER.out (by rw [U.out.len]) (hRT.onlyT U.out.r6 (o9 _)) ⟨U.out.h.onlyB U.out.r6 ki3 (o9 _), U.out.a.onlyB U.out.r6 kb3 (o9 _), U.out.m.onlyB U.out.r6 ks3 (o9 _)⟩ (Only.trans U.out.o (o9 _) (by simp))
    · have EN := Lib.hid (show loadF gens live names = none by unfold loadF; rw [if_neg (fun h => hnl h.2.1)])
      have q0 : ((live.length : Int) != (names.length : Int)) = true := by simp; omega
      clear hnl
      go_enter Try.func12, Try.ntmps12
      go_wp2_with fail
      rw [← hW0]
      clear hW0
      (with_reducible refine KN.out.mono ?_)
      rintro e w1 ⟨v1, v2, v3, rfl, ⟨x1, x2, x3⟩, o1⟩
      obtain ⟨g1, c1, f1⟩ := x1.some_ (by simp [zeroT]; omega)
      obtain ⟨g2, c2, f2⟩ := x2.some_ (by simp [zeroT]; omega)
      obtain ⟨g3, c3, f3⟩ := x3.some_ (by simp [zeroT]; omega)
      rw [List.length_map] at f1 f2 f3
      subst f1 f2 f3
      clear x1 x2 x3
      have o2 := (O.out.trans o1 (by simp)).alloc (.cells (rtC gens.length (.slice (some ⟨g1, 0, none⟩) (zeroT gens.length).length c1) (.slice (some ⟨g2, 0, none⟩) (zeroT gens.length).length c2) (.slice (some ⟨g3, 0, none⟩) (zeroT gens.length).length c3)) 30)
      have X6 := Lib.hid ((B6.out.only o1 (by simp)).alloc (.cells (rtC gens.length (.slice (some ⟨g1, 0, none⟩) (zeroT gens.length).length c1) (.slice (some ⟨g2, 0, none⟩) (zeroT gens.length).length c2) (.slice (some ⟨g3, 0, none⟩) (zeroT gens.length).length c3)) 30))
      have X8 := Lib.hid ((B8.out.only o1 (by simp)).alloc (.cells (rtC gens.length (.slice (some ⟨g1, 0, none⟩) (zeroT gens.length).length c1) (.slice (some ⟨g2, 0, none⟩) (zeroT gens.length).length c2) (.slice (some ⟨g3, 0, none⟩) (zeroT gens.length).length c3)) 30))
      have O2 := Lib.hid o2
      clear o2 o1
      have r0 := X6.out.cell0 (i := 0) rfl
      have r1 := X6.out.cell0 (i := 1) rfl
      have r2 := X6.out.cell0 (i := 2) rfl
      have r3 := X6.out.cell0 (i := 3) rfl
      have rf := X6.out.free
      have s0 := X8.out.cell0 (i := 0) rfl
      have s1 := X8.out.cell0 (i := 1) rfl
      have s2 := X8.out.cell0 (i := 2) rfl
      have s3 := X8.out.cell0 (i := 3) rfl
      go_wp2_with fail
      refine bodyPost_ret (v := .tuple #[.agg rt0, .int .i64 1]) (by simp [results, Try.results12, go_sem, r0, r1, r2, r3]) rfl ?_
      have o9 := fun W => only4 W w.heap.size (.int .i64 0) (.slice none 0 0) (.slice none 0 0) (.slice none 0 0)
      exact rloadE_no EN.out rfl (Only.trans (O2.out) (o9 _) (by simp))
  · have KN := Lib.hid (rnew_no (gens.length : Int) W0 (by omega))
    have EN := Lib.hid (show loadF gens live names = none by unfold loadF; rw [if_neg (fun h => hl h.1)])
    clear hl
    go_enter Try.func12, Try.ntmps12
    go_wp2_with fail
    rw [← hW0]
    clear hW0
    (with_reducible refine KN.out.mono ?_)
    rintro e w1 ⟨rfl, o1⟩
    have o2 := (O.out.trans o1 (by simp)).alloc (.cells rt0 30)
    have X6 := Lib.hid ((B6.out.only o1 (by simp)).alloc (.cells rt0 30))
    have X8 := Lib.hid ((B8.out.only o1 (by simp)).alloc (.cells rt0 30))
    have O2 := Lib.hid o2
    clear o2 o1
    have r0 := X6.out.cell0 (i := 0) rfl
    have r1 := X6.out.cell0 (i := 1) rfl
    have r2 := X6.out.cell0 (i := 2) rfl
    have r3 := X6.out.cell0 (i := 3) rfl
    have rf := X6.out.free
    have s0 := X8.out.cell0 (i := 0) rfl
    have s1 := X8.out.cell0 (i := 1) rfl
    have s2 := X8.out.cell0 (i := 2) rfl
    have s3 := X8.out.cell0 (i := 3) rfl
    go_wp2_with fail
    refine bodyPost_ret (v := .tuple #[.agg rt0, .int .i64 1]) (by simp [results, Try.results12, go_sem, r0, r1, r2, r3]) rfl ?_
    have o9 := fun W => only4 W w.heap.size (.int .i64 0) (.slice none 0 0) (.slice none 0 0) (.slice none 0 0)
    exact rloadE_no EN.out rfl (Only.trans (O2.out) (o9 _) (by simp))
end Go.Proofs.Ytlidnlcmnkagaaa
