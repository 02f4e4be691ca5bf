/-
  Running a program by reckoning, 12: append is sound.
  Nothing here speaks of the program.
-/
import Derived.Test.YtihlhmphgjlngaaEb
namespace Go.Proofs.Ytihlhmphgjlngaa
open Go.RowKit

section
variable {E : Env} {r : Ren} {W : AW} {w : World}
theorem run_room {P : Program} {w w1 : World} (t ty e : TypeId) (i : TypeInfo) (ht : P.underlying t = some (.slice e)) (hi : P.info? e = some i)
    (a' : Addr) (sLen sCap : Nat) (b' : Addr) (m c : Nat) (news : List Value) (hl : news.length = m * i.size) (hnews : ∀ j u, news[j]? = some u → w.cell? (b'.add j) = some u)
    (hroom : sLen + m ≤ sCap) (hst : (storeCells (a'.add (sLen * i.size)) news).run P w = .ok () w1) :
    (Builtin.append_ #[t, t] ty #[.slice (some a') sLen sCap, .slice (some b') m c]).run P w = .ok (.slice (some a') (sLen + m) sCap) w1 := by
  have hfc := run_firstCells_some (P := P) w i.size m b' m c news hl hnews
  simp [Builtin.append_, run_underlying ht, sizeOf, typeInfo, hi, Builtin.lenOf, hroom, hfc, hst]
theorem run_append_none {P : Program} {w : World} (t ty e : TypeId) (i : TypeInfo) (ht : P.underlying t = some (.slice e)) (hi : P.info? e = some i) (base : Option Addr) (sLen sCap c : Nat) (h : sLen ≤ sCap) :
    (Builtin.append_ #[t, t] ty #[.slice base sLen sCap, .slice none 0 c]).run P w = .ok (.slice base sLen sCap) w := by
  cases base with
  | none => simp [Builtin.append_, run_underlying ht, sizeOf, typeInfo, hi, Builtin.lenOf, Builtin.firstCells, h]
  | some a => simp [Builtin.append_, run_underlying ht, sizeOf, typeInfo, hi, Builtin.lenOf, Builtin.firstCells, h, storeCells]
theorem fits_of {need old bytes : Nat} (h : old < need) (hb : need * bytes ≤ 140737488355328) : Builtin.nextslicecap need old * bytes ≤ 281474976710656 := growslice_fits h hb
theorem VRs.getList {a a' : Array Value} (h : VRs r a a') : VRs r a.toList.toArray a'.toList.toArray := by simpa using h
theorem new_row_OR {P : Program} {cs cs' : Array Value} {e : TypeId} {z : Array Value} {k : Nat} (h : VRs r cs cs') (hz : z.size = P.cellsOf e) : OR P r k (.cells cs e) (.cells (cs' ++ Builtin.zeroCells z k) e) := by
  refine .cells ?_ fun i v hv => ?_
  · simp [h.1, size_zeroCells, hz]
  · obtain ⟨v', h1, h2⟩ := h.at hv
    refine ⟨v', ?_, h2⟩
    rw [Array.getElem?_append_left (get_lt h1)]
    exact h1
theorem cellsOf_eq {P : Program} {e : TypeId} {i : TypeInfo} (h : P.info? e = some i) : P.cellsOf e = i.size := by simp [Program.cellsOf, h]
theorem bind_ok (ok : E.Ok) {t elem : TypeId} {i j : TI} (hi : E.ty.get t = some i) (hu : i.under = .slice elem) (hj : E.ty.get elem = some j) :
    E.P.underlying t = some (.slice elem) ∧ ∃ ji, E.P.info? elem = some ji ∧ ji.size = j.size ∧ ji.bytes = j.bytes ∧ ∀ z, j.zero = some z → ji.zero = some z := by
  obtain ⟨h1, _⟩ := ok.ty t i hi
  obtain ⟨_, ji, h2, h3, h4, h5, _⟩ := ok.ty elem j hj
  exact ⟨hu ▸ h1, ji, h2, h3, h4, fun z hz => (h5 z hz).1⟩
theorem aappend_R (ok : E.Ok) {ts : Array TypeId} {s s' x x' v : Value} {W1 : AW} (hs : VR r s s') (hx : VR r x x') (hw : WR E.P r W w) (e : aappend E ts s x W = some (v, W1)) (ty : TypeId) :
    ∃ r1 v' w1, (Builtin.append_ ts ty #[s', x']).run E.P w = .ok v' w1 ∧ VR r1 v v' ∧ WR E.P r1 W1 w1 ∧ Fr r W w r1 W1 w1 := by
  unfold aappend at e
  split at e
  rotate_left
  · cases e
  rename_i t t2
  split at e
  rotate_left
  · cases e
  rename_i i htt hi
  have htt := Nat.eq_of_beq_eq_true htt
  subst htt
  split at e
  rotate_left
  · cases e
  rename_i elem hu
  split at e
  · -- nothing new
    rename_i j base sLen sCap xc hj
    obtain ⟨ht, ji, hji, hsz, hby, hz⟩ := bind_ok ok hi hu hj
    cases hx
    cases hle : Nat.ble sLen sCap with
    | false => rw [hle] at e; cases e
    | true =>
      rw [hle] at e
      simp only [cond_true, Option.some.injEq, Prod.mk.injEq] at e
      obtain ⟨rfl, rfl⟩ := e
      have hle := Nat.le_of_ble_eq_true hle
      cases hs with
      | snil => exact ⟨r, _, w, run_append_none t ty elem ji ht hji _ _ _ _ hle, .snil _ _, hw, Fr.refl _ _ _⟩
      | slice hb => exact ⟨r, _, w, run_append_none t ty elem ji ht hji _ _ _ _ (by omega), .slice hb, hw, Fr.refl _ _ _⟩
  · rename_i j base sLen sCap xa n xc hj
    obtain ⟨ht, ji, hji, hsz, hby, hz⟩ := bind_ok ok hi hu hj
    split at e
    rotate_left
    · cases e
    rename_i z hzz
    have hzv := hz z hzz
    split at e
    rotate_left
    · cases e
    rename_i new W0 hnew hzs hbytes hneed hpos
    have hzs := Nat.eq_of_beq_eq_true hzs
    have hbytes := Nat.le_of_ble_eq_true hbytes
    have hneed := Nat.le_of_ble_eq_true hneed
    have hpos := Nat.ne_of_beq_eq_false hpos
    have hcell : E.P.cellsOf elem = j.size := (cellsOf_eq hji).trans hsz
    have hzc : z.cells.size = E.P.cellsOf elem := by rw [hcell, ← hzs]; simp
    cases hx with
    | @slice xb xo xb' xx _ _ xsp hxb =>
      have hXA : AR r ⟨xb, xo, xsp⟩ ⟨xb', xo, xsp⟩ := ⟨xb', xx, hxb, rfl⟩
      obtain ⟨_, new', hnv, hnl, hnc⟩ := loads hw hXA hnew
      have hnl' : new'.toList.length = n * ji.size := by
        rw [Array.length_toList, hnv.1, hnl, hsz]
      have hnc' : ∀ k u, new'.toList[k]? = some u → w.cell? ((⟨xb', xo, xsp⟩ : Addr).add k) = some u := fun k u hk => hnc k u (by simpa using hk)
      split at e
      · -- there is room
        rename_i a hroom
        have hroom := Nat.le_of_ble_eq_true hroom
        split at e
        rotate_left
        · cases e
        rename_i W2 hst
        simp only [Option.some.injEq, Prod.mk.injEq] at e
        obtain ⟨rfl, rfl⟩ := e
        cases hs with
        | @slice sb so sb' sx _ _ ssp hsb =>
          have hSA : AR r ⟨sb, so, ssp⟩ ⟨sb', so, ssp⟩ := ⟨sb', sx, hsb, rfl⟩
          obtain ⟨r1, u1, w1, h1, _, h3, h4⟩ := (storeCells_R (P := E.P) (hSA.add (sLen * j.size)) new.toList new'.toList 0 hnv.getList).run W w hw () W2 hst
          refine ⟨r1, _, w1, run_room t ty elem ji ht hji _ sLen (sCap + sx) _ n _ new'.toList hnl' hnc' (by omega) (by rw [hsz]; exact h1), .slice (h4.le _ _ hsb), h3, h4⟩
      · cases e
      · -- nil
        rename_i hroom
        have hroom : ¬ sLen + n ≤ sCap := fun h => by rw [Nat.ble_eq_true_of_le h] at hroom; cases hroom
        cases hb : (Nat.beq sLen 0 && Nat.beq sCap 0) with
        | false => rw [hb] at e; cases e
        | true =>
          rw [hb] at e
          simp only [Bool.and_eq_true] at hb
          have h0 := Nat.eq_of_beq_eq_true hb.1
          have h00 := Nat.eq_of_beq_eq_true hb.2
          subst h0 h00
          simp only [cond_true, Option.some.injEq, Prod.mk.injEq] at e
          obtain ⟨rfl, rfl⟩ := e
          cases hs
          simp only [Nat.zero_add] at hroom hneed hbytes
          have hrun := run_append_nil (P := E.P) w t ty elem ji z ht hji hzv ⟨xb', xo, xsp⟩ n (xc + xx) new'.toList hnl' hnc' (by omega) (by omega) (by rw [hby]; omega)
          have hge := grownCap_ge w n 0 elem
          have hor := new_row_OR (P := E.P) (k := grownCap w n 0 elem - n) (e := elem) hnv hzc
          have hW : (w.drew.alloc (.cells (new'.toList.toArray ++ Builtin.zeroCells z.cells (grownCap w n 0 elem - n)) elem)).heap = w.heap.push (.cells (new' ++ Builtin.zeroCells z.cells (grownCap w n 0 elem - n)) elem) := by (simp only [World.alloc, Array.toArray_toList]; rfl)
          refine ⟨_, _, _, hrun, ?_, hw.newX (l := true) hor (fun h => by cases h) hW, Fr.newX hw _ _ true _ hW rfl rfl rfl⟩
          have hadd := Ren.add_self r W.next w.heap.size (grownCap w n 0 elem - n)
          have h := VR.slice (n := n) (c := n) (o := 0) (sp := none) hadd
          rw [show n + (grownCap w n 0 elem - n) = grownCap w n 0 elem by omega] at h
          exact h
      · rename_i a hroom
        have hroom : ¬ sLen + n ≤ sCap := fun h => by rw [Nat.ble_eq_true_of_le h] at hroom; cases hroom
        split at e
        rotate_left
        · cases e
        rename_i old W2 hold
        cases hs with
        | @slice sb so sb' sx _ _ ssp hsb =>
          have hSA : AR r ⟨sb, so, ssp⟩ ⟨sb', so, ssp⟩ := ⟨sb', sx, hsb, rfl⟩
          obtain ⟨_, old', hov, hol, hoc⟩ := loads hw hSA hold
          have hol' : old'.toList.length = sLen * ji.size := by
            rw [Array.length_toList, hov.1, hol, hsz]
          have hoc' : ∀ k u, old'.toList[k]? = some u → w.cell? ((⟨sb', so, ssp⟩ : Addr).add k) = some u := fun k u hk => hoc k u (by simpa using hk)
          -- a new row is made
          have grow : ∀ (Wg : AW), WR E.P r Wg w → Fr r W w r Wg w → Wg.next = W.next → sCap + sx < sLen + n →
              ∃ r1 v' w1, (Builtin.append_ #[t, t] ty #[.slice (some ⟨sb', so, ssp⟩) sLen (sCap + sx), .slice (some ⟨xb', xo, xsp⟩) n (xc + xx)]).run E.P w = .ok v' w1 ∧
                VR r1 (.slice (some ⟨W.next, 0, none⟩) (sLen + n) (sLen + n)) v' ∧ WR E.P r1 (Wg.new (.cells (old ++ new) elem) true) w1 ∧ Fr r W w r1 (Wg.new (.cells (old ++ new) elem) true) w1 := fun Wg hWg hFg hnx hgr => by
            have hrun := run_append_grow (P := E.P) w t ty elem ji z ht hji hzv ⟨sb', so, ssp⟩ sLen (sCap + sx) old'.toList hol' hoc' ⟨xb', xo, xsp⟩ n (xc + xx) new'.toList hnl' hnc' hgr (by omega) (fits_of hgr (by rw [hby]; exact hbytes))
            have hge := grownCap_ge w (sLen + n) (sCap + sx) elem
            have hor := new_row_OR (P := E.P) (k := grownCap w (sLen + n) (sCap + sx) elem - (sLen + n)) (e := elem) (hov.app hnv) hzc
            have hW : (w.drew.alloc (.cells (old'.toList.toArray ++ new'.toList.toArray ++ Builtin.zeroCells z.cells (grownCap w (sLen + n) (sCap + sx) elem - (sLen + n))) elem)).heap = w.heap.push (.cells (old' ++ new' ++ Builtin.zeroCells z.cells (grownCap w (sLen + n) (sCap + sx) elem - (sLen + n))) elem) := by (simp only [World.alloc, Array.toArray_toList]; rfl)
            refine ⟨_, _, _, hrun, ?_, hWg.newX (l := true) hor (fun h => by cases h) hW, Fr.trans hFg (Fr.newX hWg _ _ true _ hW rfl rfl rfl)⟩
            have hadd := Ren.add_self r Wg.next w.heap.size (grownCap w (sLen + n) (sCap + sx) elem - (sLen + n))
            rw [hnx] at hadd ⊢
            have h := VR.slice (n := sLen + n) (c := sLen + n) (o := 0) (sp := none) hadd
            have h2 : sLen + n + (grownCap w (sLen + n) (sCap + sx) elem - (sLen + n)) = grownCap w (sLen + n) (sCap + sx) elem := by omega
            rw [h2] at h
            exact h
          cases htr : tightRow W ⟨sb, so, ssp⟩ with
          | true =>
            rw [htr] at e
            simp only [cond_true, Option.some.injEq, Prod.mk.injEq] at e
            obtain ⟨rfl, rfl⟩ := e
            unfold tightRow at htr
            split at htr
            · rename_i c ce fz hg
              obtain ⟨o', _, _, h3⟩ := hw.blk hg hsb
              have h0 := h3 rfl
              subst h0
              exact grow W hw (Fr.refl _ _ _) rfl (by omega)
            · cases htr
          | false =>
            rw [htr] at e
            simp only [cond_false] at e
            cases hhr : (headRow W ⟨sb, so, ssp⟩ sCap j.size elem && Nat.ble sLen sCap && new.toList.all oneCell) with
            | false => rw [hhr] at e; cases e
            | true =>
              rw [hhr] at e
              simp only [cond_true, Option.some.injEq, Prod.mk.injEq] at e
              obtain ⟨rfl, rfl⟩ := e
              rw [Bool.and_eq_true, Bool.and_eq_true] at hhr
              obtain ⟨⟨hhr, hlc⟩, hall⟩ := hhr
              have hlc := Nat.le_of_ble_eq_true hlc
              by_cases hin : sLen + n ≤ sCap + sx
              · -- in its place
                unfold headRow at hhr
                split at hhr
                rotate_left
                · cases hhr
                rename_i c ce hg
                simp only [Bool.and_eq_true] at hhr
                obtain ⟨⟨⟨⟨k1, k2⟩, k3⟩, k4⟩, k5⟩ := hhr
                have k1 := Nat.eq_of_beq_eq_true k1
                have k3 := Nat.le_of_ble_eq_true k3
                have k4 := Nat.eq_of_beq_eq_true k4
                have k5 := Nat.eq_of_beq_eq_true k5
                simp only [Option.isNone_iff_eq_none] at k1 k2 k3
                subst k1 k2 k4
                obtain ⟨o', h1, h2, _⟩ := hw.blk hg hsb
                cases h2 with
                | @cells _ c' _ _ h5 h6 =>
                  have hcs : c.size = sCap * j.size := by simpa using k5
                  rw [hcell] at h5
                  have hroomc : sLen * ji.size + n * ji.size ≤ c'.size := by
                    rw [h5, hcs, ← Nat.add_mul, ← Nat.add_mul, hsz]
                    exact Nat.mul_le_mul_right _ hin
                  have hone : ∀ u ∈ new'.toList, u.oneCell' = true := fun u hu => by
                    obtain ⟨k, hk, rfl⟩ := List.getElem_of_mem hu
                    have hkn : k < new.size := by rw [← hnv.1]; simpa using hk
                    have hv := hnv.2 k new[k] new'.toList[k] (Array.getElem?_eq_getElem hkn) (by simp at hk ⊢)
                    rw [List.all_eq_true] at hall
                    have h1 := one_of hv (hall _ (by rw [Array.mem_toList_iff]; exact Array.getElem_mem hkn))
                    generalize new'.toList[k] = q at h1
                    cases q <;> first | rfl | cases h1
                  have hrun := run_append_room_cells (P := E.P) w t ty ce ji ht hji sb' 0 sLen (sCap + sx) ⟨xb', xo, xsp⟩ n (xc + xx) new'.toList hnl' hnc' hone hin (fun k hk => by
                      have hk' : 0 + sLen * ji.size + k < c'.size := by omega
                      rw [cell_of h1 (Array.getElem?_eq_getElem hk')]
                      rfl) (fun k hk => by simp [World.frozen?, h1])
                  obtain ⟨q1, q2, q3, q4⟩ := setCells_rest new'.toList (0 + sLen * ji.size) w sb'
                  have hh := heap_setCells_eq new'.toList (0 + sLen * ji.size) w sb' c' ce (0, 0) h1
                  have hor : OR E.P r (sCap + sx - (sLen + n)) (.cells (old ++ new) ce) (.cells ⟨putC c'.toList (0 + sLen * ji.size) new'.toList⟩ ce) := by
                    refine .cells ?_ fun k u hk => ?_
                    · simp only [List.size_toArray, putC_length, Array.length_toList, Array.size_append, hol, hnl, hcell, h5, hcs]
                      rw [← Nat.add_mul, ← Nat.add_mul, ← Nat.add_mul]
                      congr 1
                      omega
                    · rw [List.getElem?_toArray, putC_get _ _ _ _ (by rw [hnl']; simp only [Array.length_toList]; omega)]
                      rw [Array.getElem?_append] at hk
                      by_cases e1 : k < old.size
                      · rw [if_pos e1] at hk
                        rw [if_pos (by rw [hsz]; omega)]
                        obtain ⟨u', h7, h8⟩ := hov.at hk
                        refine ⟨u', ?_, h8⟩
                        have := hoc k u' h7
                        rw [Addr.add_lit, Nat.zero_add] at this
                        simp only [World.cell?, h1] at this
                        simpa using this
                      · rw [if_neg e1] at hk
                        obtain ⟨u', h7, h8⟩ := hnv.at hk
                        have h9 := get_lt hk
                        rw [if_neg (by rw [hsz]; omega), if_pos (by rw [hnl', hsz]; omega)]
                        refine ⟨u', ?_, h8⟩
                        rw [show k - (0 + sLen * ji.size) = k - old.size by rw [hsz, hol]; omega]
                        simpa using h7
                  refine ⟨_, _, _, hrun, ?_, hw.moved hg hsb hor hh (fun d hd => heap_setCells_ne _ _ _ _ _ hd), Fr.moved hw hg k3 hsb q1 q2 q3 q4 (fun d hd => heap_setCells_ne _ _ _ _ _ hd)⟩
                  have hadd := Ren.add_self r W.next sb' (sCap + sx - (sLen + n))
                  have h := VR.slice (n := sLen + n) (c := sLen + n) (o := 0) (sp := none) hadd
                  rw [show sLen + n + (sCap + sx - (sLen + n)) = sCap + sx by omega] at h
                  exact h
              · exact grow (W.set sb none) (hw.gone sb) (Fr.gone r W w sb (fun o ho => by
                unfold headRow at hhr
                rw [ho] at hhr
                cases o with
                | cells c e fz =>
                  obtain ⟨f1, f2⟩ := fz
                  exact absurd hhr (by simp)
                | _ => exact absurd hhr (by simp))) rfl (by omega)
  · cases e
end
end Go.Proofs.Ytihlhmphgjlngaa
