/- Running a program by reckoning, 12: append is sound.
  Nothing here speaks of the program. Running a program by reckoning, 13: one operation in a frame; a region in the order of its text.
  Nothing here speaks of the program. Running a program by reckoning, 14: a region in whatever order: what only reads, what only makes memory; who goes before whom.
  Nothing here speaks of the program. -/
import Derived.Test.YtkodblhompphjaaVt
import Derived.Orders
namespace Go.Proofs.Ytkodblhompphjaa
open Go.RowKit

section
variable {E : Env} {r : Ren} {W : AW} {w : World}
theorem run_room {P : Program} {w w1 : World} (t ty e : TypeId) (i : TypeInfo) (ht : P.underlying t = some (.slice e)) (hi : P.info? e = some i)
    (a' : Addr) (sLen sCap : Nat) (b' : Addr) (m c : Nat) (news : List Value) (hl : news.length = m * i.size) (hnews : ∀ j u, news[j]? = some u → w.cell? (b'.add j) = some u)
    (hroom : sLen + m ≤ sCap) (hst : (storeCells (a'.add (sLen * i.size)) news).run P w = .ok () w1) :
    (Builtin.append_ #[t, t] ty #[.slice (some a') sLen sCap, .slice (some b') m c]).run P w = .ok (.slice (some a') (sLen + m) sCap) w1 := by
  have hfc := run_firstCells_some (P := P) w i.size m b' m c news hl hnews
  simp [Builtin.append_, run_underlying ht, sizeOf, typeInfo, hi, Builtin.lenOf, hroom, hfc, hst]
theorem run_append_none {P : Program} {w : World} (t ty e : TypeId) (i : TypeInfo) (ht : P.underlying t = some (.slice e)) (hi : P.info? e = some i) (base : Option Addr) (sLen sCap c : Nat) (h : sLen ≤ sCap) :
    (Builtin.append_ #[t, t] ty #[.slice base sLen sCap, .slice none 0 c]).run P w = .ok (.slice base sLen sCap) w := by
  cases base with
  | none => simp [Builtin.append_, run_underlying ht, sizeOf, typeInfo, hi, Builtin.lenOf, Builtin.firstCells, h]
  | some a => simp [Builtin.append_, run_underlying ht, sizeOf, typeInfo, hi, Builtin.lenOf, Builtin.firstCells, h, storeCells]
theorem fits_of {need old bytes : Nat} (h : old < need) (hb : need * bytes ≤ 140737488355328) : Builtin.nextslicecap need old * bytes ≤ 281474976710656 := growslice_fits h hb
theorem VRs.getList {a a' : Array Value} (h : VRs r a a') : VRs r a.toList.toArray a'.toList.toArray := by simpa using h
theorem new_row_OR {P : Program} {cs cs' : Array Value} {e : TypeId} {z : Array Value} {k : Nat} (h : VRs r cs cs') (hz : z.size = P.cellsOf e) : OR P r k (.cells cs e) (.cells (cs' ++ Builtin.zeroCells z k) e) := by
  refine .cells ?_ fun i v hv => ?_
  · simp [h.1, size_zeroCells, hz]
  · obtain ⟨v', h1, h2⟩ := h.at hv
    refine ⟨v', ?_, h2⟩
    rw [Array.getElem?_append_left (get_lt h1)]
    exact h1
theorem cellsOf_eq {P : Program} {e : TypeId} {i : TypeInfo} (h : P.info? e = some i) : P.cellsOf e = i.size := by simp [Program.cellsOf, h]
theorem bind_ok (ok : E.Ok) {t elem : TypeId} {i j : TI} (hi : E.ty.get t = some i) (hu : i.under = .slice elem) (hj : E.ty.get elem = some j) :
    E.P.underlying t = some (.slice elem) ∧ ∃ ji, E.P.info? elem = some ji ∧ ji.size = j.size ∧ ji.bytes = j.bytes ∧ ∀ z, j.zero = some z → ji.zero = some z := by
  obtain ⟨h1, _⟩ := ok.ty t i hi
  obtain ⟨_, ji, h2, h3, h4, h5, _⟩ := ok.ty elem j hj
  exact ⟨hu ▸ h1, ji, h2, h3, h4, fun z hz => (h5 z hz).1⟩
theorem aappend_R (ok : E.Ok) {ts : Array TypeId} {s s' x x' v : Value} {W1 : AW} (hs : VR r s s') (hx : VR r x x') (hw : WR E.P r W w) (e : aappend E ts s x W = some (v, W1)) (ty : TypeId) :
    ∃ r1 v' w1, (Builtin.append_ ts ty #[s', x']).run E.P w = .ok v' w1 ∧ VR r1 v v' ∧ WR E.P r1 W1 w1 ∧ Fr r W w r1 W1 w1 := by
  unfold aappend at e
  split at e
  rotate_left
  · cases e
  rename_i t t2
  split at e
  rotate_left
  · cases e
  rename_i i htt hi
  have htt := Nat.eq_of_beq_eq_true htt
  subst htt
  split at e
  rotate_left
  · cases e
  rename_i elem hu
  split at e
  · -- nothing new
    rename_i j base sLen sCap xc hj
    obtain ⟨ht, ji, hji, hsz, hby, hz⟩ := bind_ok ok hi hu hj
    cases hx
    cases hle : Nat.ble sLen sCap with
    | false => rw [hle] at e; cases e
    | true =>
      rw [hle] at e
      simp only [cond_true, Option.some.injEq, Prod.mk.injEq] at e
      obtain ⟨rfl, rfl⟩ := e
      have hle := Nat.le_of_ble_eq_true hle
      cases hs with
      | snil => exact ⟨r, _, w, run_append_none t ty elem ji ht hji _ _ _ _ hle, .snil _ _, hw, Fr.refl _ _ _⟩
      | slice hb => exact ⟨r, _, w, run_append_none t ty elem ji ht hji _ _ _ _ (by omega), .slice hb, hw, Fr.refl _ _ _⟩
  · rename_i j base sLen sCap xa n xc hj
    obtain ⟨ht, ji, hji, hsz, hby, hz⟩ := bind_ok ok hi hu hj
    split at e
    rotate_left
    · cases e
    rename_i z hzz
    have hzv := hz z hzz
    split at e
    rotate_left
    · cases e
    rename_i new W0 hnew hzs hbytes hneed hpos
    have hzs := Nat.eq_of_beq_eq_true hzs
    have hbytes := Nat.le_of_ble_eq_true hbytes
    have hneed := Nat.le_of_ble_eq_true hneed
    have hpos := Nat.ne_of_beq_eq_false hpos
    have hcell : E.P.cellsOf elem = j.size := (cellsOf_eq hji).trans hsz
    have hzc : z.cells.size = E.P.cellsOf elem := by rw [hcell, ← hzs]; simp
    cases hx with
    | @slice xb xo xb' xx _ _ xsp hxb =>
      have hXA : AR r ⟨xb, xo, xsp⟩ ⟨xb', xo, xsp⟩ := ⟨xb', xx, hxb, rfl⟩
      obtain ⟨_, new', hnv, hnl, hnc⟩ := loads hw hXA hnew
      have hnl' : new'.toList.length = n * ji.size := by
        rw [Array.length_toList, hnv.1, hnl, hsz]
      have hnc' : ∀ k u, new'.toList[k]? = some u → w.cell? ((⟨xb', xo, xsp⟩ : Addr).add k) = some u := fun k u hk => hnc k u (by simpa using hk)
      split at e
      · -- there is room
        rename_i a hroom
        have hroom := Nat.le_of_ble_eq_true hroom
        split at e
        rotate_left
        · cases e
        rename_i W2 hst
        simp only [Option.some.injEq, Prod.mk.injEq] at e
        obtain ⟨rfl, rfl⟩ := e
        cases hs with
        | @slice sb so sb' sx _ _ ssp hsb =>
          have hSA : AR r ⟨sb, so, ssp⟩ ⟨sb', so, ssp⟩ := ⟨sb', sx, hsb, rfl⟩
          obtain ⟨r1, u1, w1, h1, _, h3, h4⟩ := (storeCells_R (P := E.P) (hSA.add (sLen * j.size)) new.toList new'.toList 0 hnv.getList).run W w hw () W2 hst
          refine ⟨r1, _, w1, run_room t ty elem ji ht hji _ sLen (sCap + sx) _ n _ new'.toList hnl' hnc' (by omega) (by rw [hsz]; exact h1), .slice (h4.le _ _ hsb), h3, h4⟩
      · cases e
      · -- nil
        rename_i hroom
        have hroom : ¬ sLen + n ≤ sCap := fun h => by rw [Nat.ble_eq_true_of_le h] at hroom; cases hroom
        cases hb : (Nat.beq sLen 0 && Nat.beq sCap 0) with
        | false => rw [hb] at e; cases e
        | true =>
          rw [hb] at e
          simp only [Bool.and_eq_true] at hb
          have h0 := Nat.eq_of_beq_eq_true hb.1
          have h00 := Nat.eq_of_beq_eq_true hb.2
          subst h0 h00
          simp only [cond_true, Option.some.injEq, Prod.mk.injEq] at e
          obtain ⟨rfl, rfl⟩ := e
          cases hs
          simp only [Nat.zero_add] at hroom hneed hbytes
          have hrun := run_append_nil (P := E.P) w t ty elem ji z ht hji hzv ⟨xb', xo, xsp⟩ n (xc + xx) new'.toList hnl' hnc' (by omega) (by omega) (by rw [hby]; omega)
          have hge := grownCap_ge w n 0 elem
          have hor := new_row_OR (P := E.P) (k := grownCap w n 0 elem - n) (e := elem) hnv hzc
          have hW : (w.drew.alloc (.cells (new'.toList.toArray ++ Builtin.zeroCells z.cells (grownCap w n 0 elem - n)) elem)).heap = w.heap.push (.cells (new' ++ Builtin.zeroCells z.cells (grownCap w n 0 elem - n)) elem) := by (simp only [World.alloc, Array.toArray_toList]; rfl)
          refine ⟨_, _, _, hrun, ?_, hw.newX (l := true) hor (fun h => by cases h) hW, Fr.newX hw _ _ true _ hW rfl rfl rfl⟩
          have hadd := Ren.add_self r W.next w.heap.size (grownCap w n 0 elem - n)
          have h := VR.slice (n := n) (c := n) (o := 0) (sp := none) hadd
          rw [show n + (grownCap w n 0 elem - n) = grownCap w n 0 elem by omega] at h
          exact h
      · rename_i a hroom
        have hroom : ¬ sLen + n ≤ sCap := fun h => by rw [Nat.ble_eq_true_of_le h] at hroom; cases hroom
        split at e
        rotate_left
        · cases e
        rename_i old W2 hold
        cases hs with
        | @slice sb so sb' sx _ _ ssp hsb =>
          have hSA : AR r ⟨sb, so, ssp⟩ ⟨sb', so, ssp⟩ := ⟨sb', sx, hsb, rfl⟩
          obtain ⟨_, old', hov, hol, hoc⟩ := loads hw hSA hold
          have hol' : old'.toList.length = sLen * ji.size := by
            rw [Array.length_toList, hov.1, hol, hsz]
          have hoc' : ∀ k u, old'.toList[k]? = some u → w.cell? ((⟨sb', so, ssp⟩ : Addr).add k) = some u := fun k u hk => hoc k u (by simpa using hk)
          -- a new row is made
          have grow : ∀ (Wg : AW), WR E.P r Wg w → Fr r W w r Wg w → Wg.next = W.next → sCap + sx < sLen + n →
              ∃ r1 v' w1, (Builtin.append_ #[t, t] ty #[.slice (some ⟨sb', so, ssp⟩) sLen (sCap + sx), .slice (some ⟨xb', xo, xsp⟩) n (xc + xx)]).run E.P w = .ok v' w1 ∧
                VR r1 (.slice (some ⟨W.next, 0, none⟩) (sLen + n) (sLen + n)) v' ∧ WR E.P r1 (Wg.new (.cells (old ++ new) elem) true) w1 ∧ Fr r W w r1 (Wg.new (.cells (old ++ new) elem) true) w1 := fun Wg hWg hFg hnx hgr => by
            have hrun := run_append_grow (P := E.P) w t ty elem ji z ht hji hzv ⟨sb', so, ssp⟩ sLen (sCap + sx) old'.toList hol' hoc' ⟨xb', xo, xsp⟩ n (xc + xx) new'.toList hnl' hnc' hgr (by omega) (fits_of hgr (by rw [hby]; exact hbytes))
            have hge := grownCap_ge w (sLen + n) (sCap + sx) elem
            have hor := new_row_OR (P := E.P) (k := grownCap w (sLen + n) (sCap + sx) elem - (sLen + n)) (e := elem) (hov.app hnv) hzc
            have hW : (w.drew.alloc (.cells (old'.toList.toArray ++ new'.toList.toArray ++ Builtin.zeroCells z.cells (grownCap w (sLen + n) (sCap + sx) elem - (sLen + n))) elem)).heap = w.heap.push (.cells (old' ++ new' ++ Builtin.zeroCells z.cells (grownCap w (sLen + n) (sCap + sx) elem - (sLen + n))) elem) := by (simp only [World.alloc, Array.toArray_toList]; rfl)
            refine ⟨_, _, _, hrun, ?_, hWg.newX (l := true) hor (fun h => by cases h) hW, Fr.trans hFg (Fr.newX hWg _ _ true _ hW rfl rfl rfl)⟩
            have hadd := Ren.add_self r Wg.next w.heap.size (grownCap w (sLen + n) (sCap + sx) elem - (sLen + n))
            rw [hnx] at hadd ⊢
            have h := VR.slice (n := sLen + n) (c := sLen + n) (o := 0) (sp := none) hadd
            have h2 : sLen + n + (grownCap w (sLen + n) (sCap + sx) elem - (sLen + n)) = grownCap w (sLen + n) (sCap + sx) elem := by omega
            rw [h2] at h
            exact h
          cases htr : tightRow W ⟨sb, so, ssp⟩ with
          | true =>
            rw [htr] at e
            simp only [cond_true, Option.some.injEq, Prod.mk.injEq] at e
            obtain ⟨rfl, rfl⟩ := e
            unfold tightRow at htr
            split at htr
            · rename_i c ce fz hg
              obtain ⟨o', _, _, h3⟩ := hw.blk hg hsb
              have h0 := h3 rfl
              subst h0
              exact grow W hw (Fr.refl _ _ _) rfl (by omega)
            · cases htr
          | false =>
            rw [htr] at e
            simp only [cond_false] at e
            cases hhr : (headRow W ⟨sb, so, ssp⟩ sCap j.size elem && Nat.ble sLen sCap && new.toList.all oneCell) with
            | false => rw [hhr] at e; cases e
            | true =>
              rw [hhr] at e
              simp only [cond_true, Option.some.injEq, Prod.mk.injEq] at e
              obtain ⟨rfl, rfl⟩ := e
              rw [Bool.and_eq_true, Bool.and_eq_true] at hhr
              obtain ⟨⟨hhr, hlc⟩, hall⟩ := hhr
              have hlc := Nat.le_of_ble_eq_true hlc
              by_cases hin : sLen + n ≤ sCap + sx
              · -- in its place
                unfold headRow at hhr
                split at hhr
                rotate_left
                · cases hhr
                rename_i c ce hg
                simp only [Bool.and_eq_true] at hhr
                obtain ⟨⟨⟨⟨k1, k2⟩, k3⟩, k4⟩, k5⟩ := hhr
                have k1 := Nat.eq_of_beq_eq_true k1
                have k3 := Nat.le_of_ble_eq_true k3
                have k4 := Nat.eq_of_beq_eq_true k4
                have k5 := Nat.eq_of_beq_eq_true k5
                simp only [Option.isNone_iff_eq_none] at k1 k2 k3
                subst k1 k2 k4
                obtain ⟨o', h1, h2, _⟩ := hw.blk hg hsb
                cases h2 with
                | @cells _ c' _ _ h5 h6 =>
                  have hcs : c.size = sCap * j.size := by simpa using k5
                  rw [hcell] at h5
                  have hroomc : sLen * ji.size + n * ji.size ≤ c'.size := by
                    rw [h5, hcs, ← Nat.add_mul, ← Nat.add_mul, hsz]
                    exact Nat.mul_le_mul_right _ hin
                  have hone : ∀ u ∈ new'.toList, u.oneCell' = true := fun u hu => by
                    obtain ⟨k, hk, rfl⟩ := List.getElem_of_mem hu
                    have hkn : k < new.size := by rw [← hnv.1]; simpa using hk
                    have hv := hnv.2 k new[k] new'.toList[k] (Array.getElem?_eq_getElem hkn) (by simp at hk ⊢)
                    rw [List.all_eq_true] at hall
                    have h1 := one_of hv (hall _ (by rw [Array.mem_toList_iff]; exact Array.getElem_mem hkn))
                    generalize new'.toList[k] = q at h1
                    cases q <;> first | rfl | cases h1
                  have hrun := run_append_room_cells (P := E.P) w t ty ce ji ht hji sb' 0 sLen (sCap + sx) ⟨xb', xo, xsp⟩ n (xc + xx) new'.toList hnl' hnc' hone hin (fun k hk => by
                      have hk' : 0 + sLen * ji.size + k < c'.size := by omega
                      rw [cell_of h1 (Array.getElem?_eq_getElem hk')]
                      rfl) (fun k hk => by simp [World.frozen?, h1])
                  obtain ⟨q1, q2, q3, q4⟩ := setCells_rest new'.toList (0 + sLen * ji.size) w sb'
                  have hh := heap_setCells_eq new'.toList (0 + sLen * ji.size) w sb' c' ce (0, 0) h1
                  have hor : OR E.P r (sCap + sx - (sLen + n)) (.cells (old ++ new) ce) (.cells ⟨putC c'.toList (0 + sLen * ji.size) new'.toList⟩ ce) := by
                    refine .cells ?_ fun k u hk => ?_
                    · simp only [List.size_toArray, putC_length, Array.length_toList, Array.size_append, hol, hnl, hcell, h5, hcs]
                      rw [← Nat.add_mul, ← Nat.add_mul, ← Nat.add_mul]
                      congr 1
                      omega
                    · rw [List.getElem?_toArray, putC_get _ _ _ _ (by rw [hnl']; simp only [Array.length_toList]; omega)]
                      rw [Array.getElem?_append] at hk
                      by_cases e1 : k < old.size
                      · rw [if_pos e1] at hk
                        rw [if_pos (by rw [hsz]; omega)]
                        obtain ⟨u', h7, h8⟩ := hov.at hk
                        refine ⟨u', ?_, h8⟩
                        have := hoc k u' h7
                        rw [Addr.add_lit, Nat.zero_add] at this
                        simp only [World.cell?, h1] at this
                        simpa using this
                      · rw [if_neg e1] at hk
                        obtain ⟨u', h7, h8⟩ := hnv.at hk
                        have h9 := get_lt hk
                        rw [if_neg (by rw [hsz]; omega), if_pos (by rw [hnl', hsz]; omega)]
                        refine ⟨u', ?_, h8⟩
                        rw [show k - (0 + sLen * ji.size) = k - old.size by rw [hsz, hol]; omega]
                        simpa using h7
                  refine ⟨_, _, _, hrun, ?_, hw.moved hg hsb hor hh (fun d hd => heap_setCells_ne _ _ _ _ _ hd), Fr.moved hw hg k3 hsb q1 q2 q3 q4 (fun d hd => heap_setCells_ne _ _ _ _ _ hd)⟩
                  have hadd := Ren.add_self r W.next sb' (sCap + sx - (sLen + n))
                  have h := VR.slice (n := sLen + n) (c := sLen + n) (o := 0) (sp := none) hadd
                  rw [show sLen + n + (sCap + sx - (sLen + n)) = sCap + sx by omega] at h
                  exact h
              · exact grow (W.set sb none) (hw.gone sb) (Fr.gone r W w sb (fun o ho => by
                unfold headRow at hhr
                rw [ho] at hhr
                cases o with
                | cells c e fz =>
                  obtain ⟨f1, f2⟩ := fz
                  exact absurd hhr (by simp)
                | _ => exact absurd hhr (by simp))) rfl (by omega)
  · cases e
end
end Go.Proofs.Ytkodblhompphjaa

namespace Go.Proofs.Ytkodblhompphjaa
open Go.RowKit

def tv (T : Tb Value) (t : Nat) : Value := match T.get t with | some v => v | none => undef
def GR (gl : Nat) (r : Ren) : Prop := ∀ g, g < gl → ∃ x, r g = some (g, x)
theorem GR.le {gl : Nat} {r s : Ren} (h : GR gl r) (l : r.le s) : GR gl s := fun g hg => let ⟨x, hx⟩ := h g hg; ⟨x, l _ _ hx⟩
/-- A frame of the reckoning, and the machine's. -/
structure SR (P : Program) (gl N : Nat) (r : Ren) (T : Tb Value) (a : Act) (W : AW) (w : World) : Prop where
  sz : a.tmps.size = N
  tm : ∀ t, VR r (tv T t) (a.tmps.getD t undef)
  gr : GR gl r
  wr : WR P r W w
  df : a.defers = []
theorem EvR.of {gl : Nat} {r : Ren} {T : Tb Value} {a : Act} (tm : ∀ t, VR r (tv T t) (a.tmps.getD t undef)) (gr : GR gl r) : EvR r (aev gl T) a.eval := by
  intro x v hv
  cases x with
  | tmp t =>
    injection hv with hv
    subst hv
    exact tm t
  | const c =>
    simp only [aev] at hv
    cases hs : simple c with
    | true =>
      rw [hs] at hv
      injection hv with hv
      subst hv
      exact .simple hs
    | false => rw [hs] at hv; cases hv
  | global g =>
    simp only [aev] at hv
    cases hs : Nat.ble (g + 1) gl with
    | true =>
      rw [hs] at hv
      injection hv with hv
      subst hv
      obtain ⟨x, hx⟩ := gr g (Nat.le_of_ble_eq_true hs)
      exact .ptr hx
    | false => rw [hs] at hv; cases hv
  | func f =>
    injection hv with hv
    subst hv
    exact .simple1 rfl
theorem VR.undef (r : Ren) : VR r undef undef := .tuple rfl (VRs.nil r).2
theorem tm_put {r : Ren} {T : Tb Value} {a : Act} {N d : Nat} {v v' : Value} (sz : a.tmps.size = N) (tm : ∀ t, VR r (tv T t) (a.tmps.getD t undef)) (hd : d < N) (hv : VR r v v') :
    (a.put (some d) v').tmps.size = N ∧ ∀ t, VR r (tv (T.set d (some v)) t) ((a.put (some d) v').tmps.getD t undef) := by
  refine ⟨by simp [Act.put, sz], fun t => ?_⟩
  unfold tv
  rw [Tb.get_set]
  by_cases e : t = d
  · subst e
    rw [if_pos rfl]
    have : (a.put (some t) v').tmps.getD t Go.undef = v' := by simp [Act.put, Array.getD_eq_getD_getElem?, sz, hd]
    rw [this]
    exact hv
  · rw [if_neg e]
    have : (a.put (some d) v').tmps.getD t Go.undef = a.tmps.getD t Go.undef := by
      simp [Act.put, Array.getD_eq_getD_getElem?, Array.getElem?_setIfInBounds_ne (Ne.symm e)]
    rw [this]
    exact tm t
def putA (N : Nat) (T : Tb Value) (d : Option Tmp) (v : Value) : Option (Tb Value) :=
  match d with
  | some d => cond (Nat.ble (d + 1) N) (some (T.set d (some v))) none
  | none => some T
theorem SR.put {P : Program} {gl N : Nat} {r r1 : Ren} {T T1 : Tb Value} {a : Act} {W W1 : AW} {w w1 : World} {d : Option Tmp} {v v' : Value} (h : SR P gl N r T a W w) (l : r.le r1) (hw : WR P r1 W1 w1) (hv : VR r1 v v') (e : putA N T d v = some T1) : SR P gl N r1 T1 (a.put d v') W1 w1 := by
  unfold putA at e
  cases d with
  | none =>
    injection e with e
    subst e
    exact ⟨h.sz, fun t => (h.tm t).le l, h.gr.le l, hw, h.df⟩
  | some d =>
    dsimp only at e
    cases hb : Nat.ble (d + 1) N with
    | false => rw [hb] at e; cases e
    | true =>
      rw [hb] at e
      injection e with e
      subst e
      obtain ⟨h1, h2⟩ := tm_put h.sz (fun t => (h.tm t).le l) (Nat.le_of_ble_eq_true hb) hv
      exact ⟨h1, h2, h.gr.le l, hw, h.df⟩

abbrev CallF := FuncId → Array Value → AW → Option (Value × AW)
def CallOk (P : Program) (gl : Nat) (call : CallF) : Prop := ∀ f args W v W1, call f args W = some (v, W1) → ∀ r args' w, VRs r args args' → GR gl r → WR P r W w →
  Calls P f args' w fun e w1 => ∃ r1 v', e = .returned v' ∧ VR r1 v v' ∧ WR P r1 W1 w1 ∧ Fr r W w r1 W1 w1
def appOf : Op → Option (Array TypeId × Operand × Operand)
  | .call { callee := .builtin .append, args := ⟨[s, x]⟩, argTypes } => some (argTypes, s, x)
  | _ => none
/-- One operation that is wanted. -/
def astep (E : Env) (call : CallF) (ev : Operand → Option Value) (o : Oper) (W : AW) : Option (Value × AW) :=
  match appOf o.op with
  | some (ts, s, x) => match ev s, ev x with
    | some s, some x => aappend E ts s x W
    | _, _ => none
  | none => match arun E.P (xop E ev o) W with
    | some (.value v, W1) => some (v, W1)
    | some (.skip, W1) => some (undef, W1)
    | some (.enter f args, W1) => call f args W1
    | _ => none
section
variable {E : Env} {gl : Nat}
theorem astep_R (ok : E.Ok) {call : CallF} (hcall : CallOk E.P gl call) {o : Oper} {ev : Operand → Option Value} {W W1 : AW} {v : Value} (e : astep E call ev o W = some (v, W1)) {r : Ren} {a : Act} {w : World} (tm : EvR r ev a.eval) (gr : GR gl r) (hw : WR E.P r W w)
    {K : Act → World → Prop} {Q : Exit → Act → World → Prop} (hK : ∀ r1 v' w1, VR r1 v v' → WR E.P r1 W1 w1 → Fr r W w r1 W1 w1 → K (a.put o.dst v') w1) : o.wp E.P a w K Q := by
  unfold astep at e
  split at e
  · rename_i ts s x happ
    split at e
    · rename_i s0 x0 hs hx
      unfold appOf at happ
      split at happ
      · rename_i s1 x1 ts1 hop
        injection happ with happ
        injection happ with e1 happ
        injection happ with e2 e3
        subst e1 e2 e3
        obtain ⟨r1, v', w1, h1, h2, h3, h4⟩ := aappend_R ok (tm _ _ hs) (tm _ _ hx) hw e o.type
        unfold Oper.wp
        have : (execOp a.eval o).run E.P w = .ok (.value v') w1 := by
          unfold execOp
          simp only [hop, resolve, invoke, builtin, Sem.run_bind, Sem.run_pure, Result.andThen_ok, List.map_toArray, List.map_cons, List.map_nil, h1]
        rw [this]
        exact hK r1 v' w1 h2 h3 h4
      · cases happ
    · cases e
  · split at e
    · rename_i v0 W0 hrun
      injection e with e
      injection e with e1 e2
      subst e1 e2
      obtain ⟨r1, n', w1, h1, h2, h3, h4⟩ := (xop_R ok tm o).run W w hw _ _ hrun
      cases h2 with
      | value hv =>
        unfold Oper.wp
        rw [h1]
        exact hK r1 _ w1 hv h3 h4
    · rename_i W0 hrun
      injection e with e
      injection e with e1 e2
      subst e1 e2
      obtain ⟨r1, n', w1, h1, h2, h3, h4⟩ := (xop_R ok tm o).run W w hw _ _ hrun
      cases h2
      unfold Oper.wp
      rw [h1]
      exact hK r1 _ w1 (VR.undef r1) h3 h4
    · rename_i f args W0 hrun
      obtain ⟨r1, n', w1, h1, h2, h3, h4⟩ := (xop_R ok tm o).run W w hw _ _ hrun
      cases h2 with
      | enter hargs =>
        unfold Oper.wp
        rw [h1]
        refine (hcall f args W0 v W1 e r1 _ w1 hargs (gr.le h4.le) h3).mono ?_
        rintro _ w2 ⟨r2, v', rfl, k1, k2, k3⟩
        exact hK r2 v' w2 k1 k2 (h4.trans k3)
    · cases e
def isB (want : Bool) : Value → Bool
  | .bool b => b == want
  | _ => false
/-- Is an operation wanted? -/
def wantedA (T : Tb Value) (N : Nat) (all : List Oper) (o : Oper) : Option Bool :=
  match o.guard with
  | none => some true
  | some (j, want) => match nthL all j with
    | some o' => match o'.dst with
      | some d => cond (Nat.ble (d + 1) N) (some (isB want (tv T d))) none
      | none => some false
    | none => some false
theorem wanted_R {r : Ren} {T : Tb Value} {a : Act} {N : Nat} {all : List Oper} {ops : Array Oper} {o : Oper} {b : Bool} (hall : all = ops.toList) (sz : a.tmps.size = N) (tm : ∀ t ∈ o.looksAt ops, VR r (tv T t) (a.tmps.getD t undef)) (e : wantedA T N all o = some b) :
    Region.wanted o (yielded ops a.tmps) = b := by
  subst hall
  unfold wantedA at e
  unfold Region.wanted
  cases hg : o.guard with
  | none =>
    rw [hg] at e
    injection e
  | some gw =>
    obtain ⟨j, want⟩ := gw
    rw [hg] at e
    dsimp only at e ⊢
    rw [nthL_eq] at e
    unfold yielded
    have ho : ops[j]? = ops.toList[j]? := by simp
    rw [ho]
    cases hj : ops.toList[j]? with
    | none =>
      rw [hj] at e
      injection e with e
    | some o' =>
      rw [hj] at e
      dsimp only at e
      rw [Option.bind_some]
      cases hd : o'.dst with
      | none =>
        rw [hd] at e
        injection e with e
      | some d =>
        rw [hd] at e
        dsimp only at e
        cases hb : Nat.ble (d + 1) N with
        | false => rw [hb] at e; cases e
        | true =>
          rw [hb] at e
          injection e with e
          have hlt : d < a.tmps.size := by rw [sz]; exact Nat.le_of_ble_eq_true hb
          have h1 := tm d (by
            unfold Oper.looksAt
            rw [List.mem_append]
            right
            rw [hg]
            dsimp only
            rw [ho, hj, Option.bind_some, hd]
            simp)
          rw [Option.bind_some, Array.getElem?_eq_getElem hlt]
          rw [Array.getD_eq_getD_getElem?, Array.getElem?_eq_getElem hlt, Option.getD_some] at h1
          generalize a.tmps[d] = q at h1
          generalize tv T d = p at h1 e
          cases h1 <;> (unfold isB at e; subst e) <;> first
            | rfl
            | (rename_i b0; cases b0 <;> cases want <;> rfl)
/-- Operations, one behind the other. -/
def aops (E : Env) (call : CallF) (gl N : Nat) (all : List Oper) : List Oper → Tb Value → AW → Option (Tb Value × AW)
  | [], T, W => some (T, W)
  | o :: l, T, W =>
    match wantedA T N all o with
    | some true => match astep E call (aev gl T) o W with
      | some (v, W1) => match putA N T o.dst v with
        | some T1 => aops E call gl N all l T1 W1
        | none => none
      | none => none
    | some false => match putA N T o.dst undef with
      | some T1 => aops E call gl N all l T1 W
      | none => none
    | none => none
theorem put_defers (a : Act) (d : Option Tmp) (v : Value) : (a.put d v).defers = a.defers := by cases d <;> rfl
theorem aops_R (ok : E.Ok) {call : CallF} (hcall : CallOk E.P gl call) {N : Nat} {ops : Array Oper} : ∀ (l : List Oper) (T : Tb Value) (W : AW) (T1 : Tb Value) (W1 : AW), aops E call gl N ops.toList l T W = some (T1, W1) →
    ∀ (r : Ren) (a : Act) (w : World) (Q : Exit → Act → World → Prop), SR E.P gl N r T a W w → (∀ r1 a1 w1, SR E.P gl N r1 T1 a1 W1 w1 → Fr r W w r1 W1 w1 → Q .normal a1 w1) → wpList E.P ops Q l a w
  | [], T, W, T1, W1, e, r, a, w, Q, h, hQ => by
    injection e with e
    injection e with e1 e2
    subst e1 e2
    exact hQ r a w h (Fr.refl _ _ _)
  | o :: l, T, W, T1, W1, e, r, a, w, Q, h, hQ => by
    simp only [aops] at e
    split at e
    · rename_i hwant
      split at e
      · rename_i v W2 hst
        split at e
        · rename_i T2 hput
          unfold wpList
          rw [if_pos (wanted_R rfl h.sz (fun t _ => h.tm t) hwant)]
          refine .inl (astep_R ok hcall hst (EvR.of h.tm h.gr) h.gr h.wr fun r1 v' w1 hv hw hf => ?_)
          exact aops_R ok hcall l T2 W2 T1 W1 e r1 _ w1 Q (h.put hf.le hw hv hput) fun r2 a2 w2 h2 hf2 => hQ r2 a2 w2 h2 (hf.trans hf2)
        · cases e
      · cases e
    · rename_i hwant
      split at e
      · rename_i T2 hput
        unfold wpList
        rw [if_neg (by rw [wanted_R rfl h.sz (fun t _ => h.tm t) hwant]; simp)]
        exact aops_R ok hcall l T2 W T1 W1 e r _ w Q (h.put (Ren.le_refl r) h.wr (VR.undef r) hput) hQ
      · cases e
    · cases e
end
end Go.Proofs.Ytkodblhompphjaa

namespace Go.Proofs.Ytkodblhompphjaa
open Go.RowKit

/-- A run that only reads. -/
def arunQ (P : Program) {α : Type} : Sem α → AW → Option α
  | .pure a, _ => some a
  | .load _ a k, W =>
    match a.spot, W.get a.block with
    | none, some (.cells c _ _, _) =>
      match nthL c.toList a.off with
      | some v => arunQ P (k v) W
      | none => none
    | _, _ => none
  | .shape b k, W =>
    match W.get b with
    | some (.cells c e _, false) => arunQ P (k (some (e, c.size))) W
    | some (.stringIter _ _, _) => arunQ P (k none) W
    | _ => none
  | .frozen a k, W =>
    match W.get a.block with
    | some (.cells _ _ (lo, hi), _) => arunQ P (k (decide (lo ≤ a.off) && decide (a.off < hi))) W
    | _ => none
  | .program k, W => arunQ P (k P) W
  | .mark _ k, W => arunQ P k W
  | _, _ => none
theorem arunQ_arun (P : Program) {α : Type} (s : Sem α) (W : AW) (a : α) (h : arunQ P s W = some a) : arun P s W = some (a, W) := by
  induction s with
  | pure b => simp only [arunQ, Option.some.injEq] at h; subst h; rfl
  | load m a k ih =>
    simp only [arunQ] at h
    simp only [arun]
    split at h
    · rename_i hsp hg
      split at h
      · rename_i hv
        simp only [hsp, hg, hv]
        exact ih _ h
      · cases h
    · cases h
  | shape b k ih =>
    simp only [arunQ] at h
    simp only [arun]
    split at h
    · rename_i hg
      simp only [hg]
      exact ih _ h
    · rename_i hg
      simp only [hg]
      exact ih _ h
    · cases h
  | frozen b k ih =>
    simp only [arunQ] at h
    simp only [arun]
    split at h
    · rename_i hg
      simp only [hg]
      exact ih _ h
    · cases h
  | program k ih => exact ih _ h
  | mark m k ih => exact ih h
  | _ => cases h
theorem SemR.runQ {P : Program} {α β : Type} {R : Ren → α → β → Prop} {r : Ren} {s : Sem α} {s' : Sem β} (h : SemR P R r s s') : ∀ (W : AW) (w : World), WR P r W w → ∀ (a : α), arunQ P s W = some a → ∃ b, s'.run P w = .ok b w ∧ R r a b := by
  induction h with
  | pure h =>
    intro W w hw a e
    simp only [arunQ, Option.some.injEq] at e
    subst e
    exact ⟨_, rfl, h⟩
  | @load r m a a' k k' ha _ ih =>
    intro W w hw x e
    obtain ⟨b', y, h1, rfl⟩ := ha
    obtain ⟨ab, ao, asp⟩ := a
    simp only [arunQ] at e
    split at e
    · rename_i c ce fz l hg
      simp only at hg h1
      rw [nthL_eq] at e
      split at e
      · rename_i v hv
        obtain ⟨o', h2, h3, _⟩ := hw.blk hg h1
        cases h3 with
        | cells h4 h5 =>
          obtain ⟨v', h6, h7⟩ := h5 ao v (by simpa using hv)
          obtain ⟨b, h8, h9⟩ := ih r v v' (Ren.le_refl r) h7 W w hw x e
          refine ⟨b, ?_, h9⟩
          simp only [Sem.run]
          rw [cell_of h2 h6]
          exact h8
      · cases e
    · cases e
  | store => intro W w hw x e; cases e
  | new => intro W w hw x e; cases e
  | @shape r b b' x k k' hb _ ih =>
    intro W w hw y e
    simp only [arunQ] at e
    split at e
    · rename_i c ce fz hg
      obtain ⟨o', h2, h3, h4⟩ := hw.blk hg hb
      have h0 := h4 rfl
      subst h0
      cases h3 with
      | @cells _ c' _ _ h5 _ =>
        obtain ⟨b, h8, h9⟩ := ih (some (ce, c.size)) W w hw y e
        refine ⟨b, ?_, h9⟩
        simp only [Sem.run, World.shape?, h2]
        rw [show c'.size = c.size by omega]
        exact h8
    · rename_i s p l hg
      obtain ⟨o', h2, h3, h4⟩ := hw.blk hg hb
      cases h3
      obtain ⟨b, h8, h9⟩ := ih none W w hw y e
      refine ⟨b, ?_, h9⟩
      simp only [Sem.run, World.shape?, h2]
      exact h8
    · cases e
  | @frozen r a a' k k' ha _ ih =>
    intro W w hw y e
    obtain ⟨b', z, h1, rfl⟩ := ha
    obtain ⟨ab, ao, asp⟩ := a
    simp only [arunQ] at e
    split at e
    · rename_i c ce lo hi l hg
      obtain ⟨o', h2, h3, _⟩ := hw.blk hg h1
      cases h3 with
      | @cells _ c' _ _ h5 _ =>
        obtain ⟨b, h8, h9⟩ := ih (decide (lo ≤ ao) && decide (ao < hi)) W w hw y e
        refine ⟨b, ?_, h9⟩
        simp only [Sem.run, World.frozen?, h2]
        exact h8
    · cases e
  | getObj => intro W w hw x e; cases e
  | setObj => intro W w hw x e; cases e
  | choose => intro W w hw x e; cases e
  | chooseNo => intro W w hw x e; cases e
  | program _ ih => intro W w hw y e; exact ih W w hw y e
  | mark _ ih => intro W w hw y e; exact ih W w hw y e
  | programR _ ih => intro W w hw y e; exact ih W w hw y e
  | markR _ ih => intro W w hw y e; exact ih W w hw y e
  | @apart r a a' b b' k s' ha hb hne _ ih =>
    intro W w hw y e
    obtain ⟨c1, z1, h1, rfl⟩ := ha
    obtain ⟨c2, z2, h2, rfl⟩ := hb
    simp only [arunQ] at e
    split at e
    · rename_i _ _ _ _ _ hg1
      split at e
      · rename_i _ _ _ _ _ hg2
        refine ih ?_ _ _ W w hw y e
        rintro he
        simp only at he
        subst he
        exact hne (hw.inj _ _ _ _ _ (by unfold AW.holds; rw [hg1]; simp) (by unfold AW.holds; rw [hg2]; simp) h1 h2)
      · cases e
    · cases e
  | @shapeL r b b' x k s' hb _ ih =>
    intro W w hw y e
    simp only [arunQ] at e
    split at e
    · rename_i c ce fz hg
      obtain ⟨o', h2, h3, h4⟩ := hw.blk hg hb
      exact ih _ (fun _ => h4 rfl) W w hw y e
    · exact ih none (fun h => by cases h) W w hw y e
    · cases e
  | dead h =>
    intro W w hw y e
    have := arunQ_arun P _ W y e
    rw [h] at this
    cases this
  | freezeNo => intro W w hw x e; cases e
  | sysNo => intro W w hw x e; cases e
  | halt => intro W w hw x e; cases e
def default_AW : AW := ⟨.e, 0, 0⟩
theorem SemR.pureInv {P : Program} {α β : Type} {R : Ren → α → β → Prop} {r : Ren} {s : Sem α} {s' : Sem β} (h : SemR P R r s s') : ∀ (a : α), s = .pure a → ∀ w : World, ∃ b, s'.run P w = .ok b w ∧ R r a b := by
  induction h with
  | pure h => intro a e w; injection e with e; subst e; exact ⟨_, rfl, h⟩
  | programR _ ih => intro a e w; exact ih a e w
  | markR _ ih => intro a e w; exact ih a e w
  | dead h => intro a e w; subst e; have := h default_AW; cases this
  | _ => intro a e; cases e
theorem SemR.newInv {P : Program} {α β : Type} {R : Ren → α → β → Prop} {r : Ren} {s : Sem α} {s' : Sem β} (h : SemR P R r s s') : ∀ (o : Obj) (k : Nat → Sem α), s = .new o k → ∀ (id : Nat) (a : α), k id = .pure a → r id = none → ∀ w : World,
    ∃ o' b, OR P r 0 o o' ∧ s'.run P w = .ok b { w with heap := w.heap.push o' } ∧ R (r.add id w.heap.size 0) a b := by
  induction h with
  | @new r o0 o' k0 k' h1 h2 _ =>
    intro o k e id a hk hr w
    injection e with e1 e2
    subst e1 e2
    have h3 := h2 (r.add id w.heap.size 0) id w.heap.size (Ren.le_add hr) (Ren.add_self _ _ _ _)
    obtain ⟨b, h4, h5⟩ := h3.pureInv a hk { w with heap := w.heap.push o' }
    exact ⟨o', b, h1, h4, h5⟩
  | programR _ ih => intro o k e id a hk hr w; exact ih o k e id a hk hr w
  | markR _ ih => intro o k e id a hk hr w; exact ih o k e id a hk hr w
  | dead h =>
    intro o k e id a hk hr w
    subst e
    have := h ⟨.e, id, 0⟩
    simp only [arun] at this
    rw [hk] at this
    cases this
  | _ => intro o k e; cases e

/-- Equality of values, as far as it is reckoned. -/
def veq1 : Value → Value → Bool
  | .bool a, .bool b => a == b
  | .int k a, .int j b => decide (k = j) && decide (a = b)
  | .float k a, .float j b => decide (k = j) && decide (a = b)
  | .complex k a c, .complex j b d => decide (k = j) && decide (a = b) && decide (c = d)
  | .string a, .string b => decide (a.data.toList = b.data.toList)
  | .pointer a, .pointer b => decide (a = b)
  | .slice a n c, .slice b m d => decide (a = b) && Nat.beq n m && Nat.beq c d
  | .map a, .map b => decide (a = b)
  | .nilFunc, .nilFunc => true
  | .nilIface, .nilIface => true
  | _, _ => false
theorem veq1_eq {a b : Value} (h : veq1 a b = true) : a = b := by
  unfold veq1 at h
  split at h <;> first | cases h; done | skip
  all_goals simp only [Bool.and_eq_true, decide_eq_true_eq, beq_iff_eq] at h
  · rw [h]
  · rw [h.1, h.2]
  · rw [h.1, h.2]
  · rw [h.1.1, h.1.2, h.2]
  · congr 1
    exact ByteArray.ext (Array.ext' h)
  · rw [h]
  · rw [h.1.1, Nat.eq_of_beq_eq_true h.1.2, Nat.eq_of_beq_eq_true h.2]
  · rw [h]
  · rfl
  · rfl
def veqL : List Value → List Value → Bool
  | [], [] => true
  | a :: l, b :: m => veq1 a b && veqL l m
  | _, _ => false
theorem veqL_eq : ∀ {l m : List Value}, veqL l m = true → l = m
  | [], [], _ => rfl
  | [], _ :: _, h => by cases h
  | _ :: _, [], h => by cases h
  | a :: l, b :: m, h => by
    simp only [veqL, Bool.and_eq_true] at h
    rw [veq1_eq h.1, veqL_eq h.2]
def veq : Value → Value → Bool
  | .agg ⟨a⟩, .agg ⟨b⟩ => veqL a b
  | .tuple ⟨a⟩, .tuple ⟨b⟩ => veqL a b
  | .func f ⟨a⟩ ⟨c⟩, .func g ⟨b⟩ ⟨d⟩ => decide (f = g) && veqL a b && veqL c d
  | .iface t a, .iface u b => Nat.beq t u && veq1 a b
  | a, b => veq1 a b
theorem veq_eq {a b : Value} (h : veq a b = true) : a = b := by
  unfold veq at h
  split at h
  · rw [veqL_eq h]
  · rw [veqL_eq h]
  · simp only [Bool.and_eq_true, decide_eq_true_eq] at h
    rw [h.1.1, veqL_eq h.1.2, veqL_eq h.2]
  · simp only [Bool.and_eq_true] at h
    rw [Nat.eq_of_beq_eq_true h.1, veq1_eq h.2]
  · exact veq1_eq h

/-- Who goes before: a bit for each. -/
def maskE (tb : Tb Nat) : List Edge → Nat
  | [] => 0
  | e :: l => cond (Region.binds .any e) (Nat.lor (Nat.lor (Nat.shiftLeft 1 e.on) (match tb.get e.on with | some m => m | none => 0)) (maskE tb l)) (maskE tb l)
def masks : List Oper → Nat → Tb Nat → List Nat
  | [], _, _ => []
  | o :: l, j, tb => maskE tb o.after.toList :: masks l (j + 1) (tb.set j (some (maskE tb o.after.toList)))
theorem maskE_spec {tb : Tb Nat} {i : Nat} : ∀ {l : List Edge}, Nat.testBit (maskE tb l) i = true → ∃ e ∈ l, Region.binds .any e = true ∧ (e.on = i ∨ ∃ m, tb.get e.on = some m ∧ Nat.testBit m i = true)
  | [], h => by simp [maskE] at h
  | e :: l, h => by
    simp only [maskE] at h
    cases hb : Region.binds .any e with
    | false =>
      rw [hb] at h
      obtain ⟨e', h1, h2⟩ := maskE_spec h
      exact ⟨e', List.mem_cons_of_mem _ h1, h2⟩
    | true =>
      rw [hb] at h
      simp only [cond_true] at h
      have h' : Nat.testBit ((1 <<< e.on ||| (match tb.get e.on with | some m => m | none => 0)) ||| maskE tb l) i = true := h
      rw [Nat.testBit_or, Nat.testBit_or] at h'
      simp only [Bool.or_eq_true] at h'
      rcases h' with (h1 | h1) | h1
      · refine ⟨e, List.mem_cons_self, hb, .inl ?_⟩
        rw [Nat.one_shiftLeft, Nat.testBit_two_pow] at h1
        exact of_decide_eq_true h1
      · refine ⟨e, List.mem_cons_self, hb, .inr ?_⟩
        cases hg : tb.get e.on with
        | none => rw [hg] at h1; simp at h1
        | some m => rw [hg] at h1; exact ⟨m, rfl, h1⟩
      · obtain ⟨e', h2, h3⟩ := maskE_spec h1
        exact ⟨e', List.mem_cons_of_mem _ h2, h3⟩
theorem masks_spec : ∀ {l : List Oper} {j : Nat} {tb : Tb Nat} {k i m : Nat} {o : Oper}, l[k]? = some o → (masks l j tb)[k]? = some m → Nat.testBit m i = true →
    ∃ e ∈ o.after.toList, Region.binds .any e = true ∧ (e.on = i ∨ ∃ m', Nat.testBit m' i = true ∧ (tb.get e.on = some m' ∨ ∃ k', e.on = j + k' ∧ (masks l j tb)[k']? = some m'))
  | [], j, tb, k, i, m, o, h, _, _ => by simp at h
  | o0 :: l, j, tb, 0, i, m, o, h, hm, hb => by
    simp only [masks, List.getElem?_cons_zero, Option.some.injEq] at h hm
    subst h hm
    obtain ⟨e, h1, h2, h3⟩ := maskE_spec hb
    refine ⟨e, h1, h2, ?_⟩
    rcases h3 with h3 | ⟨m', h3, h4⟩
    · exact .inl h3
    · exact .inr ⟨m', h4, .inl h3⟩
  | o0 :: l, j, tb, k + 1, i, m, o, h, hm, hb => by
    simp only [masks, List.getElem?_cons_succ] at h hm
    obtain ⟨e, h1, h2, h3⟩ := masks_spec h hm hb
    refine ⟨e, h1, h2, ?_⟩
    rcases h3 with h3 | ⟨m', h4, h5⟩
    · exact .inl h3
    · refine .inr ⟨m', h4, ?_⟩
      rcases h5 with h5 | ⟨k', h5, h6⟩
      · rw [Tb.get_set] at h5
        by_cases e1 : e.on = j
        · rw [if_pos e1] at h5
          injection h5 with h5
          exact .inr ⟨0, by omega, by simp [masks, h5]⟩
        · rw [if_neg e1] at h5
          exact .inl h5
      · exact .inr ⟨k' + 1, by omega, by simpa [masks] using h6⟩
theorem masks_length : ∀ (l : List Oper) (j : Nat) (tb : Tb Nat), (masks l j tb).length = l.length
  | [], _, _ => rfl
  | o :: l, j, tb => by simp [masks, masks_length l]
end Go.Proofs.Ytkodblhompphjaa
