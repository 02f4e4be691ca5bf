/- Running a program by reckoning, 18: a drawn region, in whatever order, comes to what was reckoned.
  Nothing here speaks of the program. -/
import Derived.Test.YtkodblhompphjaaVw
namespace Go.Proofs.Ytkodblhompphjaa
open Go.RowKit

theorem maskbit_lt {m j i : Nat} (h : m >>> j = 0) (hb : Nat.testBit m i = true) : i < j := by
  apply Nat.lt_of_not_le
  intro hle
  have : (m >>> j).testBit (i - j) = true := by
    rw [Nat.testBit_shiftRight, show j + (i - j) = i by omega]
    exact hb
  rw [h] at this
  simp at this

/-- What holds when those of D are done. -/
structure Inv (c : Cx) (T0 : Tb Value) (rs : List Rc) (r0 : Ren) (Ws : AW) (w0 : World) (D : Nat → Bool) (a : Act) (w : World) : Prop where
  sz : a.tmps.size = c.N
  df : a.defers = []
  down : ∀ j i, j < rs.length → D j = true → Nat.testBit (c.mk' j) i = true → D i = true
  ex : ∃ r newer older, hsOf rs = newer ++ older ∧ (∀ x ∈ newer, D x.1 = false) ∧ (∀ x ∈ older, D x.1 = true) ∧
    (∀ t, VR r (tvD c T0 D rs t) (a.tmps.getD t undef)) ∧ GR c.gl r ∧ WR c.E.P r (wAt c older D rs) w ∧
    Fr r0 Ws w0 r (wAt c older D rs) w ∧ (∀ i, i < rs.length → (alAt rs i = none ∨ D i = false) → r (c.base + i) = none) ∧
    (∀ i o l, i < rs.length → (wAt c older D rs).get (c.base + i) = some (o, l) → l = false) ∧
    c.base + rs.length ≤ (curW c.W0 older).next

section
variable {c : Cx} {T0 : Tb Value} {rs : List Rc} {Tf : Tb Value} {r0 : Ren} {Ws : AW} {w0 : World}
theorem step_one (ok : c.E.Ok) (hcall : CallOk c.E.P c.gl c.call) {ops : Array Oper} (hol : c.ol = ops.toList) (good : Good c T0 rs Tf) (hlen : rs.length = ops.size) (hdr : drawOk c.mk' c.ol c.ol 0 = true) (hqa : qall c rs rs = true)
    (hws : WR c.E.P r0 Ws w0) (hbase : c.base = Ws.next) (hroW : c.W0.ro = Ws.ro) {D : Nat → Bool} {a : Act} {w : World} (inv : Inv c T0 rs r0 Ws w0 D a w) {i : Nat} (hi : i < ops.size) (hDi : D i = false)
    (hpre : ∀ i', Nat.testBit (c.mk' i) i' = true → D i' = true) {K : Act → World → Prop} {Q : Exit → Act → World → Prop} (hK : ∀ a1 w1, Inv c T0 rs r0 Ws w0 (upd D i) a1 w1 → K a1 w1) : wpOp c.E.P ops Q i K a w := by
  obtain ⟨p, T, k, t, o, T', hrs, htl, ho, hgt, hkd, hput⟩ := good.sfx (j := i) (by omega)
  obtain ⟨isz, idf, idown, r, newer, older, hsp, hnew, hold, htm, hgr, hwr, hfr, hnone, htight, hnx⟩ := inv
  have ho' : ops[i]? = some o := by rw [hol] at ho; simpa using ho
  obtain ⟨dk1, dk2, dk3⟩ := drawOk_spec (j0 := 0) (i := i) hdr ho
  rw [Nat.zero_add] at dk1 dk2 dk3
  have hops : (⟨c.ol⟩ : Array Oper) = ops := by rw [hol]
  rw [hops] at dk2
  -- who writes what this one looks at stands before it, or behind
  have later : ∀ u, ordT c.mk' i u c.ol 0 = true → ∀ j, i < j → dstAt c j u = true → D j = false := fun u hu j hj hd => by
    unfold dstAt at hd
    cases hoj : c.ol[j]? with
    | none => rw [hoj] at hd; cases hd
    | some oj =>
      rw [hoj] at hd
      have := (ordT_spec (i0 := 0) (i := j) hu hoj hd (by omega)).2 (by omega)
      rw [Nat.zero_add] at this
      cases hDj : D j with
      | false => rfl
      | true =>
        have hjl : j < rs.length := by
          have h1 : j < c.ol.length := by
            apply Nat.lt_of_not_le
            intro hle
            rw [List.getElem?_eq_none hle] at hoj
            cases hoj
          rw [hol] at h1
          rw [hlen]
          simpa using h1
        have := idown j i hjl hDj this
        rw [hDi] at this
        cases this
  have earlier : ∀ u, ordT c.mk' i u c.ol 0 = true → ∀ j, j < i → dstAt c j u = true → D j = true := fun u hu j hj hd => by
    unfold dstAt at hd
    cases hoj : c.ol[j]? with
    | none => rw [hoj] at hd; cases hd
    | some oj =>
      rw [hoj] at hd
      have := (ordT_spec (i0 := 0) (i := j) hu hoj hd (by omega)).1 (by omega)
      rw [Nat.zero_add] at this
      exact hpre j this
  have hlook : ∀ u ∈ o.looksAt ops, VR r (tv T u) (a.tmps.getD u undef) := fun u hu => by
    obtain ⟨h1, h2⟩ := dk2 u hu
    have h3 := htm u
    have e1 : tvD c T0 D rs u = tvD c T0 D ((T, k) :: t) u := by
      rw [hrs]
      refine tvD_app fun j h4 h5 h6 => ?_
      simp only [List.length_cons] at h4
      exact later u h2 j (by omega) h6
    have e2 : tvD c T0 D ((T, k) :: t) u = tvD c T0 D t u := by
      simp only [tvD]
      rw [htl, hDi]
      rfl
    have e3 : tvD c T0 D t u = tvD c T0 (fun _ => true) t u := tvD_congr fun j h4 h5 => earlier u h2 j (by omega) h5
    rw [e1, e2, e3, ← hgt.tv u] at h3
    exact h3
  have hev : EvR r (evS c.gl T (o.looksAt ops)) a.eval := EvR.ofS hlook hgr
  have hxop : xop c.E (aev c.gl T) o = xop c.E (evS c.gl T (o.looksAt ops)) o := xop_congr o evS_eq
  -- the temporaries behind it
  have hpt : ∀ (s : Ren) (v' : Value), r.le s → VR s k.val v' → (a.put o.dst v').tmps.size = c.N ∧ ∀ u, VR s (tvD c T0 (upd D i) rs u) ((a.put o.dst v').tmps.getD u undef) := fun s v' l hv => by
    have hup : ∀ u, tvD c T0 (upd D i) rs u = cond (dstAt c i u) k.val (tvD c T0 D rs u) := fun u => by
      have := tvD_upd (c := c) (T0 := T0) (D := D) (p := p) (t := t) (T := T) (k := k) (u := u) (fun hd j hj hdj => by
        rw [htl] at hd hj
        unfold dstAt at hd
        rw [ho] at hd
        unfold dstIs at hd
        dsimp only at hd
        cases hdd : o.dst with
        | none => rw [hdd] at hd; cases hd
        | some d =>
          rw [hdd] at hd
          have := Nat.eq_of_beq_eq_true hd
          subst this
          exact later d (dk3 d hdd) j hj hdj)
      rw [htl, ← hrs] at this
      exact this
    unfold putA at hput
    cases hdd : o.dst with
    | none =>
      refine ⟨isz, fun u => ?_⟩
      rw [hup u]
      have : dstAt c i u = false := by
        unfold dstAt dstIs
        rw [ho]
        dsimp only
        rw [hdd]
      rw [this]
      exact (htm u).le l
    | some d =>
      rw [hdd] at hput
      dsimp only at hput
      cases hb : Nat.ble (d + 1) c.N with
      | false => rw [hb] at hput; cases hput
      | true =>
        have hdN : d < c.N := Nat.le_of_ble_eq_true hb
        refine ⟨by simp [Act.put, isz], fun u => ?_⟩
        rw [hup u]
        have hdu : dstAt c i u = Nat.beq d u := by
          unfold dstAt dstIs
          rw [ho]
          dsimp only
          rw [hdd]
        rw [hdu, beq_dec]
        by_cases e : d = u
        · subst e
          simp only [decide_true, cond_true]
          have : (a.put (some d) v').tmps.getD d undef = v' := by simp [Act.put, Array.getD_eq_getD_getElem?, isz, hdN]
          rw [this]
          exact hv
        · simp only [e, decide_false, cond_false]
          have : (a.put (some d) v').tmps.getD u undef = a.tmps.getD u undef := by
            simp [Act.put, Array.getD_eq_getD_getElem?, Array.getElem?_setIfInBounds_ne e]
          rw [this]
          exact (htm u).le l
  have hdown : ∀ j i', j < rs.length → upd D i j = true → Nat.testBit (c.mk' j) i' = true → upd D i i' = true := fun j i' hj h1 h2 => by
    by_cases e : j = i
    · subst e
      have := hpre i' h2
      simp [upd, this]
    · rw [upd_ne e] at h1
      have := idown j i' hj h1 h2
      simp [upd, this]
  have hall : alAt rs i = alK k := by
    rw [hrs]
    rw [alAt_app (s := (T, k) :: t) (by simp; omega)]
    simp only [alAt]
    rw [if_pos htl.symm]
  have hsall : stAt rs i = stK k := by
    rw [hrs]
    rw [stAt_app (s := (T, k) :: t) (by simp; omega)]
    simp only [stAt]
    rw [if_pos htl.symm]
  -- of every store: its check; and that no great one stands between
  have stores : ∀ j b us, stAt rs j = some (b, us) → ∃ t2, t2.length = j ∧ storeOk c (c.mk' j) t2 b us = true ∧ (∃ p2 T2, rs = p2 ++ (T2, .s b us) :: t2) := fun j b us hj => by
    have hjl : j < rs.length := by
      apply Nat.lt_of_not_le
      intro hle
      rw [stAt_ge hle] at hj
      cases hj
    obtain ⟨p2, T2, k2, t2, o2, T2', hrs2, htl2, ho2, _, hkd2, _⟩ := good.sfx (j := j) hjl
    have hk2 : stK k2 = some (b, us) := by
      rw [hrs2, stAt_app (s := (T2, k2) :: t2) (by simp; omega)] at hj
      simp only [stAt] at hj
      rwa [if_pos htl2.symm] at hj
    cases k2 with
    | s b2 us2 =>
      simp only [stK, Option.some.injEq, Prod.mk.injEq] at hk2
      obtain ⟨rfl, rfl⟩ := hk2
      refine ⟨t2, htl2, ?_, p2, T2, hrs2⟩
      rcases kdOf_spec hkd2 with ⟨_, h⟩ | ⟨_, ⟨_, _, h⟩ | ⟨_, _, _, _, _, h⟩ | ⟨_, h⟩ | ⟨b3, us3, _, h1, h⟩ | ⟨_, _, _, _, _, h⟩⟩
      · cases h
      · cases h
      · cases h
      · cases h
      · injection h with e1 e2
        subst e1 e2
        exact h1
      · cases h
    | _ => cases hk2
  have pend : ∀ j b us, stAt rs j = some (b, us) → D j = true → aft older j = true → ∃ t2, t2.length = j ∧ storeOk c (c.mk' j) t2 b us = true ∧ hsOf t2 = older ∧ (∀ i', i' < j → alAt rs i' = alAt t2 i') := fun j b us hj hDj haj => by
    obtain ⟨t2, htl2, hok, p2, T2, hrs2⟩ := stores j b us hj
    have hjl : j < rs.length := by rw [hrs2]; simp; omega
    refine ⟨t2, htl2, hok, ?_, fun i' hi' => ?_⟩
    · obtain ⟨X, hX1, hX2⟩ := hsOf_app (s := (T2, .s b us) :: t2) (p := p2)
      rw [← hrs2] at hX1
      have hX1 : hsOf rs = X ++ hsOf t2 := hX1
      simp only [storeOk, Bool.and_eq_true] at hok
      have hh := hok.1.2
      rw [List.all_eq_true] at hh
      refine ((split_at (D := D) (by rw [← hsp, hX1]) hnew hold (fun x hx hxo => ?_) (fun x hx => idown j x.1 hjl hDj (hh x hx))).2).symm
      have h1 := hX2 x hx
      simp only [List.length_cons] at h1
      cases older with
      | nil => cases hxo
      | cons z older' =>
        obtain ⟨zh, zW⟩ := z
        have h2 : zh + 1 ≤ j := Nat.le_of_ble_eq_true haj
        have h3 : x.1 ≤ zh := by
          rcases List.mem_cons.1 hxo with rfl | hxo'
          · exact Nat.le_refl _
          · have hsd := hsOf_sorted rs
            rw [hsp, List.pairwise_append] at hsd
            have := (List.pairwise_cons.1 hsd.2.1).1 x hxo'
            exact Nat.le_of_lt this
        omega
    · rw [hrs2, alAt_app (s := (T2, .s b us) :: t2) (by simp; omega)]
      simp only [alAt]
      rw [if_neg (by omega)]
  -- the world is as it was, and this one has made nothing
  have quiet : (∀ x ∈ hsOf rs, x.1 ≠ i) → alK k = none → stK k = none → ∀ v', VR r k.val v' → Inv c T0 rs r0 Ws w0 (upd D i) (a.put o.dst v') w := fun hnh hna hns v' hv => by
    obtain ⟨s1, s2⟩ := hpt r v' (Ren.le_refl r) hv
    have hg : ∀ q, (wAt c older (upd D i) rs).get q = (wAt c older D rs).get q := fun q => by
      rw [get_wAt, get_wAt]
      have e1 : (addR (curW c.W0 older) c.base (upd D i) rs).get q = (addR (curW c.W0 older) c.base D rs).get q := by
        rw [get_addR, get_addR]
        cases (curW c.W0 older).get q with
        | some x => rfl
        | none =>
          dsimp only
          by_cases e : q - c.base = i
          · rw [e, hall, hna]
            simp
          · rw [upd_ne e]
      rw [e1]
      cases (addR (curW c.W0 older) c.base D rs).get q with
      | none => rfl
      | some x =>
        simp only [Option.map_some]
        rw [stO_congr (D := fun j => upd D i j && aft older j) (D' := fun j => D j && aft older j) fun j b us _ hj _ => by
          have hji : j ≠ i := fun e => by rw [e, hsall, hns] at hj; cases hj
          simp only [upd_ne hji]]
    have hn1 := wAt_next c older (upd D i) rs
    have hn2 := wAt_next c older D rs
    refine ⟨s1, by rw [put_defers]; exact idf, hdown, r, newer, older, hsp, fun x hx => ?_, fun x hx => ?_, s2, hgr, hwr.congr hg (hn1.1.trans hn2.1.symm), hfr.congr hg (hn1.1.trans hn2.1.symm) (hn1.2.trans hn2.2.symm), fun j hj h => ?_, fun j ob l hj h => htight j ob l hj ((hg _).symm.trans h), hnx⟩
    · rw [upd_ne (hnh x (by rw [hsp]; exact List.mem_append_left _ hx))]
      exact hnew x hx
    · rw [upd_ne (hnh x (by rw [hsp]; exact List.mem_append_right _ hx))]
      exact hold x hx
    · refine hnone j hj ?_
      rcases h with h | h
      · exact .inl h
      · by_cases e : j = i
        · subst e
          exact .inl (hall.trans hna)
        · rw [upd_ne e] at h
          exact .inr h
  have notH : (∀ v W1, k ≠ .h v W1) → ∀ x ∈ hsOf rs, x.1 ≠ i := fun hk x hx e => by
    obtain ⟨X, h1, h2⟩ := hsOf_app (s := (T, k) :: t) (p := p)
    rw [hrs, h1] at hx
    rcases List.mem_append.1 hx with hx | hx
    · have := h2 x hx
      simp only [List.length_cons] at this
      omega
    · have hx' : x ∈ hsOf t := by
        cases k with
        | h v W1 => exact absurd rfl (hk v W1)
        | p v => exact hx
        | a ob v => exact hx
        | q v => exact hx
        | s b us => exact hx
      have := hsOf_lt hx'
      omega
  unfold wpOp
  rw [ho']
  dsimp only
  rcases kdOf_spec hkd with ⟨hw, rfl⟩ | ⟨hw, hcase⟩
  · have hwant := wanted_R (ops := ops) hol isz hlook hw
    rw [if_neg (by rw [hwant]; simp)]
    exact hK _ _ (quiet (notH fun v W1 h => by cases h) rfl rfl undef (VR.undef r))
  · have hwant := wanted_R (ops := ops) hol isz hlook hw
    rw [if_pos hwant]
    refine .inl ?_
    rcases hcase with ⟨v, hx, rfl⟩ | ⟨ob, f, v, hx, hf, rfl⟩ | ⟨v, rfl⟩ | ⟨ad, vs, hx, hsok, rfl⟩ | ⟨v, W1, hst, hhs, hss, rfl⟩
    · -- a value
      rw [hxop] at hx
      obtain ⟨n', h1, h2⟩ := (xop_R ok hev o).pureInv _ hx w
      cases h2 with
      | value hv =>
        unfold Oper.wp
        rw [h1]
        exact hK _ _ (quiet (notH fun v W1 h => by cases h) rfl rfl _ hv)
    · -- memory made
      rw [hxop] at hx
      rw [htl] at hf
      have hri : r (c.base + i) = none := hnone i (by omega) (.inr hDi)
      obtain ⟨ob', n', h0, h1, h2⟩ := (xop_R ok hev o).newInv ob f hx (c.base + i) _ hf hri w
      cases h2 with
      | value hv =>
        unfold Oper.wp
        rw [h1]
        refine hK _ _ ?_
        obtain ⟨s1, s2⟩ := hpt (r.add (c.base + i) w.heap.size 0) _ (Ren.le_add hri) hv
        have hal : alAt rs i = some ob := hall
        have hcur : (curW c.W0 older).get (c.base + i) = none := by
          cases e : (curW c.W0 older).get (c.base + i) with
          | none => rfl
          | some q =>
            obtain ⟨o2, l2⟩ := q
            have : ∃ o3, (wAt c older D rs).get (c.base + i) = some (o3, l2) := by rw [get_wAt, get_addR, e]; exact ⟨_, rfl⟩
            obtain ⟨o3, this⟩ := this
            obtain ⟨b, x, _, h4, _⟩ := hwr.live _ _ _ this
            rw [hri] at h4
            cases h4
        have nos : ∀ j b us, stAt rs j = some (b, us) → D j = true → aft older j = true → b.block = c.base + i → False := fun j b us hj hDj haj hbl => by
          obtain ⟨t2, htl2, hok2, hold2, hal2⟩ := pend j b us hj hDj haj
          simp only [storeOk, Bool.and_eq_true] at hok2
          have hg2 := hok2.1.1.1.1.1
          rw [hold2, get_wAt, get_addR, hbl, hcur] at hg2
          dsimp only at hg2
          split at hg2
          · rename_i cs e2 l2 hx2
            split at hx2
            · rename_i h5
              rw [show c.base + i - c.base = i by omega] at h5
              have hjl : j < rs.length := by
                apply Nat.lt_of_not_le
                intro hle
                rw [stAt_ge hle] at hj
                cases hj
              have := idown j i hjl hDj h5.2
              rw [hDi] at this
              cases this
            · cases hx2
          · cases hg2
        have hg : ∀ q, (wAt c older (upd D i) rs).get q = ((wAt c older D rs).set (c.base + i) (some (ob, false))).get q := fun q => by
          have hso : ∀ x, stO (fun j => upd D i j && aft older j) rs q x = stO (fun j => D j && aft older j) rs q x := fun x => stO_congr fun j b us _ hj _ => by
            have hji : j ≠ i := fun e => by rw [e, hsall] at hj; cases hj
            simp only [upd_ne hji]
          rw [AW.get_set, get_wAt, get_wAt]
          by_cases e : q = c.base + i
          · subst e
            rw [if_pos rfl, get_addR, hcur]
            simp only [upd_self, hal, show c.base + i - c.base = i by omega, Nat.le_add_right, and_self, if_true, Option.map_some]
            rw [hso, stO_none fun j b us _ hj hb => by
              cases h6 : (D j && aft older j) with
              | false => rfl
              | true =>
                rw [Bool.and_eq_true] at h6
                exact (nos j b us hj h6.1 h6.2 hb).elim]
          · rw [if_neg e]
            have e1 : (addR (curW c.W0 older) c.base (upd D i) rs).get q = (addR (curW c.W0 older) c.base D rs).get q := by
              rw [get_addR, get_addR]
              cases (curW c.W0 older).get q with
              | some x => rfl
              | none =>
                dsimp only
                by_cases hb : c.base ≤ q
                · rw [upd_ne (show q - c.base ≠ i by omega)]
                · simp [hb]
            rw [e1]
            congr 1
            funext x
            rw [hso]
        have hn1 := wAt_next c older (upd D i) rs
        have hn2 := wAt_next c older D rs
        have hge : c.base + i < (wAt c older D rs).next := by rw [hn2.1]; omega
        have hnh := notH (fun v W1 h => by cases h)
        refine ⟨s1, by rw [put_defers]; exact idf, hdown, _, newer, older, hsp, fun x hx => ?_, fun x hx => ?_, s2, hgr.le (Ren.le_add hri), (hwr.newAt hri hge h0).congr hg (hn1.1.trans hn2.1.symm), (hfr.newAt hri (by omega) hws ob ob').congr hg (hn1.1.trans hn2.1.symm) (hn1.2.trans hn2.2.symm), fun j hj h => ?_, fun j o2 l hj h => ?_, hnx⟩
        · rw [upd_ne (hnh x (by rw [hsp]; exact List.mem_append_left _ hx))]
          exact hnew x hx
        · rw [upd_ne (hnh x (by rw [hsp]; exact List.mem_append_right _ hx))]
          exact hold x hx
        · by_cases e : j = i
          · subst e
            rcases h with h | h
            · rw [hal] at h; cases h
            · rw [upd_self] at h; cases h
          · rw [Ren.add_ne _ (show c.base + j ≠ c.base + i by omega)]
            refine hnone j hj ?_
            rw [upd_ne e] at h
            exact h
        · rw [hg, AW.get_set] at h
          by_cases e : j = i
          · subst e
            rw [if_pos rfl] at h
            injection h with h
            injection h with _ h
            exact h.symm
          · rw [if_neg (show ¬ c.base + j = c.base + i by omega)] at h
            exact htight j o2 l hj h
    · -- something read
      have hqw := qall_spec (c := c) (full := rs) (T := T) (v := v) (t := t) (p := p) (by rw [htl]; exact ho) (by rw [← hrs]; exact hqa)
      rw [htl, hsp] at hqw
      have hqat := qwin_spec (older := older) (newer := newer) (fun x hx => ?_) (fun x hx => ?_) hqw
      rotate_left
      · cases hb : Nat.testBit (c.mk' x.1) i with
        | false => rfl
        | true =>
          have h1 := idown x.1 i (hsOf_lt (by rw [hsp]; exact List.mem_append_right _ hx)) (hold x hx) hb
          rw [hDi] at h1
          cases h1
      · cases hb : Nat.testBit (c.mk' i) x.1 with
        | false => rfl
        | true =>
          have h1 := hpre x.1 hb
          rw [hnew x hx] at h1
          cases h1
      unfold qat at hqat
      split at hqat
      · rename_i v2 hv2
        have := veq_eq hqat
        subst this
        rw [hxop] at hv2
        have hsub : WR c.E.P r (poi c.mk' i (wAt c older (Nat.testBit (c.mk' i)) rs) (stsOf rs)) w := by
          refine hwr.sub (fun q x hq => ?_) ((poi_next _ _ _ _).trans ((wAt_next _ _ _ _).1.trans (wAt_next _ _ _ _).1.symm))
          obtain ⟨hq, hpo⟩ := poi_get hq
          have hso : ∀ x, stO (fun j => Nat.testBit (c.mk' i) j && aft older j) rs q x = stO (fun j => D j && aft older j) rs q x := fun x => stO_congr fun j b us hjl hj hb => by
            have h7 : Nat.testBit (c.mk' i) j = D j := by
              cases h8 : Nat.testBit (c.mk' i) j with
              | true => exact (hpre j h8).symm
              | false =>
                rcases hpo _ (stsOf_mem hj) hb with h9 | h9
                · simp only at h9
                  rw [h8] at h9
                  cases h9
                · cases h10 : D j with
                  | false => rfl
                  | true =>
                    have := idown j i hjl h10 h9
                    rw [hDi] at this
                    cases this
            simp only [h7]
          rw [get_wAt, get_addR] at hq ⊢
          cases e : (curW c.W0 older).get q with
          | some y =>
            rw [e] at hq
            simp only [Option.map_some] at hq ⊢
            rw [← hso]
            exact hq
          | none =>
            rw [e] at hq
            dsimp only at hq ⊢
            split at hq
            · rename_i h1
              rw [if_pos ⟨h1.1, hpre _ h1.2⟩]
              cases h5 : alAt rs (q - c.base) with
              | none => rw [h5] at hq; cases hq
              | some ob =>
                rw [h5] at hq
                simp only [Option.map_some] at hq ⊢
                rw [← hso]
                exact hq
            · cases hq
        obtain ⟨n', h1, h2⟩ := (xop_R ok hev o).runQ _ w hsub _ hv2
        cases h2 with
        | value hv =>
          unfold Oper.wp
          rw [h1]
          exact hK _ _ (quiet (notH fun v W1 h => by cases h) rfl rfl _ hv)
      · cases hqat
    · -- cells stored
      have hst : stAt rs i = some (ad, vs) := hsall
      obtain ⟨X, hX1, hX2⟩ := hsOf_app (s := (T, .s ad vs) :: t) (p := p)
      rw [← hrs] at hX1
      have hX1 : hsOf rs = X ++ hsOf t := hX1
      have hsok' := hsok
      simp only [storeOk, Bool.and_eq_true] at hsok'
      obtain ⟨⟨⟨⟨⟨k1, k2⟩, k3⟩, k4⟩, k5⟩, k6⟩ := hsok'
      rw [List.all_eq_true] at k5 k6
      have holder : older = hsOf t := by
        refine ((split_at (D := D) (by rw [← hsp, hX1]) hnew hold (fun x hx hxo => ?_) (fun x hx => hpre x.1 (k5 x hx))).2)
        have h1 := hX2 x hx
        simp only [List.length_cons] at h1
        have hDx := hold x hxo
        have hxl := hsOf_lt (show x ∈ hsOf rs by rw [hX1]; exact List.mem_append_left _ hx)
        -- a great one behind this store stands behind it
        obtain ⟨p2, T2, kk2, t2, o2, T2', hrs2, htl2, ho2, _, hkd2, _⟩ := good.sfx (j := x.1) hxl
        have hkh : ∃ v W, kk2 = .h v W := by
          obtain ⟨X2, hY1, hY2⟩ := hsOf_app (s := (T2, kk2) :: t2) (p := p2)
          rw [← hrs2] at hY1
          have hxin : x ∈ hsOf rs := by rw [hX1]; exact List.mem_append_left _ hx
          rw [hY1] at hxin
          rcases List.mem_append.1 hxin with hxin | hxin
          · have := hY2 x hxin
            simp only [List.length_cons] at this
            omega
          · cases kk2 with
            | h v W => exact ⟨v, W, rfl⟩
            | p v => have := hsOf_lt (rs := t2) hxin; omega
            | a ob v => have := hsOf_lt (rs := t2) hxin; omega
            | q v => have := hsOf_lt (rs := t2) hxin; omega
            | s b us => have := hsOf_lt (rs := t2) hxin; omega
        obtain ⟨v, W, rfl⟩ := hkh
        rcases kdOf_spec hkd2 with ⟨_, h⟩ | ⟨_, ⟨_, _, h⟩ | ⟨_, _, _, _, _, h⟩ | ⟨_, h⟩ | ⟨_, _, _, _, h⟩ | ⟨_, _, _, _, hss2, _⟩⟩
        · cases h
        · cases h
        · cases h
        · cases h
        · cases h
        · have hmem : (i, ad, vs.length) ∈ stsOf t2 := by
            refine stsOf_mem ?_
            have := hst
            rw [hrs2, stAt_app (s := (T2, .h v W) :: t2) (by simp; omega)] at this
            simp only [stAt] at this
            rwa [if_neg (by omega)] at this
          have := idown x.1 i hxl hDx (hss2 _ hmem).1
          rw [hDi] at this
          cases this
      subst holder
      have hafti : aft (hsOf t) i = true := by
        cases h9 : hsOf t with
        | nil => rfl
        | cons z l =>
          obtain ⟨zh, zW⟩ := z
          have := hsOf_lt (rs := t) (x := (zh, zW)) (by rw [h9]; exact List.mem_cons_self)
          exact Nat.ble_eq_true_of_le (by simp only at this; omega)
      -- the block there
      have hblk : ∃ cs e2 l2, (wAt c (hsOf t) D rs).get ad.block = some (.cells cs e2 (0, 0), l2) ∧ ad.off + 0 + vs.length ≤ cs.size := by
        split at k1
        · rename_i cs e2 l2 hx2
          have hk1 := Nat.le_of_ble_eq_true k1
          rw [get_wAt] at hx2
          cases h5 : (addR (curW c.W0 (hsOf t)) c.base (Nat.testBit (c.mk' i)) t).get ad.block with
          | none => rw [h5] at hx2; cases hx2
          | some y =>
            obtain ⟨o0, l0⟩ := y
            rw [h5] at hx2
            simp only [Option.map_some, Option.some.injEq, Prod.mk.injEq] at hx2
            obtain ⟨hx2, rfl⟩ := hx2
            obtain ⟨c0, rfl, hc0⟩ := stO_cells hx2
            have h6 : (addR (curW c.W0 (hsOf t)) c.base D rs).get ad.block = some (.cells c0 e2 (0, 0), l0) := by
              rw [get_addR] at h5 ⊢
              cases e : (curW c.W0 (hsOf t)).get ad.block with
              | some y => rw [e] at h5; exact h5
              | none =>
                rw [e] at h5
                dsimp only at h5 ⊢
                split at h5
                · rename_i h1
                  rw [if_pos ⟨h1.1, hpre _ h1.2⟩]
                  have hlt := maskbit_lt dk1 h1.2
                  have : alAt rs (ad.block - c.base) = alAt t (ad.block - c.base) := by
                    rw [hrs]
                    rw [alAt_app (s := (T, .s ad vs) :: t) (by simp; omega)]
                    simp only [alAt]
                    rw [if_neg (by omega)]
                  rw [this]
                  exact h5
                · cases h5
            obtain ⟨c1, h7, h8⟩ := stO_shape (D := fun j => D j && aft (hsOf t) j) (k := ad.block) (rs := rs) (c := c0) (e := e2) (fz := (0, 0))
            refine ⟨c1, e2, l0, ?_, ?_⟩
            · rw [get_wAt, h6]
              simp only [Option.map_some, h7]
            · simp only [Array.length_toList] at hk1
              omega
        · cases k1
      obtain ⟨cs, e2, l2, hgB, hlen2⟩ := hblk
      have hro : (wAt c (hsOf t) D rs).ro ≤ ad.block := by
        have e1 := hfr.ro
        have e3 := Nat.le_of_ble_eq_true k3
        rw [e1]
        rw [hroW] at e3
        exact e3
      obtain ⟨W', hW1, hW2, hW3, hW4⟩ := arun_stores c.E.P vs 0 (wAt c (hsOf t) D rs) ad cs e2 l2 (by simpa using k2) hgB hro hlen2 k4
      rw [hxop] at hx
      have hrunx : arun c.E.P (xop c.E (evS c.gl T (o.looksAt ops)) o) (wAt c (hsOf t) D rs) = some (.skip, W') := by
        rw [hx]
        unfold uN
        rw [arun_bind, hW1]
        rfl
      obtain ⟨r1, n', w1, h1, h2, hwa, hf⟩ := (xop_R ok hev o).run _ w hwr _ _ hrunx
      cases h2
      unfold Oper.wp
      rw [h1]
      refine hK _ _ ?_
      obtain ⟨s1, s2⟩ := hpt r1 undef hf.le (VR.undef r1)
      have hal : alAt rs i = none := hall
      have hg : ∀ q, (wAt c (hsOf t) (upd D i) rs).get q = W'.get q := fun q => by
        rw [hW2, get_wAt]
        have e1 : (addR (curW c.W0 (hsOf t)) c.base (upd D i) rs).get q = (addR (curW c.W0 (hsOf t)) c.base D rs).get q := by
          rw [get_addR, get_addR]
          cases (curW c.W0 (hsOf t)).get q with
          | some x => rfl
          | none =>
            dsimp only
            by_cases e : q - c.base = i
            · rw [e, hal]
              simp
            · rw [upd_ne e]
        rw [e1]
        have e3 : ∀ x, stO (fun j => upd D i j && aft (hsOf t) j) rs q x = if q = ad.block then putO (stO (fun j => D j && aft (hsOf t) j) rs q x) ad.off vs else stO (fun j => D j && aft (hsOf t) j) rs q x := fun x => by
          rw [hrs]
          refine stO_upd (D := fun j => D j && aft (hsOf t) j) (D' := fun j => upd D i j && aft (hsOf t) j) (by rw [htl, hDi]; rfl) (by rw [htl]; simp only [upd_self, Bool.true_and]; exact hafti) (fun j hj => by rw [htl] at hj; simp only [upd_ne hj]) fun j b us hj hsj hDj hbb => ?_
          rw [htl] at hj
          rw [← hrs] at hsj
          obtain ⟨t2, htl2, hok2, p2, T2, hrs2⟩ := stores j b us hsj
          rw [Bool.and_eq_true] at hDj
          simp only [storeOk, Bool.and_eq_true] at hok2
          have h10 := hok2.2
          rw [List.all_eq_true] at h10
          have hmem : (i, ad, vs.length) ∈ stsOf t2 := by
            refine stsOf_mem ?_
            have := hst
            rw [hrs2, stAt_app (s := (T2, .s b us) :: t2) (by simp; omega)] at this
            simp only [stAt] at this
            rwa [if_neg (by omega)] at this
          have h11 := h10 _ hmem
          simp only [Bool.or_eq_true] at h11
          have hjl : j < rs.length := by rw [hrs2]; simp; omega
          rcases h11 with h11 | h11
          · have := idown j i hjl hDj.1 h11
            rw [hDi] at this
            cases this
          · simp only [farFrom, Bool.or_eq_true, Bool.not_eq_true'] at h11
            rcases h11 with (h11 | h11) | h11
            · exact absurd hbb (Nat.ne_of_beq_eq_false h11)
            · exact .inl (Nat.le_of_ble_eq_true h11)
            · exact .inr (Nat.le_of_ble_eq_true h11)
        by_cases e : q = ad.block
        · subst e
          rw [if_pos rfl]
          have h5 := hgB
          rw [get_wAt] at h5
          cases h6 : (addR (curW c.W0 (hsOf t)) c.base D rs).get ad.block with
          | none => rw [h6] at h5; cases h5
          | some y =>
            rw [h6] at h5
            simp only [Option.map_some, Option.some.injEq, Prod.mk.injEq] at h5 ⊢
            rw [e3, if_pos rfl, h5.1]
            exact ⟨by simp [putO], h5.2⟩
        · rw [if_neg e, get_wAt]
          congr 1
          funext x
          rw [e3, if_neg e]
      have hn1 := wAt_next c (hsOf t) (upd D i) rs
      have hn2 := wAt_next c (hsOf t) D rs
      have hnh := notH (fun v W1 h => by cases h)
      have hWn : (wAt c (hsOf t) (upd D i) rs).next = W'.next := by rw [hW3, hn1.1, hn2.1]
      have hWr : (wAt c (hsOf t) (upd D i) rs).ro = W'.ro := by rw [hW4, hn1.2, hn2.2]
      refine ⟨s1, by rw [put_defers]; exact idf, hdown, r1, newer, hsOf t, hsp, fun x hx => ?_, fun x hx => ?_, s2, hgr.le hf.le, hwa.congr hg hWn, (hfr.trans hf).congr hg hWn hWr, fun j hj h => ?_, fun j o2 l hj h => ?_, hnx⟩
      · rw [upd_ne (hnh x (by rw [hsp]; exact List.mem_append_left _ hx))]
        exact hnew x hx
      · rw [upd_ne (hnh x (by rw [hsp]; exact List.mem_append_right _ hx))]
        exact hold x hx
      · refine hf.fresh _ (by rw [hn2.1]; omega) (hnone j hj ?_)
        rcases h with h | h
        · exact .inl h
        · by_cases e : j = i
          · subst e
            exact .inl hal
          · rw [upd_ne e] at h
            exact .inr h
      · rw [hg, hW2] at h
        by_cases e : c.base + j = ad.block
        · rw [if_pos e] at h
          injection h with h
          injection h with _ h
          subst h
          rw [← e] at hgB
          exact htight j _ _ hj hgB
        · rw [if_neg e] at h
          exact htight j o2 l hj h
    · -- all else
      obtain ⟨X, hX1, hX2⟩ := hsOf_app (s := (T, .h v W1) :: t) (p := p)
      rw [← hrs] at hX1
      simp only [hsOf] at hX1
      rw [htl] at hX1
      have holder : newer = X ++ [(i, W1)] ∧ older = hsOf t := by
        have e1 : newer ++ older = X ++ ((i, W1) :: hsOf t) := by rw [← hsp, hX1]
        have hin : ∀ x ∈ hsOf t, D x.1 = true := fun x hx => hpre x.1 (by have := hhs x hx; exact this)
        -- split where D begins
        have key : ∀ (nw od X2 Y : List (Nat × AW)) (z : Nat × AW), nw ++ od = X2 ++ (z :: Y) → (∀ x ∈ nw, D x.1 = false) → (∀ x ∈ od, D x.1 = true) → D z.1 = false → (∀ x ∈ Y, D x.1 = true) → nw = X2 ++ [z] ∧ od = Y := by
          intro nw
          induction nw with
          | nil =>
            intro od X2 Y z h1 h2 h3 h4 h5
            rw [List.nil_append] at h1
            have := h3 z (by rw [h1]; simp)
            rw [h4] at this
            cases this
          | cons y nw ih =>
            intro od X2 Y z h1 h2 h3 h4 h5
            cases X2 with
            | nil =>
              simp only [List.cons_append, List.nil_append, List.cons.injEq] at h1
              obtain ⟨rfl, h1⟩ := h1
              cases nw with
              | nil => exact ⟨rfl, by simpa using h1⟩
              | cons u nw =>
                have h6 := h2 u (by simp)
                have h7 := h5 u (by rw [← h1]; simp)
                rw [h6] at h7
                cases h7
            | cons u X2 =>
              simp only [List.cons_append, List.cons.injEq] at h1
              obtain ⟨rfl, h1⟩ := h1
              obtain ⟨k1, k2⟩ := ih od X2 Y z h1 (fun x hx => h2 x (List.mem_cons_of_mem _ hx)) h3 h4 h5
              exact ⟨by rw [k1]; rfl, k2⟩
        exact key newer older X (hsOf t) (i, W1) e1 hnew hold hDi hin
      obtain ⟨hnw, rfl⟩ := holder
      -- the stores of D stand before it
      have late : ∀ j b us, i < j → stAt rs j = some (b, us) → D j = false := fun j b us hj hsj => by
        obtain ⟨t2, htl2, hok2, p2, T2, hrs2⟩ := stores j b us hsj
        have hjl : j < rs.length := by rw [hrs2]; simp; omega
        cases h10 : D j with
        | false => rfl
        | true =>
          simp only [storeOk, Bool.and_eq_true] at hok2
          have h9 := hok2.1.2
          rw [List.all_eq_true] at h9
          have hmem : (i, W1) ∈ hsOf t2 := by
            have h11 : (i, W1) ∈ hsOf rs := by rw [hX1]; exact List.mem_append_right _ List.mem_cons_self
            obtain ⟨X2, hY1, hY2⟩ := hsOf_app (s := (T2, .s b us) :: t2) (p := p2)
            rw [← hrs2] at hY1
            have hY1 : hsOf rs = X2 ++ hsOf t2 := hY1
            rw [hY1] at h11
            rcases List.mem_append.1 h11 with h11 | h11
            · have := hY2 _ h11
              simp only [List.length_cons] at this
              omega
            · exact h11
          have := idown j i hjl h10 (h9 _ hmem)
          rw [hDi] at this
          cases this
      have early : ∀ j b us, j < i → stAt rs j = some (b, us) → Nat.testBit (c.mk' i) j = true ∧ Nat.lor (c.mk' j) (c.mk' i) = c.mk' i := fun j b us hj hsj => by
        have hmem : (j, b, us.length) ∈ stsOf t := by
          refine stsOf_mem ?_
          rw [hrs, stAt_app (s := (T, .h v W1) :: t) (by simp; omega)] at hsj
          simp only [stAt] at hsj
          rwa [if_neg (by omega)] at hsj
        exact hss _ hmem
      have hstO : ∀ q x, stO (fun j => Nat.testBit (c.mk' i) j && aft (hsOf t) j) t q x = stO (fun j => D j && aft (hsOf t) j) rs q x := fun q x => by
        rw [hrs, stO_app (s := (T, .h v W1) :: t) fun j b us hj hsj => by
          simp only [List.length_cons] at hj
          rw [← hrs] at hsj
          rw [late j b us (by omega) hsj]
          rfl]
        show _ = stO (fun j => D j && aft (hsOf t) j) t q x
        refine stO_congr fun j b us hj hsj _ => ?_
        have hsj' : stAt rs j = some (b, us) := by
          rw [hrs, stAt_app (s := (T, .h v W1) :: t) (by simp; omega)]
          simp only [stAt]
          rwa [if_neg (by omega)]
        obtain ⟨h12, _⟩ := early j b us (by omega) hsj'
        rw [h12, hpre j h12]
      have hsubg : ∀ q x, (wAt c (hsOf t) (Nat.testBit (c.mk' i)) t).get q = some x → (wAt c (hsOf t) D rs).get q = some x := fun q x hq => by
        rw [get_wAt, get_addR] at hq ⊢
        cases e : (curW c.W0 (hsOf t)).get q with
        | some y =>
          rw [e] at hq
          simp only [Option.map_some] at hq ⊢
          rw [← hstO]
          exact hq
        | none =>
          rw [e] at hq
          dsimp only at hq ⊢
          split at hq
          · rename_i h1
            rw [if_pos ⟨h1.1, hpre _ h1.2⟩]
            have hlt := maskbit_lt dk1 h1.2
            have : alAt rs (q - c.base) = alAt t (q - c.base) := by
              rw [hrs]
              rw [alAt_app (s := (T, .h v W1) :: t) (by simp; omega)]
              simp only [alAt]
              rw [if_neg (by omega)]
            rw [this]
            cases h5 : alAt t (q - c.base) with
            | none => rw [h5] at hq; cases hq
            | some ob =>
              rw [h5] at hq
              simp only [Option.map_some] at hq ⊢
              rw [← hstO]
              exact hq
          · cases hq
      have hCn := wAt_next c (hsOf t) (Nat.testBit (c.mk' i)) t
      have hBn := wAt_next c (hsOf t) D rs
      have hwC : WR c.E.P r (wAt c (hsOf t) (Nat.testBit (c.mk' i)) t) w := hwr.sub hsubg (hCn.1.trans hBn.1.symm)
      rw [astep_congr (ev' := evS c.gl T (o.looksAt ops)) o _ evS_eq] at hst
      refine astep_R ok hcall hst hev hgr hwC fun r1 v' w1 hv hwa hf => hK _ _ ?_
      obtain ⟨s1, s2⟩ := hpt r1 v' hf.le hv
      have hal : alAt rs i = none := hall
      have hB'n := wAt_next c ((i, W1) :: hsOf t) (upd D i) rs
      have hB'g : ∀ q, (wAt c ((i, W1) :: hsOf t) (upd D i) rs).get q = (addR W1 c.base (upd D i) rs).get q := fun q => by
        rw [get_wAt]
        show ((addR W1 c.base (upd D i) rs).get q).map _ = _
        cases (addR W1 c.base (upd D i) rs).get q with
        | none => rfl
        | some x =>
          simp only [Option.map_some]
          rw [stO_none fun j b us _ hsj _ => by
            by_cases e : i < j
            · rw [upd_ne (by omega), late j b us e hsj]
              rfl
            · have : aft ((i, W1) :: hsOf t) j = false := by
                cases h9 : Nat.ble (i + 1) j with
                | false => exact h9
                | true => have := Nat.le_of_ble_eq_true h9; omega
              rw [this]
              simp]
      have hCtight : ∀ j o2 l, j < rs.length → (wAt c (hsOf t) (Nat.testBit (c.mk' i)) t).get (c.base + j) = some (o2, l) → l = false := fun j o2 l hj h => htight j o2 l hj (hsubg _ _ h)
      have hnx1 : c.base + rs.length ≤ W1.next := by
        have := hf.next
        rw [hCn.1] at this
        omega
      -- what stands beside
      have hg : ∀ q x, (wAt c ((i, W1) :: hsOf t) (upd D i) rs).get q = some x → W1.get q = some x ∨ ((wAt c (hsOf t) D rs).get q = some x ∧ (wAt c (hsOf t) (Nat.testBit (c.mk' i)) t).get q = none) := fun q x hq => by
        rw [hB'g, get_addR] at hq
        cases e : W1.get q with
        | some y => rw [e] at hq; exact .inl hq
        | none =>
          rw [e] at hq
          dsimp only at hq
          split at hq
          · rename_i h1
            obtain ⟨hb, hu⟩ := h1
            have hne : q - c.base ≠ i := fun he => by rw [he, hal] at hq; cases hq
            rw [upd_ne hne] at hu
            have hlt : q - c.base < rs.length := by
              apply Nat.lt_of_not_le
              intro hle
              rw [alAt_ge hle] at hq
              cases hq
            have hCnone : (wAt c (hsOf t) (Nat.testBit (c.mk' i)) t).get q = none := by
              cases e2 : (wAt c (hsOf t) (Nat.testBit (c.mk' i)) t).get q with
              | none => rfl
              | some y =>
                obtain ⟨o2, l2⟩ := y
                have hq2 : q = c.base + (q - c.base) := by omega
                have e2' := e2
                rw [hq2] at e2'
                have := hCtight _ o2 l2 hlt e2'
                subst this
                obtain ⟨o3, h3⟩ := hf.keep q o2 e2
                rw [e] at h3
                cases h3
            refine .inr ⟨?_, hCnone⟩
            have hCa : (addR (curW c.W0 (hsOf t)) c.base (Nat.testBit (c.mk' i)) t).get q = none := by
              rw [get_wAt] at hCnone
              cases e3 : (addR (curW c.W0 (hsOf t)) c.base (Nat.testBit (c.mk' i)) t).get q with
              | none => rfl
              | some y => rw [e3] at hCnone; cases hCnone
            have hcur : (curW c.W0 (hsOf t)).get q = none := by
              rw [get_addR] at hCa
              cases e3 : (curW c.W0 (hsOf t)).get q with
              | none => rfl
              | some y => rw [e3] at hCa; cases hCa
            rw [get_wAt, get_addR, hcur]
            dsimp only
            rw [if_pos ⟨hb, hu⟩]
            cases h5 : alAt rs (q - c.base) with
            | none => rw [h5] at hq; cases hq
            | some ob =>
              rw [h5] at hq
              simp only [Option.map_some] at hq ⊢
              rw [stO_none fun j b us hjl hsj hbb => by
                cases h6 : (D j && aft (hsOf t) j) with
                | false => rfl
                | true =>
                  exfalso
                  rw [Bool.and_eq_true] at h6
                  have hji : j < i := by
                    apply Nat.lt_of_not_le
                    intro hle
                    by_cases e9 : j = i
                    · rw [e9, hDi] at h6
                      cases h6.1
                    · rw [late j b us (by omega) hsj] at h6
                      cases h6.1
                  obtain ⟨h13, h14⟩ := early j b us hji hsj
                  obtain ⟨t2, htl2, hok2, hold2, hal2⟩ := pend j b us hsj h6.1 h6.2
                  simp only [storeOk, Bool.and_eq_true] at hok2
                  have hg2 := hok2.1.1.1.1.1
                  rw [hold2, get_wAt, get_addR, hbb, hcur] at hg2
                  dsimp only at hg2
                  split at hg2
                  · rename_i cs e2 l2 hx2
                    split at hx2
                    · rename_i h15
                      have h16 : Nat.testBit (c.mk' i) (q - c.base) = true := by
                        rw [← h14]
                        show Nat.testBit (c.mk' j ||| c.mk' i) (q - c.base) = true
                        rw [Nat.testBit_or, h15.2]
                        rfl
                      have h17 : q - c.base < i := maskbit_lt dk1 h16
                      have h18 : alAt t (q - c.base) = some ob := by
                        have := h5
                        rw [hrs, alAt_app (s := (T, .h v W1) :: t) (by simp; omega)] at this
                        simp only [alAt] at this
                        rwa [if_neg (by omega)] at this
                      rw [get_addR, hcur] at hCa
                      dsimp only at hCa
                      rw [if_pos ⟨hb, h16⟩, h18] at hCa
                      cases hCa
                    · cases hx2
                  · cases hg2]
              exact hq
          · cases hq
      have low : ∀ q, q < Ws.next → (wAt c ((i, W1) :: hsOf t) (upd D i) rs).get q = W1.get q ∧ (wAt c (hsOf t) (Nat.testBit (c.mk' i)) t).get q = (wAt c (hsOf t) D rs).get q := fun q hq => by
        rw [hB'g, get_addR, get_wAt, get_wAt, get_addR, get_addR]
        have : ¬ c.base ≤ q := by omega
        refine ⟨?_, ?_⟩
        · cases W1.get q with
          | some y => rfl
          | none => simp [this]
        · cases (curW c.W0 (hsOf t)).get q with
          | some y =>
            simp only [Option.map_some]
            rw [hstO]
          | none => simp [this]
      refine ⟨s1, by rw [put_defers]; exact idf, hdown, r1, X, (i, W1) :: hsOf t, by rw [hX1], fun x hx => ?_, fun x hx => ?_, s2, hgr.le hf.le, hwr.heavy hsubg hwa hf hB'n.1 hg, hfr.heavy hws hwr hsubg (hCn.1.trans hBn.1.symm) (hCn.2.trans hBn.2.symm) hf hB'n.1 hB'n.2 hg low, fun j hj h => ?_, fun j o2 l hj h => ?_, hnx1⟩
      · have h1 := hX2 x hx
        simp only [List.length_cons] at h1
        rw [upd_ne (by omega)]
        exact hnew x (by rw [hnw]; exact List.mem_append_left _ hx)
      · rcases List.mem_cons.1 hx with rfl | hx
        · exact upd_self D _
        · have := hsOf_lt hx
          rw [upd_ne (by omega)]
          exact hold x hx
      · refine hf.fresh _ ?_ (hnone j hj ?_)
        · rw [hCn.1]
          omega
        · rcases h with h | h
          · exact .inl h
          · by_cases e : j = i
            · subst e
              exact .inl hal
            · rw [upd_ne e] at h
              exact .inr h
      · rcases hg _ _ h with h1 | ⟨h1, _⟩
        · cases e : (wAt c (hsOf t) (Nat.testBit (c.mk' i)) t).get (c.base + j) with
          | none =>
            have := hf.dead (c.base + j) (by rw [hCn.1]; omega) e
            rw [h1] at this
            cases this
          | some y =>
            obtain ⟨o3, l3⟩ := y
            have := hCtight j o3 l3 hj e
            subst this
            obtain ⟨o4, h4⟩ := hf.keep _ o3 e
            rw [h1] at h4
            injection h4 with h4
            injection h4 with _ h4
        · exact htight j o2 l hj h1
end
end Go.Proofs.Ytkodblhompphjaa
