/- The program's Monitor and Demon. The program's Copy. Ties that nobody made. -/
import Derived.Test.YtkodblhompphjaaVl
import Derived.Laws.Externs
import Derived.MapKept
import Derived.Test.YtkodblhompphjaaVg
namespace Go.Proofs.Ytkodblhompphjaa
open Go.RowKit Go.Maps
set_option maxRecDepth 20000

theorem findT_mem {l : List Te} {r : Int} {x : Te} (h : findT l r = some x) : x ∈ l ∧ x.r = r ∧ 0 < r := by
  unfold findT at h
  split at h
  · rename_i hr
    exact ⟨List.mem_of_find?_eq_some h, by simpa using List.find?_some h, hr⟩
  · cases h
set_option maxHeartbeats 4000000 in
theorem pdemon_any {w : World} {b lb mb : Nat} {l : List Te} (h : LRep w b lb mb l) (r : Int) : Calls Try.prog 25 #[ptB b, .int .i64 r] w (TurnE w b lb mb (demF l r)) := by
  have K0 := Lib.hid (given_any h)
  have H := Lib.hid h
  have c2 := h.blk.cell0 (i := 2) (v := .map (some mb)) rfl
  cases hf : findT l r with
  | none =>
    have hL := h.find r
    rw [hf] at hL
    simp only [refV] at hL
    have e : demF l r = (l, 3) := by unfold demF; rw [hf]
    rw [e]
    clear h hf e
    go_enter Try.func25, Try.ntmps25
    go_wp2_with fail
    (with_reducible refine K0.out.mono ?_)
    rintro e w1 ⟨rfl, rfl⟩
    go_wp2_with fail
    go_ret
    exact ⟨rfl, H.out.only0 ((Only.refl [] w).alloc _), ((Only.refl [] w).alloc _).more (by simp)⟩
  | some x =>
    have hL := h.find r
    rw [hf] at hL
    simp only [refV] at hL
    have e : demF l r = (lessT l x, 0) := by unfold demF; rw [hf]
    rw [e]
    obtain ⟨hx, hr, h0⟩ := findT_mem hf
    have HX := Lib.hid hx
    have HR0 := Lib.hid (show x.r ≠ 0 by omega)
    subst hr
    have h1 := h.only0 ((Only.refl [] w).alloc (.cells x.cs 45))
    have d2 := h1.blk.cell0 (i := 2) (v := .map (some mb)) rfl
    obtain ⟨w7, hd, m7, o7⟩ := h1.mon.del (mns_ok h1.may) (List.mem_filter.2 ⟨hx, by have := HR0.out; simpa using this⟩) 0
    have H6 := Lib.hid h1
    have M7 := Lib.hid m7
    have O7 := Lib.hid o7
    clear h hf e hx h0 m7 o7 h1
    go_enter Try.func25, Try.ntmps25
    go_wp2_with fail
    (with_reducible refine K0.out.mono ?_)
    rintro e w1 ⟨rfl, rfl⟩
    go_wp2_with fail
    go_ret
    refine ⟨rfl, ⟨mayT_less H.out.may x, ?_, H6.out.blk.only O7.out (by have := H6.out.mb_; simp; omega), H6.out.ne, by show LkM w7 lb (lks (lessT l x)); rw [lks_less1 HR0.out]; exact H6.out.lnk.only O7.out (by have := H6.out.ne; simp; omega), by show MnM w7 mb (mns (lessT l x)); rw [mns_less]; exact M7.out⟩, (((Only.refl [] w).alloc _).more (by simp)).trans O7.out (by simp)⟩
    have := List.length_filter_le (fun y => !eqT y x) l
    have := H6.out.len
    show (List.filter (fun y => !eqT y x) l).length ≤ 1024
    omega
set_option maxHeartbeats 8000000 in
theorem pmonitor_any {w : World} {b lb mb : Nat} {l : List Te} (h : LRep w b lb mb l) (r : Int) (a p : Pd) : Calls Try.prog 20 #[ptB b, .int .i64 r, .agg a.cs, .agg p.cs] w (TurnE w b lb mb (monF l r a p)) := by
  have KK := fun p w => pokp_any p w
  have o0 := ((Only.refl [] w).alloc (.cells a.cs 32)).alloc (.cells p.cs 32)
  have H0 := Lib.hid (h.only0 o0)
  have K0 := Lib.hid (given_any H0.out)
  have BA := Lib.hid ((Bk.made w 32 a.cs).alloc (.cells p.cs 32))
  have BB := Lib.hid (Bk.newAt (w := w.alloc (.cells a.cs 32)) (t := 32) (cs := p.cs) (b := w.heap.size + 1) (by simp))
  have O0 := Lib.hid o0
  have HM : Hid (MayT (monF l r a p).1) := Lib.hid (monF_may h.may r a p)
  have FN : Hid ((okP a && okP p && decide (1 ≤ r ∧ r ≤ 4611686018427387903) && (findT l r).isNone) = false → monF l r a p = (l, 1)) := Lib.hid (fun h => monF_no (by rw [h]; simp))
  have F2 : Hid ((okP a && okP p && decide (1 ≤ r ∧ r ≤ 4611686018427387903) && (findT l r).isNone) = true → 1024 ≤ l.length → monF l r a p = (l, 150)) := Lib.hid (fun h k => by unfold monF; rw [if_pos h, if_pos k])
  have F3 : Hid ((okP a && okP p && decide (1 ≤ r ∧ r ≤ 4611686018427387903) && (findT l r).isNone) = true → ¬ 1024 ≤ l.length → monF l r a p = (putT l ⟨r, a, p⟩, 0)) := Lib.hid (fun h k => by unfold monF; rw [if_pos h, if_neg k])
  generalize monF l r a p = z at HM FN F2 F3 ⊢
  clear o0
  have F0 : Hid (∀ (v : Int) w', z = (l, v) → Only [] w w' → TurnE w b lb mb z (.returned (.int .i64 v)) w') := Lib.hid (fun v w' e o => by
    subst e
    exact ⟨rfl, h.only0 o, o.more (by simp)⟩)
  have LF := Lib.hid (fun w' (o : Only [] w w') => (h.only0 o).find r)
  have HH := Lib.hid h
  clear h
  cases ha : okP a with
  | false =>
    have E := Lib.hid (FN.out (by rw [ha]; simp))
    have K1 : Hid (∀ w, Calls Try.prog 45 #[.agg a.cs] w fun e w' => e = .returned (.bool false) ∧ Only [] w w') := Lib.hid (fun w => ha ▸ KK a w)
    clear KK
    go_enter Try.func20, Try.ntmps20
    go_upto_region 1 with fail
    generalize ((w.alloc (.cells a.cs 32)).alloc (.cells p.cs 32)) = w0 at *
    obtain ⟨a0, a1⟩ := BA.out.pid
    go_wp2_with fail
    (with_reducible refine K0.out.mono ?_)
    rintro e w1 ⟨rfl, rfl⟩
    go_wp2_with fail
    (with_reducible refine (K1.out _).mono ?_)
    rintro e w1 ⟨rfl, o1⟩
    go_wp2_with fail
    go_ret
    exact F0.out _ _ E.out (O0.out.trans o1 (by simp))
  | true =>
    have K1 : Hid (∀ w, Calls Try.prog 45 #[.agg a.cs] w fun e w' => e = .returned (.bool true) ∧ Only [] w w') := Lib.hid (fun w => ha ▸ KK a w)
    have KB := KK p
    cases hp : okP p with
    | false =>
      have E := Lib.hid (FN.out (by rw [ha, hp]; simp))
      rw [hp] at KB
      have K2 := Lib.hid KB
      clear KK KB
      go_enter Try.func20, Try.ntmps20
      go_upto_region 1 with fail
      generalize ((w.alloc (.cells a.cs 32)).alloc (.cells p.cs 32)) = w0 at *
      obtain ⟨a0, a1⟩ := BA.out.pid
      go_wp2_with fail
      (with_reducible refine K0.out.mono ?_)
      rintro e w1 ⟨rfl, rfl⟩
      go_wp2_with fail
      (with_reducible refine (K1.out _).mono ?_)
      rintro e w1 ⟨rfl, o1⟩
      obtain ⟨b0, b1⟩ := (BB.out.only o1 (by simp)).pid
      have O1 := Lib.hid (O0.out.trans o1 (by simp))
      clear o1
      go_wp2_with fail
      (with_reducible refine (K2.out _).mono ?_)
      rintro e w2 ⟨rfl, o2⟩
      go_wp2_with fail
      go_ret
      exact F0.out _ _ E.out (O1.out.trans o2 (by simp))
    | true =>
      rw [hp] at KB
      have K2 := Lib.hid KB
      clear KK KB
      by_cases h1 : r < 1
      · have d1 : decide (r < 1) = true := decide_eq_true h1
        have E := Lib.hid (FN.out (by rw [ha, hp, decide_eq_false (by omega)]; simp))
        clear h1
        go_enter Try.func20, Try.ntmps20
        go_upto_region 1 with fail
        generalize ((w.alloc (.cells a.cs 32)).alloc (.cells p.cs 32)) = w0 at *
        obtain ⟨a0, a1⟩ := BA.out.pid
        go_wp2_with fail
        (with_reducible refine K0.out.mono ?_)
        rintro e w1 ⟨rfl, rfl⟩
        go_wp2_with fail
        (with_reducible refine (K1.out _).mono ?_)
        rintro e w1 ⟨rfl, o1⟩
        obtain ⟨b0, b1⟩ := (BB.out.only o1 (by simp)).pid
        have O1 := Lib.hid (O0.out.trans o1 (by simp))
        clear o1
        go_wp2_with fail
        (with_reducible refine (K2.out _).mono ?_)
        rintro e w2 ⟨rfl, o2⟩
        go_wp2_with fail
        go_ret
        exact F0.out _ _ E.out (O1.out.trans o2 (by simp))
      · have d1 : decide (r < 1) = false := decide_eq_false h1
        by_cases h2 : 4611686018427387903 < r
        · have d2 : decide (4611686018427387903 < r) = true := decide_eq_true h2
          have E := Lib.hid (FN.out (by rw [ha, hp, decide_eq_false (by omega)]; simp))
          clear h1 h2
          go_enter Try.func20, Try.ntmps20
          go_upto_region 1 with fail
          generalize ((w.alloc (.cells a.cs 32)).alloc (.cells p.cs 32)) = w0 at *
          obtain ⟨a0, a1⟩ := BA.out.pid
          go_wp2_with fail
          (with_reducible refine K0.out.mono ?_)
          rintro e w1 ⟨rfl, rfl⟩
          go_wp2_with fail
          (with_reducible refine (K1.out _).mono ?_)
          rintro e w1 ⟨rfl, o1⟩
          obtain ⟨b0, b1⟩ := (BB.out.only o1 (by simp)).pid
          have O1 := Lib.hid (O0.out.trans o1 (by simp))
          clear o1
          go_wp2_with fail
          (with_reducible refine (K2.out _).mono ?_)
          rintro e w2 ⟨rfl, o2⟩
          go_wp2_with fail
          go_ret
          exact F0.out _ _ E.out (O1.out.trans o2 (by simp))
        · have d2 : decide (4611686018427387903 < r) = false := decide_eq_false h2
          have C := Lib.hid (show (okP a && okP p && decide (1 ≤ r ∧ r ≤ 4611686018427387903)) = true by rw [ha, hp, decide_eq_true (by omega)]; rfl)
          have R1 := Lib.hid (show r ≠ 0 by omega)
          clear h1 h2
          have fin : ∀ o, findT l r = o → Hid (findT l r = o) := fun o h => Lib.hid h
          obtain ⟨o, ho⟩ : ∃ o, findT l r = o := ⟨_, rfl⟩
          have HO := fin o ho
          have LF2 : Hid (∀ w', Only [] w w' → (Instr.lookup mpM (.map (some mb)) (.int .i64 r) true).run Try.prog w' = .ok (refV o) w') := Lib.hid (fun w' oo => ho ▸ LF.out w' oo)
          clear fin ho LF
          go_enter Try.func20, Try.ntmps20
          go_upto_region 1 with fail
          generalize ((w.alloc (.cells a.cs 32)).alloc (.cells p.cs 32)) = w0 at *
          obtain ⟨a0, a1⟩ := BA.out.pid
          go_wp2_with fail
          (with_reducible refine K0.out.mono ?_)
          rintro e w1 ⟨rfl, rfl⟩
          go_wp2_with fail
          (with_reducible refine (K1.out _).mono ?_)
          rintro e w1 ⟨rfl, o1⟩
          obtain ⟨b0, b1⟩ := (BB.out.only o1 (by simp)).pid
          have O1 := Lib.hid (O0.out.trans o1 (by simp))
          have BA1 := Lib.hid (BA.out.only o1 (by simp))
          have BB1 := Lib.hid (BB.out.only o1 (by simp))
          clear o1 a0 a1 O0 BA BB K0 H0
          go_wp2_with fail
          (with_reducible refine (K2.out _).mono ?_)
          rintro e w2 ⟨rfl, o2⟩
          have O2 := Lib.hid (O1.out.trans o2 (by simp))
          have BA2 := Lib.hid (BA1.out.only o2 (by simp))
          have BB2 := Lib.hid (BB1.out.only o2 (by simp))
          have H2 := Lib.hid (HH.out.only0 O2.out)
          have c2 := H2.out.blk.cell0 (i := 2) (v := .map (some mb)) rfl
          have hL := LF2.out _ O2.out
          clear o2 b0 b1 O1 BA1 BB1 LF2
          cases o with
          | some x =>
            have E := Lib.hid (FN.out (by rw [C.out, HO.out]; simp))
            simp only [refV] at hL
            go_wp2_with fail
            go_ret
            exact F0.out _ _ E.out (O2.out.alloc _)
          | none =>
            simp only [refV] at hL
            have W3 : Hid (∀ zz, Calls Try.prog 42 #[ptB b] (w2.alloc zz) fun e w' => e = .returned (.bool (decide (1024 ≤ l.length))) ∧ Only [] (w2.alloc zz) w') := Lib.hid (fun zz => full_any (H2.out.only0 ((Only.refl [] w2).alloc zz)))
            by_cases hl : 1024 ≤ l.length
            · have E := Lib.hid (F2.out (by rw [C.out, HO.out]; rfl) hl)
              rw [decide_eq_true hl] at W3
              clear hl
              go_wp2_with fail
              (with_reducible refine (W3.out _).mono ?_)
              rintro e w5 ⟨rfl, o5⟩
              go_wp2_with fail
              go_ret
              exact F0.out _ _ E.out ((O2.out.alloc _).trans o5 (by simp))
            · have E := Lib.hid (F3.out (by rw [C.out, HO.out]; rfl) hl)
              have HL := Lib.hid hl
              rw [decide_eq_false hl] at W3
              clear hl
              go_wp2_with fail
              (with_reducible refine (W3.out _).mono ?_)
              rintro e w5 ⟨rfl, o5⟩
              have oo := ((Only.refl [] w2).alloc (.cells zT.cs 45)).trans o5 (by simp)
              have H5 := Lib.hid (H2.out.only0 oo)
              have O5 := Lib.hid (O2.out.trans oo (by simp))
              clear c2 hL
              have c2 := H5.out.blk.cell0 (i := 2) (v := .map (some mb)) rfl
              obtain ⟨a0, a1⟩ := (BA2.out.only oo (by simp)).pid
              obtain ⟨b0, b1⟩ := (BB2.out.only oo (by simp)).pid
              clear o5 oo W3 F0 H2 O2 BA2 BB2 K1 K2
              go_wp2_with fail
              refine wp_region_quiet_then 9 (by kernel_rfl) (by kernel_rfl) ?_
              simp only [List.take_succ_cons, List.take_zero, List.drop_succ_cons, List.drop_zero]
              repeat (go_big_quiet_step (fail))
              refine wpQuiet_nil ?_
              intro q
              have H6 := Lib.hid (H5.out.only0 ((Only.refl [] w5).drewN q))
              have O6 := Lib.hid (O5.out.drewN q)
              have er := E.out
              have hz : MayT (putT l ⟨r, a, p⟩) := by have := HM.out; rw [er] at this; exact this
              have hx : MnT ⟨r, a, p⟩ := ⟨mayT_ok hz _ (putT_mem.2 (.inl rfl)), R1.out⟩
              have hnr : ∀ y ∈ mns l, y.r ≠ r := fun y hy e => by
                have hn := HO.out
                rw [← find_mns HH.out.may, List.find?_eq_none] at hn
                exact hn y hy (by simpa using e)
              obtain ⟨w7, hd, m7, o7⟩ := H6.out.mon.put hx hnr (by have := lks_mns l; have := H6.out.len; simp only [maxLen]; omega)
              have M7 := Lib.hid m7
              have O7 := Lib.hid o7
              have HZ := Lib.hid hz
              clear m7 o7 hz hx hnr er
              go_wp2_with fail
              go_ret
              have er := E.out
              subst er
              refine ⟨rfl, ⟨HM.out, ?_, H6.out.blk.only O7.out (by have := H6.out.mb_; simp; omega), H6.out.ne, (H6.out.lnk.only O7.out (by have := H6.out.ne; simp; omega)).perm (lks_put1 R1.out), M7.out.perm (mns_put1 R1.out)⟩, (O6.out.more (by simp)).trans O7.out (by simp)⟩
              have e := (putT_perm l ⟨r, a, p⟩).length_eq
              rw [List.length_cons] at e
              have := HL.out
              show (putT l ⟨r, a, p⟩).length ≤ 1024
              omega
end Go.Proofs.Ytkodblhompphjaa

namespace Go.Proofs.Ytkodblhompphjaa
open Go.RowKit Go.Maps
set_option maxRecDepth 20000

@[go_sem high] theorem mapNilL (mb : Nat) (w : World) : (binOp .eql mpL (.map (some mb)) (.map none)).run Try.prog w = .ok (.bool false) w :=
  run_eql_map_nil w _ _ _ (some mb) Try.underlying58
@[go_sem high] theorem mapNilM (mb : Nat) (w : World) : (binOp .eql mpM (.map (some mb)) (.map none)).run Try.prog w = .ok (.bool false) w :=
  run_eql_map_nil w _ _ _ (some mb) Try.underlying59
@[go_sem high] theorem asMapL (v : Value) (w : World) : (Instr.typeAssert (.iface mpL v) 20 mpL false).run Try.prog w = .ok v w := by kernel_rfl
@[go_sem high] theorem asMapM (v : Value) (w : World) : (Instr.typeAssert (.iface mpM v) 20 mpM false).run Try.prog w = .ok v w := by kernel_rfl
theorem callClone {w w1 : World} {a v : Value} (h : (Extern.MapsClone.clone #[a]).run Try.prog w = .ok v w1) : (callFunc 58 #[a]).run Try.prog w = .ok (.value v) w1 := by
  rw [run_callFunc_extern (e := Extern.MapsClone.clone) Try.func58 (by kernel_rfl) (by kernel_rfl) (by kernel_rfl) (by kernel_rfl), h]
  rfl
set_option maxHeartbeats 2000000 in
theorem cloneL_any {w : World} {g : Nat} {S : List Te} (h : LkM w g S) :
    Calls Try.prog 35 #[.map (some g)] w fun e w' => e = .returned (.map (some w.heap.size)) ∧ LkM w' w.heap.size S ∧ Only [] w w' := by
  obtain ⟨w1, hr, hm, ho⟩ := h.clone mpL
  have hc := callClone hr
  have HM := Lib.hid hm
  have HO := Lib.hid ho
  clear h hm ho hr
  go_enter Try.func35, Try.ntmps35
  go_wp2_with fail
  go_ret
  exact ⟨rfl, HM.out, HO.out⟩
set_option maxHeartbeats 2000000 in
theorem cloneM_any {w : World} {g : Nat} {S : List Te} (h : MnM w g S) :
    Calls Try.prog 36 #[.map (some g)] w fun e w' => e = .returned (.map (some w.heap.size)) ∧ MnM w' w.heap.size S ∧ Only [] w w' := by
  obtain ⟨w1, hr, hm, ho⟩ := h.clone mpM
  have hc := callClone hr
  have HM := Lib.hid hm
  have HO := Lib.hid ho
  clear h hm ho hr
  go_enter Try.func36, Try.ntmps36
  go_wp2_with fail
  go_ret
  exact ⟨rfl, HM.out, HO.out⟩
set_option maxHeartbeats 8000000 in
theorem pcopy_any {w : World} {b lb mb : Nat} {l : List Te} (h : LRep w b lb mb l) : Calls Try.prog 11 #[ptB b] w (MadeE w l) := by
  have K := Lib.hid (given_any h)
  have H0 := Lib.hid (h.only0 ((Only.refl [] w).drew))
  have O0 := Lib.hid ((Only.refl [] w).drew)
  have H := Lib.hid h
  have q1 : w.cell? ⟨b, 1, none⟩ = some (.map (some lb)) ∧ w.cell? ⟨b, 2, none⟩ = some (.map (some mb)) := ⟨h.blk.cell0 (i := 1) rfl, h.blk.cell0 (i := 2) rfl⟩
  clear h
  go_enter Try.func11, Try.ntmps11
  go_wp2_with fail
  (with_reducible refine K.out.mono ?_)
  rintro e w1 ⟨rfl, rfl⟩
  go_wp2_with fail
  clear K
  go_region_held3 (fun w' => w'.cell? ⟨b, 1, none⟩ = some (.map (some lb)) ∧ w'.cell? ⟨b, 2, none⟩ = some (.map (some mb))) (first | assumption | go_keep)
    (first
      | (go_at_call 35; (with_reducible refine (cloneL_any H0.out.lnk).mono ?_); rintro e w2 ⟨rfl, hm2, o2⟩; have O2 := Lib.hid (O0.out.trans o2 (by simp)); have H2 := Lib.hid (H0.out.only0 o2); have KM := Lib.hid (cloneM_any H2.out.mon); have R2 : Hid (LkM w2 w.heap.size (lks l)) := Lib.hid hm2; have q2 := And.intro (H2.out.blk.cell0 (i := 1) (v := .map (some lb)) rfl) (H2.out.blk.cell0 (i := 2) (v := .map (some mb)) rfl); clear hm2 o2)
      | (go_at_call 36; (with_reducible refine KM.out.mono ?_); rintro e w3 ⟨rfl, hm3, o3⟩; have O3 := Lib.hid (O2.out.trans o3 (by simp)); have H3 := Lib.hid (H2.out.only0 o3); have KO := Lib.hid (of_made H.out.may H.out.len (Nat.ne_of_lt R2.out.lt) (R2.out.only o3 (by simp)) hm3 O3.out (Nat.le_refl _) O2.out.size); have q3 := And.intro (H3.out.blk.cell0 (i := 1) (v := .map (some lb)) rfl) (H3.out.blk.cell0 (i := 2) (v := .map (some mb)) rfl); clear hm3 o3)
      | (go_at_call 36; (with_reducible refine (cloneM_any H0.out.mon).mono ?_); rintro e w2 ⟨rfl, hm2, o2⟩; have O2 := Lib.hid (O0.out.trans o2 (by simp)); have H2 := Lib.hid (H0.out.only0 o2); have KS := Lib.hid (cloneL_any H2.out.lnk); have R2 : Hid (MnM w2 w.heap.size (mns l)) := Lib.hid hm2; have q2 := And.intro (H2.out.blk.cell0 (i := 1) (v := .map (some lb)) rfl) (H2.out.blk.cell0 (i := 2) (v := .map (some mb)) rfl); clear hm2 o2)
      | (go_at_call 35; (with_reducible refine KS.out.mono ?_); rintro e w3 ⟨rfl, hm3, o3⟩; have O3 := Lib.hid (O2.out.trans o3 (by simp)); have H3 := Lib.hid (H2.out.only0 o3); have KO := Lib.hid (of_made H.out.may H.out.len (Nat.ne_of_lt R2.out.lt).symm hm3 (R2.out.only o3 (by simp)) O3.out O2.out.size (Nat.le_refl _)); have q3 := And.intro (H3.out.blk.cell0 (i := 1) (v := .map (some lb)) rfl) (H3.out.blk.cell0 (i := 2) (v := .map (some mb)) rfl); clear hm3 o3)
      | (go_at_call 26; (with_reducible refine KO.out.mono ?_); rintro e w4 ⟨b4, lb4, mb4, rfl, hx, h4, o4⟩; have HX := Lib.hid hx; have H4' := Lib.hid h4; have O4 := Lib.hid o4; have H4 := Lib.hid (H.out.only0 o4); have q4 := And.intro (H4.out.blk.cell0 (i := 1) (v := .map (some lb)) rfl) (H4.out.blk.cell0 (i := 2) (v := .map (some mb)) rfl); clear o4 hx h4)
      | fail)
  all_goals
    go_wp2_with fail
    go_ret
    exact ⟨_, _, _, rfl, HX.out, H4'.out, O4.out⟩
end Go.Proofs.Ytkodblhompphjaa

namespace Go.Proofs.Ytkodblhompphjaa
open Go.RowKit
set_option maxRecDepth 20000

@[go_sem high] theorem nil_self (b : Nat) (w : World) : (binOp .eql 23 (.pointer none) (.pointer (some ⟨b, 0, none⟩))).run Try.prog w = .ok (.bool false) w := by
  have h : ∀ d : Nat, (Op.equalIn (d + 1) 23 (.pointer none) (.pointer (some ⟨b, 0, none⟩))).run Try.prog w = .ok false w := fun d => by
    simp [Op.equalIn, run_underlying Try.underlying23]
  simp only [binOp]
  simp [Op.equal, Op.maxDepth, h 9999]
theorem given_zero {w : World} {b : Nat} {t : TypeId} {x y : Value} (h : Bk w b t #[.pointer none, x, y]) : Calls Try.prog 34 #[.pointer (some ⟨b, 0, none⟩)] w fun e w' => e = .returned (.bool false) ∧ w = w' := by
  have c0 := h.cell0 (i := 0) rfl
  clear h
  go_enter Try.func34, Try.ntmps34
  go_wp2_with fail
  go_ret
  exact ⟨rfl, rfl⟩
/-- Ties that were not given, in every world that has come of w by new blocks. -/
def NoG (w : World) (tv : Value) : Prop := ∀ w', Only [] w w' → Calls Try.prog 34 #[tv] w' fun e w'' => e = .returned (.bool false) ∧ w' = w''
theorem NoG.nil (w : World) : NoG w (.pointer none) := fun w' _ => given_nil w'
theorem NoG.zero {w : World} {b : Nat} {t : TypeId} {x y : Value} (h : Bk w b t #[.pointer none, x, y]) : NoG w (.pointer (some ⟨b, 0, none⟩)) := fun _ o => given_zero (h.only o (by simp))
theorem NoG.only {w w' : World} {tv : Value} (h : NoG w tv) (o : Only [] w w') : NoG w' tv := fun w'' k => h w'' (o.trans k (by simp))
set_option maxHeartbeats 1000000 in
theorem link_nob {w : World} {tv : Value} (h : NoG w tv) (a p : Pd) : Calls Try.prog 16 #[tv, .agg a.cs, .agg p.cs] w fun e w' => e = .returned (.int .i64 1) ∧ Only [] w w' := by
  have o := ((Only.refl [] w).alloc (.cells a.cs 32)).alloc (.cells p.cs 32)
  have K := Lib.hid (h _ o)
  have O := Lib.hid o
  clear o h
  go_enter Try.func16, Try.ntmps16
  go_wp2_with fail
  (with_reducible refine K.out.mono ?_)
  rintro e w1 ⟨rfl, rfl⟩
  go_wp2_with fail
  go_ret
  exact ⟨rfl, O.out⟩
set_option maxHeartbeats 1000000 in
theorem unlink_nob {w : World} {tv : Value} (h : NoG w tv) (a p : Pd) : Calls Try.prog 19 #[tv, .agg a.cs, .agg p.cs] w fun e w' => e = .returned (.int .i64 1) ∧ Only [] w w' := by
  have o := ((Only.refl [] w).alloc (.cells a.cs 32)).alloc (.cells p.cs 32)
  have K := Lib.hid (h _ o)
  have O := Lib.hid o
  clear o h
  go_enter Try.func19, Try.ntmps19
  go_wp2_with fail
  (with_reducible refine K.out.mono ?_)
  rintro e w1 ⟨rfl, rfl⟩
  go_wp2_with fail
  go_ret
  exact ⟨rfl, O.out⟩
set_option maxHeartbeats 1000000 in
theorem monitor_nob {w : World} {tv : Value} (h : NoG w tv) (n : Int) (a p : Pd) : Calls Try.prog 20 #[tv, .int .i64 n, .agg a.cs, .agg p.cs] w fun e w' => e = .returned (.int .i64 1) ∧ Only [] w w' := by
  have o := ((Only.refl [] w).alloc (.cells a.cs 32)).alloc (.cells p.cs 32)
  have K := Lib.hid (h _ o)
  have O := Lib.hid o
  clear o h
  go_enter Try.func20, Try.ntmps20
  go_wp2_with fail
  (with_reducible refine K.out.mono ?_)
  rintro e w1 ⟨rfl, rfl⟩
  go_wp2_with fail
  go_ret
  exact ⟨rfl, O.out⟩
set_option maxHeartbeats 1000000 in
theorem demon_nob {w : World} {tv : Value} (h : NoG w tv) (n : Int) : Calls Try.prog 25 #[tv, .int .i64 n] w fun e w' => e = .returned (.int .i64 1) ∧ Only [] w w' := by
  have K := Lib.hid (h _ (Only.refl _ _))
  clear h
  go_enter Try.func25, Try.ntmps25
  go_wp2_with fail
  (with_reducible refine K.out.mono ?_)
  rintro e w1 ⟨rfl, rfl⟩
  go_wp2_with fail
  go_ret
  exact ⟨rfl, Only.refl _ _⟩
set_option maxHeartbeats 1000000 in
theorem links_nob {w : World} {tv : Value} (h : NoG w tv) (a : Pd) : Calls Try.prog 18 #[tv, .agg a.cs] w fun e w' => e = .returned (.slice none 0 0) ∧ Only [] w w' := by
  have o := (Only.refl [] w).alloc (.cells a.cs 32)
  have K := Lib.hid (h _ o)
  have O := Lib.hid o
  clear o h
  go_enter Try.func18, Try.ntmps18
  go_wp2_with fail
  (with_reducible refine K.out.mono ?_)
  rintro e w1 ⟨rfl, rfl⟩
  go_wp2_with fail
  go_ret
  exact ⟨rfl, O.out⟩
set_option maxHeartbeats 1000000 in
theorem watch_nob {w : World} {tv : Value} (h : NoG w tv) (a : Pd) : Calls Try.prog 23 #[tv, .agg a.cs] w fun e w' => e = .returned (.slice none 0 0) ∧ Only [] w w' := by
  have o := (Only.refl [] w).alloc (.cells a.cs 32)
  have K := Lib.hid (h _ o)
  have O := Lib.hid o
  clear o h
  go_enter Try.func23, Try.ntmps23
  go_wp2_with fail
  (with_reducible refine K.out.mono ?_)
  rintro e w1 ⟨rfl, rfl⟩
  go_wp2_with fail
  go_ret
  exact ⟨rfl, O.out⟩
set_option maxHeartbeats 1000000 in
theorem all_nob {w : World} {tv : Value} (h : NoG w tv) : Calls Try.prog 24 #[tv] w fun e w' => e = .returned (.slice none 0 0) ∧ Only [] w w' := by
  have K := Lib.hid (h _ (Only.refl _ _))
  clear h
  go_enter Try.func24, Try.ntmps24
  go_wp2_with fail
  (with_reducible refine K.out.mono ?_)
  rintro e w1 ⟨rfl, rfl⟩
  go_wp2_with fail
  go_ret
  exact ⟨rfl, Only.refl _ _⟩
set_option maxHeartbeats 1000000 in
theorem copy_nob {w : World} {tv : Value} (h : NoG w tv) : Calls Try.prog 11 #[tv] w fun e w' => e = .returned (.pointer none) ∧ Only [] w w' := by
  have K := Lib.hid (h _ (Only.refl _ _))
  clear h
  go_enter Try.func11, Try.ntmps11
  go_wp2_with fail
  (with_reducible refine K.out.mono ?_)
  rintro e w1 ⟨rfl, rfl⟩
  go_wp2_with fail
  go_ret
  exact ⟨rfl, Only.refl _ _⟩
set_option maxHeartbeats 1000000 in
theorem gone_nob {w : World} {tv : Value} (h : NoG w tv) (a : Pd) : Calls Try.prog 21 #[tv, .agg a.cs] w fun e w' => e = .returned (.tuple #[.slice none 0 0, .slice none 0 0]) ∧ Only [] w w' := by
  have o := (Only.refl [] w).alloc (.cells a.cs 32)
  have K := Lib.hid (h _ o)
  have O := Lib.hid o
  clear o h
  go_enter Try.func21, Try.ntmps21
  go_wp2_with fail
  (with_reducible refine K.out.mono ?_)
  rintro e w1 ⟨rfl, rfl⟩
  go_wp2_with fail
  go_ret2
  exact ⟨rfl, O.out⟩
/-- What the law's loop keeps. -/
structure NbR (w : World) (g z : Nat) (a p : Pd) (wr : World) : Prop where
  ba : Bk wr w.heap.size 32 a.cs
  bp : Bk wr (w.heap.size + 1) 32 p.cs
  bg : Bk wr g 23 #[.pointer none, .pointer (some ⟨z, 0, none⟩)]
  bz : Bk wr z 61 #[.pointer none, .map none, .map none]
  o : Only [] w wr
theorem NbR.only {w wr w' : World} {g z : Nat} {a p : Pd} (h : NbR w g z a p wr) (o : Only [] wr w') : NbR w g z a p w' :=
  ⟨h.ba.only o (by simp), h.bp.only o (by simp), h.bg.only o (by simp), h.bz.only o (by simp), h.o.trans o (by simp)⟩
theorem NbR.at_ {w wr : World} {g z : Nat} {a p : Pd} (h : NbR w g z a p wr) {i : Nat} (hi : i < 2) : ∃ tv, wr.cell? ⟨g, i, none⟩ = some tv ∧ NoG wr tv := by
  rcases i with _ | _ | i
  · exact ⟨_, h.bg.cell0 rfl, NoG.nil _⟩
  · exact ⟨_, h.bg.cell0 rfl, NoG.zero h.bz⟩
  · omega
set_option maxHeartbeats 16000000 in
theorem tnobody_any (hA : AwakeOk15) (a p : Pd) (n : Int) (w : World) : Calls Try.prog 6 #[.agg a.cs, .agg p.cs, .int .i64 n] w fun e w' => e = .returned (.bool true) ∧ Only [] w w' := by
  have HA := Lib.hid (fun w => hA w)
  have b1 := (Bk.made w 32 a.cs).alloc (.cells p.cs 32)
  have b2 := Bk.newAt (w := w.alloc (.cells a.cs 32)) (t := 32) (cs := p.cs) (b := w.heap.size + 1) (by simp)
  have o0 := ((Only.refl [] w).alloc (.cells a.cs 32)).alloc (.cells p.cs 32)
  have sz : ((w.alloc (.cells a.cs 32)).alloc (.cells p.cs 32)).heap.size = w.heap.size + 2 := by simp
  have R0 : Hid (NbR w (w.heap.size + 3) (w.heap.size + 2) a p ((((w.alloc (.cells a.cs 32)).alloc (.cells p.cs 32)).alloc (.cells #[.pointer none, .map none, .map none] 61)).alloc (.cells #[.pointer none, .pointer (some ⟨w.heap.size + 2, 0, none⟩)] 23))) := Lib.hid
    ⟨(b1.alloc _).alloc _, (b2.alloc _).alloc _, Bk.newAt (by simp), (Bk.newAt (by simp)).alloc _, (o0.alloc _).alloc _⟩
  clear hA b1 b2 o0 sz
  go_enter Try.func6, Try.ntmps6
  go_wp2_with fail
  go_loopw [8] (fun iv wr => ∃ i : Nat, iv = .int .i64 i ∧ i ≤ 2 ∧ NbR w (w.heap.size + 3) (w.heap.size + 2) a p wr) (fun iv _ => 2 - (intOf iv).toNat)
  case atStart => exact ⟨0, rfl, by omega, R0.out⟩
  case round =>
    clear R0
    obtain ⟨i, rfl, hi, hr⟩ := hrel
    have R := Lib.hid hr
    by_cases hlt : i < 2
    · obtain ⟨tv, hc, hn⟩ := hr.at_ hlt
      have KG := Lib.hid (gone_nob hn a)
      have HN := Lib.hid hn
      have HT := Lib.hid hc
      obtain ⟨a0, a1⟩ := hr.ba.pid
      clear hr hn hc
      have tc := HT.out
      have q0 : (0 : Int) ≤ (i : Int) := by omega
      have q1 : (i : Int) < 2 := by omega
      go_wp2_with fail
      (with_reducible refine KG.out.mono ?_)
      rintro e wc ⟨rfl, oc⟩
      have RC := Lib.hid (R.out.only oc)
      have NC := Lib.hid (HN.out.only oc)
      have ka := RC.out.ba.pid
      have kp := RC.out.bp.pid
      have k0 : ∀ x : Cm wc, x.1.cell? ⟨w.heap.size, 0, none⟩ = some (.int .i64 a.n) := Cm.cell ka.1
      have k1 : ∀ x : Cm wc, x.1.cell? ⟨w.heap.size, 1, none⟩ = some (.int .i64 a.g) := Cm.cell ka.2
      have k2 : ∀ x : Cm wc, x.1.cell? ⟨w.heap.size + 1, 0, none⟩ = some (.int .i64 p.n) := Cm.cell kp.1
      have k3 : ∀ x : Cm wc, x.1.cell? ⟨w.heap.size + 1, 1, none⟩ = some (.int .i64 p.g) := Cm.cell kp.2
      have C1 := Lib.hid (fun x : Cm wc => link_nob (NC.out.only x.o) a p)
      have C2 := Lib.hid (fun x : Cm wc => unlink_nob (NC.out.only x.o) a p)
      have C3 := Lib.hid (fun x : Cm wc => monitor_nob (NC.out.only x.o) n a p)
      have C4 := Lib.hid (fun x : Cm wc => demon_nob (NC.out.only x.o) n)
      have C5 := Lib.hid (fun x : Cm wc => links_nob (NC.out.only x.o) a)
      have C6 := Lib.hid (fun x : Cm wc => watch_nob (NC.out.only x.o) a)
      have C7 := Lib.hid (fun x : Cm wc => all_nob (NC.out.only x.o))
      have C8 := Lib.hid (fun x : Cm wc => copy_nob (NC.out.only x.o))
      clear oc ka kp KG a0 a1 tc
      go_wp2_with fail
      refine wp_region_calm (by kernel_rfl) (by kernel_rfl) ?_
      repeat (go_big_quiet_step ((first | (go_at_call 16; exact calmS (C1.out _)) | (go_at_call 19; exact calmS (C2.out _)) | (go_at_call 20; exact calmS (C3.out _)) | (go_at_call 25; exact calmS (C4.out _)) | (go_at_call 18; exact calmS (C5.out _)) | (go_at_call 23; exact calmS (C6.out _)) | (go_at_call 24; exact calmS (C7.out _)) | (go_at_call 11; exact calmS (C8.out _)))))
      refine wpQuiet_nil ?_
      rintro w5 ⟨⟨w5', o5⟩, e5⟩
      obtain rfl : w5 = w5' := e5
      have R5 := Lib.hid (RC.out.only o5)
      clear o5 k0 k1 k2 k3
      go_wp2_with fail
      go_roundw
      case rel => exact ⟨i + 1, by go_num, by omega, R5.out⟩
      case measure => simp [intOf]; omega
    · have e : i = 2 := by omega
      subst e
      have KA := Lib.hid (HA.out wr)
      clear hr
      go_wp2_with fail
      (with_reducible refine KA.out.mono ?_)
      rintro e w2 ⟨rfl, o2⟩
      go_wp2_with fail
      go_ret
      exact ⟨rfl, R.out.o.trans o2 (by simp)⟩
end Go.Proofs.Ytkodblhompphjaa
