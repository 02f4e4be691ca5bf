/- strings.Clone: the same bytes. The program's Name. -/
import Derived.Test.YtlidnlcmnkagaaaJ6
import Derived.Lib.BufferWrite
import Derived.Lib.UnsafeStr
namespace Go.Proofs.Ytlidnlcmnkagaaa
open Go.RowKit
set_option maxRecDepth 20000

noncomputable def KU : Sk UInt8 where
  e := 5
  t := 101
  k := 1
  by' := 1
  i := (Try.prog.info? 5).getD default
  z := .int .u8 0
  enc := fun x => [.int .u8 (x.toNat : Int)]
  ht := Try.underlying101
  hi := by kernel_rfl
  hz := by kernel_rfl
  hk := by kernel_rfl
  hb := by kernel_rfl
  hzs := rfl
  h0 := by decide
  hb0 := by decide
  henc := fun _ => rfl
  hone := fun a u hu => by
    simp only [List.mem_cons, List.not_mem_nil, or_false] at hu
    rcases hu with rfl <;> rfl
theorem OwnS.cur {α : Type} {K : Sk α} {w : World} {base g n cap : Nat} {xs : List α} (h : OwnS K w base (.slice (some ⟨g, 0, none⟩) n cap) xs) : ∃ cur, w.heap[g]? = some (.cells cur K.e (0, 0)) ∧ cur.size = cap * K.k ∧ cur.toList.take (xs.length * K.k) = xs.flatMap K.enc := by
  rcases h.2 with ⟨hv, _⟩ | ⟨g', cap', cur, hv, hb, hg', h1, h2, h3, h4⟩
  · cases hv
  · injection hv with k1 k2 k3
    injection k1 with k1
    injection k1 with k1
    subst k1 k2 k3
    exact ⟨cur, hg', h3, h4⟩
theorem bytes_mk (s : ByteArray) : (⟨s.data.toList.toArray⟩ : ByteArray) = s := by simp
theorem litClone_facts {s : ByteArray} {w1 : World} {g : Nat} {M : Array Value} (hM : w1.heap[g]? = some (.cells M 5 (0, 0))) (hMs : M.size = s.size) (h0 : s.size ≠ 0) (hs : s.size ≤ 140737488351232) :
    ∃ w2 w3, (Builtin.copy_ #[101, 9] 3 #[.slice (some ⟨g, 0, none⟩) s.size s.size, .string s]).run Try.prog w1 = .ok (.int .i64 s.size) w2 ∧ (Builtin.unsafeString_ #[102, 3] 9 #[.pointer (some ⟨g, 0, none⟩), .int .i64 s.size]).run Try.prog w2 = .ok (.string s) w3 ∧ Only [g] w1 w2 ∧ ∀ w, w.heap.size ≤ g → Only [] w w1 → Only [] w w3 := by
  have hinfo : (Try.prog.info? 5).map (·.size) = some 1 := by kernel_rfl
  have hco : Try.prog.cellsOf 5 = 1 := by kernel_rfl
  have hne : s.data.toList ≠ [] := fun e => h0 (by show s.data.size = 0; rw [← Array.length_toList, e]; rfl)
  have hll : s.data.toList.length = s.size := Array.length_toList ..
  have hcp := Lib.run_copy_row_string (P := Try.prog) w1 101 9 3 5 g 0 s.size s.size s M 5 Try.underlying101 hinfo hM (Nat.le_refl _) (by omega)
  obtain ⟨Y, hY⟩ : ∃ Y, Y = (M.toList.take 0 ++ Lib.byteCells s.data.toList ++ M.toList.drop (0 + s.size)).toArray := ⟨_, rfl⟩
  rw [← hY] at hcp
  have hYl : Y.toList = Lib.byteCells s.data.toList := by
    rw [hY, List.toList_toArray, List.take_zero, List.nil_append, List.drop_of_length_le (by rw [Array.length_toList]; omega), List.append_nil]
  have hYs : Y.size = s.size := by rw [← Array.length_toList, hYl, Lib.byteCells_length, hll]
  have hgY : (w1.setRow g Y).heap[g]? = some (.cells Y 5 (0, 0)) := setRow_heap _ _ M _ 5 (0, 0) hM
  have hUS := Lib.run_unsafeString_row (P := Try.prog) (w1.setRow g Y) 102 3 9 5 Try.underlying102 hco g Y.size (by unfold World.shape?; rw [hgY]) s.data.toList hne (by omega) (by omega)
    (fun j x hx => Lib.cells_of_row hgY Y.size j _ (by rw [List.take_of_length_le (by rw [Array.length_toList]; exact Nat.le_refl _), hYl]; simp [Lib.byteCells, hx]))
  rw [hll, bytes_mk] at hUS
  have o1 : Only [g] w1 (w1.setRow g Y) := ⟨rfl, rfl, rfl, by simp [World.setRow], fun k _ hk => setRow_other _ _ _ _ (by simpa using hk)⟩
  exact ⟨_, _, hcp, hUS, o1, fun w hw ho => Only.of_below (Lib.below_freeze (ho.trans o1 (by simp; omega)).below (p := ⟨g, 0, none⟩) hw _)⟩
set_option maxHeartbeats 4000000 in
theorem litClone_any (s : ByteArray) (w : World) (hs : s.size ≤ 140737488351232) : Calls Try.prog 52 #[.string s] w fun e w' => e = .returned (.string s) ∧ Only [] w w' := by
  by_cases h0 : s.size = 0
  · have : s = ⟨#[]⟩ := ByteArray.ext (Array.eq_empty_of_size_eq_zero h0)
    subst this
    clear h0 hs
    go_enter Try.func52, Try.ntmps52
    go_wp2_with fail
    go_ret
    exact ⟨rfl, Only.refl _ _⟩
  · have q0 : (s.size == 0) = false := by simpa using h0
    have p0 : 0 < s.size := by omega
    have H0 := Lib.hid h0
    clear h0
    go_enter Try.func52, Try.ntmps52
    go_wp2_with (refine wpList_makeS KU (0 : UInt8) rfl w (by rfl) (.tmp 8) (.tmp 8) (by rfl) s.size _ _ (by rfl) (by rfl) rfl rfl (by show 1 * _ ≤ _; omega) ?_; intro w1 hown ho; obtain ⟨M, hM, hMs, -⟩ := hown.cur; obtain ⟨w2, w3, hc1, hc2, -, ho3⟩ := litClone_facts hM (by rw [hMs]; exact Nat.mul_one _) H0.out hs; have HO := Lib.hid (ho3 w (Nat.le_refl _) ho); clear hown ho hM hMs ho3)
    go_ret
    exact ⟨rfl, HO.out⟩
set_option maxHeartbeats 1000000 in
theorem clone_any (s : ByteArray) (w : World) (hs : s.size ≤ 140737488351232) : Calls Try.prog 43 #[.string s] w fun e w' => e = .returned (.string s) ∧ Only [] w w' := by
  have K := Lib.hid (litClone_any s w hs)
  go_enter Try.func43, Try.ntmps43
  go_wp2_with fail
  (with_reducible refine K.out.mono ?_)
  rintro e w1 ⟨rfl, o1⟩
  go_wp2_with fail
  go_ret
  exact ⟨rfl, o1⟩

/-! ### Name -/
set_option maxHeartbeats 1000000 in
theorem name_nil (p : Pd) (s : ByteArray) (w : World) : Calls Try.prog 24 #[.pointer none, .agg p.cs, .string s] w fun e w' => e = .returned (.int .i64 1) ∧ Only [] w w' := by
  have K := Lib.hid (given_nil (w.alloc (.cells p.cs 38)))
  have O := Lib.hid ((Only.refl [] w).alloc (.cells p.cs 38))
  go_enter Try.func24, Try.ntmps24
  go_wp2_with fail
  (with_reducible refine K.out.mono ?_)
  rintro e w1 ⟨rfl, rfl⟩
  go_wp2_with fail
  go_ret
  exact ⟨rfl, O.out⟩
theorem E0b_list {s : ByteArray} (h : s.toList.isEmpty = true) : s = E0b := by
  rw [ByteArray.toList_eq] at h
  exact ByteArray.ext (by have := List.isEmpty_iff.1 h; simpa using this)
theorem E0b_ne {s : ByteArray} (h : s.toList.isEmpty = false) : s ≠ E0b := by
  rintro rfl
  rw [ByteArray.toList_eq] at h
  cases h
set_option maxHeartbeats 8000000 in
theorem name_any {w : World} {b g mb cap : Nat} {T : List Pl} (h : TRep w b g mb cap T) (p : Pd) (s : ByteArray) (hs : s.size ≤ 140737488351232) : Calls Try.prog 24 #[ptA b, .agg p.cs, .string s] w (FreeE w b g mb cap (nameF T p s)) := by
  have H := Lib.hid h
  have h1 := h.alloc (.cells p.cs 38)
  have K0 := Lib.hid (given_any h1)
  have KA := isAtom_any s (w.alloc (.cells p.cs 38)) hs
  have K := Lib.hid (find_any h1 p)
  have bp := Bk.made w 38 p.cs
  obtain ⟨c0, c1⟩ := bp.pid
  have BP := Lib.hid bp
  have O := Lib.hid ((Only.refl [] w).alloc (.cells p.cs 38))
  have H1 := Lib.hid h1
  clear h h1 bp
  cases ha : atomF s with
  | false =>
    have E := Lib.hid (show nameF T p s = (T, 1) by unfold nameF; rw [ha]; rfl)
    rw [ha] at KA
    have KA := Lib.hid KA
    clear ha
    rw [E.out]
    go_enter Try.func24, Try.ntmps24
    go_wp2_with fail
    (with_reducible refine K0.out.mono ?_)
    rintro e w1 ⟨rfl, rfl⟩
    go_wp2_with fail
    (with_reducible refine KA.out.mono ?_)
    rintro e w1 ⟨rfl, rfl⟩
    go_wp2_with fail
    go_ret
    exact ⟨rfl, H1.out, O.out.more (by simp)⟩
  | true =>
  rw [ha] at KA
  have KA := Lib.hid KA
  cases hf : findF T p with
  | none =>
    have E := Lib.hid (show nameF T p s = (T, 3) by unfold nameF; rw [ha, hf]; rfl)
    have HF := Lib.hid hf
    clear hf ha
    rw [E.out]
    go_enter Try.func24, Try.ntmps24
    go_wp2_with fail
    (with_reducible refine K0.out.mono ?_)
    rintro e w1 ⟨rfl, rfl⟩
    go_wp2_with fail
    (with_reducible refine KA.out.mono ?_)
    rintro e w1 ⟨rfl, rfl⟩
    go_wp2_with fail
    (with_reducible refine K.out.mono ?_)
    rintro e w1 ⟨rfl, o1⟩
    rw [HF.out]
    simp only [Option.map_none]
    go_wp2_with fail
    go_ret
    exact ⟨rfl, H1.out.only o1 (by simp) (by simp) (by simp), (O.out.trans o1 (by simp)).more (by simp)⟩
  | some x =>
    obtain ⟨hp0, hx, hal, hg⟩ := find_some hf
    have HX := Lib.hid hx
    have HF := Lib.hid hf
    have HA := Lib.hid ha
    have HL := Lib.hid hal
    have HG := Lib.hid hg
    have HP := Lib.hid hp0
    have EE := Lib.hid (show nameF T p s = if (whereF T s).isSome = true ∨ x.nm ≠ E0b then (T, 141) else (T.set p.n.toNat ⟨x.had, x.al, s⟩, 0) by unfold nameF; rw [ha, hf]; rfl)
    clear hf ha hx hal hg hp0
    cases hw : whereF T s with
    | some q =>
      have E := Lib.hid (show nameF T p s = (T, 141) by rw [EE.out, hw]; rfl)
      have HW := Lib.hid hw
      clear hw EE
      rw [E.out]
      go_enter Try.func24, Try.ntmps24
      go_wp2_with fail
      (with_reducible refine K0.out.mono ?_)
      rintro e w1 ⟨rfl, rfl⟩
      go_wp2_with fail
      (with_reducible refine KA.out.mono ?_)
      rintro e w1 ⟨rfl, rfl⟩
      go_wp2_with fail
      (with_reducible refine K.out.mono ?_)
      rintro e w1 ⟨rfl, o1⟩
      rw [HF.out]
      simp only [Option.map_some]
      have R1 := Lib.hid (H1.out.only o1 (by simp) (by simp) (by simp))
      have O1 := Lib.hid (O.out.trans o1 (by simp))
      have d2 := R1.out.blk.cell0 (i := 2) rfl
      have hm := map_look R1.out.map s
      rw [HW.out] at hm
      dsimp only [Option.getD_some, Option.isSome_some] at hm
      clear o1
      go_wp2_with fail
      go_ret
      exact ⟨rfl, R1.out.alloc _, (O1.out.alloc _).more (by simp)⟩
    | none =>
      have HW := Lib.hid hw
      cases hn : x.nm.toList.isEmpty with
      | false =>
        have E := Lib.hid (show nameF T p s = (T, 141) by rw [EE.out, if_pos (.inr (E0b_ne hn))])
        clear hw EE
        rw [E.out]
        go_enter Try.func24, Try.ntmps24
        go_wp2_with fail
        (with_reducible refine K0.out.mono ?_)
        rintro e w1 ⟨rfl, rfl⟩
        go_wp2_with fail
        (with_reducible refine KA.out.mono ?_)
        rintro e w1 ⟨rfl, rfl⟩
        go_wp2_with fail
        (with_reducible refine K.out.mono ?_)
        rintro e w1 ⟨rfl, o1⟩
        rw [HF.out]
        simp only [Option.map_some]
        have R1 := Lib.hid (H1.out.only o1 (by simp) (by simp) (by simp))
        have O1 := Lib.hid (O.out.trans o1 (by simp))
        have d2 := R1.out.blk.cell0 (i := 2) rfl
        have x2 := R1.out.row.at_ HX.out (j := 2) rfl (q := p.n.toNat * 3 + 2) rfl
        have hm := map_look R1.out.map s
        rw [HW.out] at hm
        dsimp only [Option.getD_none, Option.isSome_none] at hm
        have gl := R1.out.glt
        have gn : g ≠ w1.heap.size := by omega
        clear o1
        go_wp2_with fail
        go_ret
        exact ⟨rfl, R1.out.alloc _, (O1.out.alloc _).more (by simp)⟩
      | true =>
        have hn0 := E0b_list hn
        have E := Lib.hid (show nameF T p s = (T.set p.n.toNat ⟨x.had, x.al, s⟩, 0) by rw [EE.out, hw, if_neg (by rw [hn0]; simp)])
        have HN := Lib.hid hn0
        clear hw EE hn0
        rw [E.out]
        go_enter Try.func24, Try.ntmps24
        go_wp2_with fail
        (with_reducible refine K0.out.mono ?_)
        rintro e w1 ⟨rfl, rfl⟩
        go_wp2_with fail
        (with_reducible refine KA.out.mono ?_)
        rintro e w1 ⟨rfl, rfl⟩
        go_wp2_with fail
        (with_reducible refine K.out.mono ?_)
        rintro e w1 ⟨rfl, o1⟩
        rw [HF.out]
        simp only [Option.map_some]
        have R1 := Lib.hid (H1.out.only o1 (by simp) (by simp) (by simp))
        have O1 := Lib.hid (O.out.trans o1 (by simp))
        have B1 := Lib.hid (BP.out.only o1 (by simp))
        have d2 := R1.out.blk.cell0 (i := 2) rfl
        have x2 := R1.out.row.at_ HX.out (j := 2) rfl (q := p.n.toNat * 3 + 2) rfl
        have hm := map_look R1.out.map s
        rw [HW.out] at hm
        dsimp only [Option.getD_none, Option.isSome_none] at hm
        have gl := R1.out.glt
        have gn : g ≠ w1.heap.size := by omega
        have KC := Lib.hid (clone_any s (w1.alloc (.cells #[.int .i64 0, .int .i64 0] 38)) hs)
        clear o1
        go_wp2_with fail
        (with_reducible refine KC.out.mono ?_)
        rintro e w2 ⟨rfl, o2⟩
        have R2 := Lib.hid ((R1.out.alloc (.cells #[.int .i64 0, .int .i64 0] 38)).only o2 (by simp) (by simp) (by simp))
        have O2 := Lib.hid ((O1.out.alloc (.cells #[.int .i64 0, .int .i64 0] 38)).trans o2 (by simp))
        have b2 := (B1.out.alloc (.cells #[.int .i64 0, .int .i64 0] 38)).only o2 (by simp)
        have y2 := R2.out.row.at_ HX.out (j := 2) rfl (q := p.n.toNat * 3 + 2) rfl
        have fr := R2.out.row.free_
        have e2 := R2.out.blk.cell0 (i := 2) rfl
        obtain ⟨f0, f1⟩ := b2.pid
        have g1 := R2.out.gb
        have g2 : g ≠ w.heap.size := by have := H.out.glt; omega
        have T1 := Lib.hid (R2.out.row.put (i := p.n.toNat) (j := 2) ⟨x.had, x.al, s⟩ HX.out (.string s) (by show 2 < 3; omega) rfl (q := p.n.toNat * 3 + 2) rfl)
        have W3 := Lib.hid ((Only.refl [g] w2).set (p := ⟨g, p.n.toNat * 3 + 2, none⟩) (.inl (by simp)) (.string s))
        clear o2 b2 x2 hm d2 K0 KA K KC
        go_wp2_with fail
        refine wp_region_quiet_then 9 (by kernel_rfl) (by kernel_rfl) ?_
        simp only [List.take_succ_cons, List.take_zero, List.drop_succ_cons, List.drop_zero]
        repeat (go_big_quiet_step (fail))
        refine wpQuiet_nil ?_
        intro q
        have M3 := (R2.out.map.only W3.out (by have := R2.out.mg; simp; omega)).only ((Only.refl [] _).drewN q) (by simp)
        obtain ⟨w4, hd, hm4, o4⟩ := map_put M3 s p HW.out
        have HM4 := Lib.hid hm4
        have O4 := Lib.hid o4
        clear M3 hm4 o4
        go_wp2_with fail
        go_ret
        have l1 : (T.set p.n.toNat ⟨x.had, x.al, s⟩).length = T.length := List.length_set ..
        have o5 := O4.out
        have hmg := R2.out.mg
        have hmb := R2.out.mb_
        have ok2 := H.out.ok.name p s
        rw [E.out] at ok2
        refine ⟨rfl, ⟨by rw [l1]; exact ((R2.out.blk.only W3.out (by simp; omega)).drewN q).only o5 (by simp; omega), by rw [l1]; exact OwnS.only (T1.out.drewN q) o5 (fun g' e => by
          injection e with e
          subst e
          simp; omega), HM4.out.ext fun u => ?_, ok2⟩, ?_⟩
        · have := where_nam H.out.ok HA.out HX.out HL.out HN.out HW.out u
          have e1 : (⟨((p.n.toNat : Nat) : Int), x.had⟩ : Pd) = p := by
            have h1 := HP.out
            have h2 := HG.out
            obtain ⟨pn, pg⟩ := p
            simp only at h1 h2 ⊢
            rw [h2, Int.toNat_of_nonneg h1]
          rw [e1] at this
          exact this.symm
        · exact ((((O2.out.more (T := [g, mb]) (by simp)).trans W3.out (by simp)).drewN q).trans o5 (by simp))
end Go.Proofs.Ytlidnlcmnkagaaa
