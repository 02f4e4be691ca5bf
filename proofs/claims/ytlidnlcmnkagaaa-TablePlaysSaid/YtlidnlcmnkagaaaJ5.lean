/- Add, Live, Gens of the program's table; of none at all. -/
import Derived.Test.YtlidnlcmnkagaaaJ4
namespace Go.Proofs.Ytlidnlcmnkagaaa
open Go.RowKit
set_option maxRecDepth 20000

theorem addI_hit {T : List Pl} {k : Nat} {x : Pl} (hx : T[k]? = some x) (hm : mayB x = true) (hb : ∀ (j : Nat) (y : Pl), j < k → T[j]? = some y → mayB y = false) : addI 0 T = some (k, x) := by
  obtain ⟨h1, h2⟩ := addI_spec T 0
  cases h : addI 0 T with
  | none => rw [h2 h k x hx] at hm; cases hm
  | some p =>
    obtain ⟨n, y⟩ := p
    obtain ⟨_, a, b, c⟩ := h1 n y h
    rw [Nat.sub_zero] at a c
    by_cases h3 : n < k
    · rw [hb n y h3 a] at b; cases b
    · by_cases h4 : k < n
      · rw [c k x h4 hx] at hm; cases hm
      · have : n = k := by omega
        subst this
        rw [hx] at a
        injection a with a
        rw [a]
theorem addI_no {T : List Pl} (hb : ∀ (j : Nat) (y : Pl), T[j]? = some y → mayB y = false) : addI 0 T = none := by
  obtain ⟨h1, h2⟩ := addI_spec T 0
  cases h : addI 0 T with
  | none => rfl
  | some p =>
    obtain ⟨n, y⟩ := p
    obtain ⟨_, a, b, c⟩ := h1 n y h
    rw [Nat.sub_zero] at a
    rw [hb n y a] at b
    cases b
def idxI (o : Option (Nat × Pl)) : Int := match o with
  | some (n, _) => n
  | none => -1
set_option maxHeartbeats 1000000 in
theorem may_any (x : Pl) (w : World) : Calls Try.prog 38 #[.agg x.cs] w fun e w' => e = .returned (.bool (mayB x)) ∧ Only [] w w' := by
  obtain ⟨h, a, s⟩ := x
  have O := Lib.hid ((Only.refl [] w).alloc (.cells #[.int .i64 h, .bool a, .string s] 79))
  cases a with
  | true =>
    rw [show mayB ⟨h, true, s⟩ = false from rfl]
    go_enter Try.func38, Try.ntmps38
    go_wp2_with fail
    go_ret
    exact ⟨rfl, O.out⟩
  | false =>
    rw [show mayB ⟨h, false, s⟩ = decide (h < MX) from by simp [mayB]]
    go_enter Try.func38, Try.ntmps38
    go_wp2_with fail
    go_ret
    exact ⟨rfl, O.out⟩
set_option maxHeartbeats 4000000 in
theorem index_any {w : World} {g cap : Nat} {T : List Pl} (h : OwnS KL w 0 (.slice (some ⟨g, 0, none⟩) T.length cap) T) (hl : T.length ≤ 256) :
    Calls Try.prog 37 #[.slice (some ⟨g, 0, none⟩) T.length cap, .func (.func 38) #[] #[]] w fun e w' => e = .returned (.int .i64 (idxI (addI 0 T))) ∧ Only [] w w' := by
  have H := Lib.hid h
  have KM := Lib.hid (fun x w => may_any x w)
  clear h
  go_enter Try.func37, Try.ntmps37
  go_wp2_with fail
  go_loopw [5, 8] (fun _ kv wr => ∃ k : Nat, kv = .int .i64 k ∧ k ≤ T.length ∧ (∀ (j : Nat) (y : Pl), j < k → T[j]? = some y → mayB y = false) ∧ Only [] w wr) (fun _ kv _ => T.length - (intOf kv).toNat)
  case atStart => exact ⟨0, rfl, Nat.zero_le _, fun j y hj => absurd hj (Nat.not_lt_zero _), Only.refl _ _⟩
  case round =>
    obtain ⟨k, rfl, hk, hb, o⟩ := hrel
    have HB := Lib.hid hb
    have O := Lib.hid o
    clear hb
    by_cases hlt : k < T.length
    · obtain ⟨x, hx⟩ := some_at hlt
      have r := H.out.only o (by simp)
      have x0 := r.at_ hx (j := 0) rfl (q := k * 3) (by show _ = k * 3 + 0; omega)
      have x1 := r.at_ hx (j := 1) rfl (q := k * 3 + 1) rfl
      have x2 := r.at_ hx (j := 2) rfl (q := k * 3 + 2) rfl
      have HX := Lib.hid hx
      clear r o hx
      have K1 := Lib.hid (KM.out x wr)
      cases hm : mayB x with
      | true =>
        rw [hm] at K1
        have E := Lib.hid (addI_hit HX.out hm HB.out)
        clear hm
        go_wp2_with fail
        (with_reducible refine K1.out.mono ?_)
        rintro e w1 ⟨rfl, o1⟩
        go_wp2_with fail
        go_ret
        exact ⟨by rw [E.out]; rfl, O.out.trans o1 (by simp)⟩
      | false =>
        rw [hm] at K1
        have N := Lib.hid (show ∀ (j : Nat) (y : Pl), j < k + 1 → T[j]? = some y → mayB y = false from fun j y hj hy => by
          by_cases h : j < k
          · exact HB.out j y h hy
          · have : j = k := by omega
            subst this
            rw [HX.out] at hy
            injection hy with hy
            rw [← hy]
            exact hm)
        clear hm
        go_wp2_with fail
        (with_reducible refine K1.out.mono ?_)
        rintro e w1 ⟨rfl, o1⟩
        have O1 := Lib.hid (O.out.trans o1 (by simp))
        clear o1
        go_wp2_with fail
        go_roundw
        case rel => exact ⟨k + 1, by go_num, by omega, N.out, O1.out⟩
        case measure => simp [intOf]; omega
    · have e : k = T.length := by omega
      subst e
      have E := Lib.hid (addI_no (T := T) (fun j y hy => HB.out j y (List.getElem?_eq_some_iff.1 hy).1 hy))
      clear o
      go_wp2_with fail
      go_ret
      exact ⟨by rw [E.out]; rfl, O.out⟩

/-! ### Add -/
set_option maxHeartbeats 1000000 in
theorem add_nil (w : World) : Calls Try.prog 16 #[.pointer none] w fun e w' => e = .returned (pidE P0 1) ∧ Only [] w w' := by
  have K := Lib.hid (given_nil (w.alloc (.cells P0.cs 38)))
  have O := Lib.hid ((Only.refl [] w).alloc (.cells P0.cs 38))
  go_enter Try.func16, Try.ntmps16
  go_wp2_with fail
  (with_reducible refine K.out.mono ?_)
  rintro e w1 ⟨rfl, rfl⟩
  go_wp2_with fail
  refine bodyPost_ret (v := pidE P0 1) (by simp [results, Try.results16, go_sem]) rfl ⟨rfl, O.out⟩
def AddE (w : World) (b g mb cap : Nat) (r : List Pl × Pd × Int) (e : Ending) (w' : World) : Prop := e = .returned (pidE r.2.1 r.2.2) ∧ TRep w' b g mb cap r.1 ∧ Only [g] w w'
set_option maxHeartbeats 4000000 in
theorem add_any {w : World} {b g mb cap : Nat} {T : List Pl} (h : TRep w b g mb cap T) : Calls Try.prog 16 #[ptA b] w (AddE w b g mb cap (addF T)) := by
  have H := Lib.hid h
  have h1 := h.alloc (.cells P0.cs 38)
  have K0 := Lib.hid (given_any h1)
  have K := Lib.hid (index_any h1.row h.ok.len.2)
  have d1 := h1.blk.cell0 (i := 1) rfl
  have O := Lib.hid ((Only.refl [] w).alloc (.cells P0.cs 38))
  have B := Lib.hid (Bk.made w 38 P0.cs)
  have H1 := Lib.hid h1
  have hcap := h.caps
  have hlen := h.ok.len
  clear h h1
  cases hf : addI 0 T with
  | none =>
    have E := Lib.hid (show addF T = (T, P0, 140) by unfold addF; rw [hf])
    rw [hf] at K
    simp only [idxI] at K
    clear hf
    rw [E.out]
    go_enter Try.func16, Try.ntmps16
    go_wp2_with fail
    (with_reducible refine K0.out.mono ?_)
    rintro e w1 ⟨rfl, rfl⟩
    go_wp2_with fail
    (with_reducible refine K.out.mono ?_)
    rintro e w1 ⟨rfl, o1⟩
    have b1 := B.out.only o1 (by simp)
    have z0 := b1.cell0 (i := 0) rfl
    have z1 := b1.cell0 (i := 1) rfl
    have zf := b1.free
    have H2 := Lib.hid (H1.out.only o1 (by simp) (by simp) (by simp))
    have O2 := Lib.hid (O.out.trans o1 (by simp))
    clear o1 b1
    go_wp2_with fail
    have L : w.heap.size ≤ w.heap.size := Nat.le_refl _
    refine bodyPost_ret (v := pidE P0 140) (by simp [results, Try.results16, go_sem, z0, z1]) rfl ⟨rfl, ?_, ?_⟩
    · have o3 := ((Only.refl [w.heap.size] w1).set (p := ⟨w.heap.size, 0, none⟩) (.inl (by simp)) (.int .i64 0)).set (p := ⟨w.heap.size, 1, none⟩) (.inl (by simp)) (.int .i64 0)
      have hb := H.out.blk.lt
      have hg := H.out.glt
      have hm := H.out.map.lt
      exact H2.out.only o3 (by simp; omega) (by simp; omega) (by simp; omega)
    · exact ((O2.out.set (p := ⟨w.heap.size, 0, none⟩) (.inr L) (.int .i64 0)).set (p := ⟨w.heap.size, 1, none⟩) (.inr L) (.int .i64 0)).more (by simp)
  | some q =>
    obtain ⟨n, x⟩ := q
    obtain ⟨_, hx, hm, _⟩ := (addI_spec T 0).1 n x hf
    rw [Nat.sub_zero] at hx
    have hn := (List.getElem?_eq_some_iff.1 hx).1
    have hbd := H.out.ok.bd n x hx
    have OK2 := Lib.hid H.out.ok.add
    have WH := Lib.hid (fun s => where_add H.out.ok s)
    have E := Lib.hid (show addF T = (T.set n ⟨x.had + 1, true, x.nm⟩, ⟨n, x.had + 1⟩, 0) by unfold addF; rw [hf])
    rw [hf] at K
    simp only [idxI] at K
    simp only [mayB, Bool.and_eq_true, Bool.not_eq_true', decide_eq_true_eq] at hm
    obtain ⟨xh, xa, xn⟩ := x
    dsimp only at hm hbd E
    have q0 : decide ((n : Int) < 0) = false := decide_eq_false (by omega)
    have HX := Lib.hid hx
    have hb1 := hbd.1.1
    have hb2 : xh < 4611686018427387903 := hm.2
    clear hf hx hm hbd
    rw [E.out]
    go_enter Try.func16, Try.ntmps16
    go_wp2_with fail
    (with_reducible refine K0.out.mono ?_)
    rintro e w1 ⟨rfl, rfl⟩
    go_wp2_with fail
    (with_reducible refine K.out.mono ?_)
    rintro e w1 ⟨rfl, o1⟩
    have b1 := B.out.only o1 (by simp)
    have z0 := b1.cell0 (i := 0) rfl
    have z1 := b1.cell0 (i := 1) rfl
    have zf := b1.free
    have H2 := Lib.hid (H1.out.only o1 (by simp) (by simp) (by simp))
    have O2 := Lib.hid (O.out.trans o1 (by simp))
    have e1 := H2.out.blk.cell0 (i := 1) rfl
    have y0 := H2.out.row.at_ HX.out (j := 0) rfl (q := n * 3) (by show _ = n * 3 + 0; omega)
    have y1 := H2.out.row.at_ HX.out (j := 1) rfl (q := n * 3 + 1) rfl
    have yf := H2.out.row.free_
    have ne : w.heap.size ≠ g := by have := H.out.glt; omega
    have ne2 : b ≠ g := fun e => H.out.gb e.symm
    clear o1 b1
    go_wp2_with fail
    have L : w.heap.size ≤ w.heap.size := Nat.le_refl _
    have T1 := (H2.out.row.put (i := n) (j := 0) ⟨xh + 1, xa, xn⟩ HX.out (.int .i64 (xh + 1)) (by show 0 < 3; omega) rfl (q := n * 3) (by show _ = n * 3 + 0; omega)).put (x := ⟨xh + 1, xa, xn⟩) (j := 1) (i := n) ⟨xh + 1, true, xn⟩ (by rw [List.getElem?_set_self hn]) (.bool true) (by show 1 < 3; omega) rfl (q := n * 3 + 1) rfl
    simp only [List.set_set] at T1
    have W3 : Only [g] w1 ((w1.setCell ⟨g, n * 3, none⟩ (.int .i64 (xh + 1))).setCell ⟨g, n * 3 + 1, none⟩ (.bool true)) := ((Only.refl _ w1).set (.inl (by simp)) _).set (.inl (by simp)) _
    have l1 : (T.set n ⟨xh + 1, true, xn⟩).length = T.length := List.length_set ..
    have ok2 := OK2.out
    have wh := WH.out
    rw [E.out] at ok2 wh
    have T2 : TRep ((w1.setCell ⟨g, n * 3, none⟩ (.int .i64 (xh + 1))).setCell ⟨g, n * 3 + 1, none⟩ (.bool true)) b g mb cap (T.set n ⟨xh + 1, true, xn⟩) :=
      ⟨by rw [l1]; exact H2.out.blk.only W3 (by simp; omega), by rw [l1]; exact T1, (H2.out.map.only W3 (by have := H2.out.mg; simp; omega)).ext fun s => (wh s).symm, ok2⟩
    refine bodyPost_ret (v := pidE ⟨n, xh + 1⟩ 0) (by simp [results, Try.results16, go_sem, z0, z1]) rfl ⟨rfl, ?_, ?_⟩
    · have o3 := ((Only.refl [w.heap.size] ((w1.setCell ⟨g, n * 3, none⟩ (.int .i64 (xh + 1))).setCell ⟨g, n * 3 + 1, none⟩ (.bool true))).set (p := ⟨w.heap.size, 0, none⟩) (.inl (by simp)) (.int .i64 n)).set (p := ⟨w.heap.size, 1, none⟩) (.inl (by simp)) (.int .i64 (xh + 1))
      have hb := H.out.blk.lt
      have hg := H.out.glt
      have hm := H.out.map.lt
      exact T2.only o3 (by simp; omega) (by simp; omega) (by simp; omega)
    · exact (((O2.out.more (T := [g]) (by simp)).trans W3 (by simp)).set (p := ⟨w.heap.size, 0, none⟩) (.inr L) (.int .i64 n)).set (p := ⟨w.heap.size, 1, none⟩) (.inr L) (.int .i64 (xh + 1))

/-! ### Live, Gens -/
theorem pidsG_take : ∀ (T : List Pl) (i k : Nat) (x : Pl), T[k]? = some x → pidsG i (T.take (k + 1)) = pidsG i (T.take k) ++ if x.al = true then [⟨((i + k : Nat) : Int), x.had⟩] else []
  | [], _, _, _, h => by simp at h
  | y :: r, i, 0, x, h => by
    simp at h
    subst h
    simp only [Nat.zero_add, List.take_succ_cons, List.take_zero, pidsG, List.nil_append, Nat.add_zero]
  | y :: r, i, k + 1, x, h => by
    have ih := pidsG_take r (i + 1) k x (by simpa using h)
    rw [List.take_succ_cons, List.take_succ_cons]
    simp only [pidsG]
    rw [ih, show i + 1 + k = i + (k + 1) by omega]
    split <;> simp
theorem pidsG_len : ∀ (T : List Pl) (i : Nat), (pidsG i T).length ≤ T.length
  | [], _ => Nat.le_refl _
  | x :: r, i => by
    have := pidsG_len r (i + 1)
    unfold pidsG
    split
    · simp; omega
    · simp; omega
set_option maxHeartbeats 1000000 in
theorem live_nil (w : World) : Calls Try.prog 22 #[.pointer none] w fun e w' => e = .returned (.slice none 0 0) ∧ w = w' := by
  have K := Lib.hid (given_nil w)
  go_enter Try.func22, Try.ntmps22
  go_wp2_with fail
  (with_reducible refine K.out.mono ?_)
  rintro e w1 ⟨rfl, rfl⟩
  go_wp2_with fail
  go_ret
  exact ⟨rfl, rfl⟩
set_option maxHeartbeats 1000000 in
theorem gens_nil (w : World) : Calls Try.prog 28 #[.pointer none] w fun e w' => e = .returned (.slice none 0 0) ∧ w = w' := by
  have K := Lib.hid (given_nil w)
  go_enter Try.func28, Try.ntmps28
  go_wp2_with fail
  (with_reducible refine K.out.mono ?_)
  rintro e w1 ⟨rfl, rfl⟩
  go_wp2_with fail
  go_ret
  exact ⟨rfl, rfl⟩
abbrev hads (T : List Pl) : List Int := T.map Pl.had
theorem hads_at {T : List Pl} {k : Nat} (h : k < T.length) : (hads (T.take k) ++ List.replicate (T.length - k) (0 : Int))[k]? = some 0 := by
  rw [List.getElem?_append_right (by simp; omega), List.getElem?_replicate, if_pos (by simp; omega)]
theorem hads_set {T : List Pl} {k : Nat} {x : Pl} (h : T[k]? = some x) : (hads (T.take k) ++ List.replicate (T.length - k) (0 : Int)).set k x.had = hads (T.take (k + 1)) ++ List.replicate (T.length - (k + 1)) 0 := by
  have hk := (List.getElem?_eq_some_iff.1 h).1
  rw [List.set_append_right _ _ (by simp; omega), List.take_add_one, h, show T.length - k = (T.length - (k + 1)) + 1 by omega, List.replicate_succ]
  simp only [hads, List.length_map, List.length_take, Option.toList_some, List.map_append, List.map_cons, List.map_nil]
  rw [show k - min k T.length = 0 by omega]
  simp
def RowE {α : Type} (K : Sk α) (w : World) (xs : List α) (e : Ending) (w' : World) : Prop := ∃ v, e = .returned v ∧ OwnS K w' w.heap.size v xs ∧ Only [] w w'
set_option maxHeartbeats 4000000 in
theorem live_any {w : World} {b g mb cap : Nat} {T : List Pl} (h : TRep w b g mb cap T) : Calls Try.prog 22 #[ptA b] w (RowE KP w (pidsF T)) := by
  have H := Lib.hid h
  have K := Lib.hid (given_any h)
  have d1 := h.blk.cell0 (i := 1) rfl
  have hlen := h.ok.len.2
  clear h
  go_enter Try.func22, Try.ntmps22
  go_wp2_with fail
  (with_reducible refine K.out.mono ?_)
  rintro e w1 ⟨rfl, rfl⟩
  go_wp2_with fail
  go_loopw [3, 4, 5, 14] (fun ov _ _ kv wr => ∃ k : Nat, kv = .int .i64 k ∧ k ≤ T.length ∧ OwnS KP wr w.heap.size ov (pidsG 0 (T.take k)) ∧ Only [] w wr) (fun _ _ _ kv _ => T.length - (intOf kv).toNat)
  case atStart => exact ⟨0, rfl, Nat.zero_le _, OwnS.nil _ _ _, Only.refl _ _⟩
  case round =>
    obtain ⟨k, rfl, hk, hv, o⟩ := hrel
    have HV := Lib.hid hv
    have O := Lib.hid o
    have hsz := o.size
    by_cases hlt : k < T.length
    · obtain ⟨x, hx⟩ := some_at hlt
      have r := H.out.row.only o (by simp)
      have x0 := r.at_ hx (j := 0) rfl (q := k * 3) (by show _ = k * 3 + 0; omega)
      have x1 := r.at_ hx (j := 1) rfl (q := k * 3 + 1) rfl
      have x2 := r.at_ hx (j := 2) rfl (q := k * 3 + 2) rfl
      have ht := pidsG_take T 0 k x hx
      rw [Nat.zero_add] at ht
      have hle := pidsG_len (T.take k) 0
      rw [List.length_take] at hle
      obtain ⟨xh, xa, xn⟩ := x
      dsimp only at x0 x1 x2 ht
      clear r o hx hv
      cases xa with
      | false =>
        have HT := Lib.hid ht
        clear ht
        have HV1 := Lib.hid (HV.out.alloc (.cells #[.int .i64 xh, .bool false, .string xn] 79))
        have O1 := Lib.hid (O.out.alloc (.cells #[.int .i64 xh, .bool false, .string xn] 79))
        go_wp2_with fail
        go_roundw
        case rel => exact ⟨k + 1, by go_num, by omega, by rw [HT.out]; simpa using HV1.out, O1.out⟩
        case measure => simp [intOf]; omega
      | true =>
        have HT := Lib.hid ht
        clear ht
        have LL : ((pidsG 0 (T.take k)).length + [(⟨(k : Int), xh⟩ : Pd)].length) * KP.by' ≤ 140737488355328 := by show (_ + 1) * 16 ≤ _; omega
        have L0 : w.heap.size ≤ wr.heap.size + 1 + 1 := by omega
        have HV1 := Lib.hid ((HV.out.alloc (.cells #[.int .i64 xh, .bool true, .string xn] 79)).alloc (.cells #[.int .i64 (k : Int), .int .i64 xh] 38))
        have O1 := Lib.hid ((O.out.alloc (.cells #[.int .i64 xh, .bool true, .string xn] 79)).alloc (.cells #[.int .i64 (k : Int), .int .i64 xh] 38))
        go_wp2_with (at_builtin; refine wpList_appS KP _ (by rfl) (.tmp 21) (.tmp 26) (by rfl) (by rfl) HV1.out (some ⟨wr.heap.size + 1, 0, none⟩) [⟨(k : Int), xh⟩] 1 1 (by rfl) rfl (RdS.one (Bk.newAt (by simp)) rfl) (by simp; omega) LL ?_; intro v' w1 hown hgrow hat; have G1 := Lib.hid (HV1.out.goes hgrow O1.out (Nat.le_refl _)); have G2 := Lib.hid hown; clear hgrow hown hat)
        go_roundw
        case rel => exact ⟨k + 1, by go_num, by omega, by rw [HT.out]; exact G2.out, G1.out⟩
        case measure => simp [intOf]; omega
    · have e : k = T.length := by omega
      subst e
      have E := Lib.hid (show RowE KP w (pidsF T) (.returned u3) wr from ⟨u3, rfl, by have := HV.out; rwa [List.take_length] at this, O.out⟩)
      clear o hv
      go_wp2_with fail
      go_ret
      exact E.out
set_option maxHeartbeats 4000000 in
theorem gens_any {w : World} {b g mb cap : Nat} {T : List Pl} (h : TRep w b g mb cap T) : Calls Try.prog 28 #[ptA b] w (fun e w' => e = .returned (.slice (some ⟨w.heap.size, 0, none⟩) T.length T.length) ∧ OwnS KI w' w.heap.size (.slice (some ⟨w.heap.size, 0, none⟩) T.length T.length) (hads T) ∧ Only [] w w') := by
  have H := Lib.hid h
  have K := Lib.hid (given_any h)
  have d1 := h.blk.cell0 (i := 1) rfl
  have hlen := h.ok.len.2
  clear h
  go_enter Try.func28, Try.ntmps28
  go_wp2_with fail
  (with_reducible refine K.out.mono ?_)
  rintro e w1 ⟨rfl, rfl⟩
  go_wp2_with (refine wpList_makeS KI (0 : Int) rfl w (by rfl) (.tmp 13) (.tmp 13) (by rfl) T.length _ _ (by rfl) (by rfl) rfl rfl (by show 8 * _ ≤ _; omega) ?_; intro w1 hown ho; have HO := Lib.hid hown; have O := Lib.hid ho; have H2 := Lib.hid (H.out.only ho (by simp) (by simp) (by simp)); have d2 := H2.out.blk.cell0 (i := 1) rfl; clear hown ho)
  go_loopw [4, 5, 20] (fun _ _ kv wr => ∃ k : Nat, kv = .int .i64 k ∧ k ≤ T.length ∧ OwnS KI wr w.heap.size (.slice (some ⟨w.heap.size, 0, none⟩) T.length T.length) (hads (T.take k) ++ List.replicate (T.length - k) 0) ∧ Only [] w wr) (fun _ _ kv _ => T.length - (intOf kv).toNat)
  case atStart => exact ⟨0, rfl, Nat.zero_le _, by simpa using HO.out, O.out⟩
  case round =>
    clear HO O H2 d2
    obtain ⟨k, rfl, hk, hv, o⟩ := hrel
    have HV := Lib.hid hv
    have O := Lib.hid o
    by_cases hlt : k < T.length
    · obtain ⟨x, hx⟩ := some_at hlt
      have r := H.out.row.only o (by simp)
      have x0 := r.at_ hx (j := 0) rfl (q := k * 3) (by show _ = k * 3 + 0; omega)
      have x1 := r.at_ hx (j := 1) rfl (q := k * 3 + 1) rfl
      have x2 := r.at_ hx (j := 2) rfl (q := k * 3 + 2) rfl
      have hz := hads_at hlt
      have hs := hads_set hx
      have y0 := (hv.alloc (.cells x.cs 79)).at_ hz (j := 0) rfl (q := k) (by show k = k * 1 + 0; omega)
      have yf := (hv.alloc (.cells x.cs 79)).free_ k
      have N := Lib.hid ((hv.alloc (.cells x.cs 79)).put (j := 0) x.had hz (.int .i64 x.had) (by show 0 < 1; omega) rfl (q := k) (by show k = k * 1 + 0; omega))
      rw [hs] at N
      have ne : w.heap.size ≠ wr.heap.size := by
        obtain ⟨cur, hc⟩ := hv.obj
        have := hc.lt
        omega
      have O1 := Lib.hid ((o.alloc (.cells x.cs 79)).set (p := ⟨w.heap.size, k, none⟩) (.inr (Nat.le_refl _)) (.int .i64 x.had))
      have p1 : (k : Int) < (T.length : Int) := by omega
      clear r o hx hv hz hs
      go_wp2_with fail
      go_roundw
      case rel => exact ⟨k + 1, by go_num, by omega, N.out, O1.out⟩
      case measure => simp [intOf]; omega
    · have e : k = T.length := by omega
      subst e
      clear o hv
      go_wp2_with fail
      go_ret
      exact ⟨rfl, by have := HV.out; simpa using this, O.out⟩
end Go.Proofs.Ytlidnlcmnkagaaa
