/- The document's tokens: numbers. -/
import Derived.Test.YtlpafnibcmcjgaaGreatDoorD5
import Derived.Test.YtlpafnibcmcjgaaGreatDoorD3
namespace Go.Proofs.YtlpafnibcmcjgaaGreatDoor
open Go.RowKit

theorem int_map {o : Option Int} {n : Int} {ok : Bool} (h : o = if ok = true then some n else none) (hi : ∀ v, o = some v → OkI v = true) : (if (ok && okT (.int n)) = true then some (T.int n) else none) = o.map T.int := by
  cases ok with
  | false => subst h; rfl
  | true =>
    have h2 := hi n (by rw [h]; rfl)
    subst h
    simp [okT, h2]
theorem refN_ok {l : List UInt8} (v : Int) (h : refN l = some v) : OkI v = true := (refN_some.1 h).2
theorem comM_bad {a b : Option Int} {n m : Int} {ok fine : Bool} (ha : a = if ok = true then some n else none) (hb : b = if fine = true then some m else none) (h : ok = false ∨ fine = false ∨ okPart n = false ∨ okPart m = false) : comM a b = none := by
  subst ha hb
  cases ok with
  | false => exact comM_no (.inl rfl)
  | true =>
    cases fine with
    | false => exact comM_no (.inr rfl)
    | true =>
      have : (okPart n && okPart m) = false := by
        rcases h with h | h | h | h
        · cases h
        · cases h
        · rw [h]; rfl
        · rw [h, Bool.and_false]
      simp [comM, this]
theorem comM_good {a b : Option Int} {n m : Int} (ha : a = if true = true then some n else none) (hb : b = if true = true then some m else none) (hn : okPart n = true) (hm : okPart m = true) : (if (true && okT (.com n m)) = true then some (T.com n m) else none) = comM a b := by
  subst ha hb
  have : okT (.com n m) = true := by simp [okT, hn, hm]
  simp [comM, hn, hm, this]
theorem part_of {n : Int} (h1 : -1073741824 ≤ n) (h2 : n ≤ 1073741824) : okPart n = true := by simp [okPart]; omega
theorem part_not {n : Int} (h : n < -1073741824 ∨ 1073741824 < n) : okPart n = false := by
  rw [← Bool.not_eq_true]
  intro h2
  have := okPart_bd h2
  omega
theorem ext_le {s : ByteArray} {j e : Nat} (hs : s.size ≤ 262144) : (s.extract j e).size ≤ 262144 := by rw [← lst_len, ext_lst, List.length_take, List.length_drop, lst_len]; omega
theorem number_to (s : ByteArray) (j e : Nat) (w : World) (hs : s.size ≤ 262144) : Calls Tryz.prog 48 #[.string (s.extract j e)] w fun v w' => NumE (lst (s.extract j e)) v ∧ w = w' := ref_number _ w (ext_le hs)
set_option maxHeartbeats 8000000 in
theorem number_int (s : ByteArray) (j e d : Nat) (w : World) (hs : s.size ≤ 262144) (h1 : j ≤ e) (h2 : e ≤ s.size) (hd : e < s.size → runOf isDig ((lst s).drop (e + 1)) = d)
    (hno : ¬ ∃ sg, (lst s)[e]? = some sg ∧ isPM sg = true ∧ d ≠ 0 ∧ (lst s)[e + 1 + d]? = some 105) :
    Calls Tryz.prog 47 #[.string s, .int .i64 j, .int .i64 e] w fun v w' => Tkn ((refN (lst (s.extract j e))).map T.int) j e v ∧ Only [] w w' := by
  have rs := store_com
  have B1 := Lib.hid (Bk.made w 52 Z11)
  have O0 := Lib.hid ((Only.refl [] w).alloc (.cells Z11 52))
  have NA := Lib.hid (fun w => number_to s j e w hs)
  by_cases hE : e < s.size
  · have hd' := hd hE
    cases c43 : (((s[e]'hE).toNat : Int) == 43)
    · cases c45 : (((s[e]'hE).toNat : Int) == 45)
      · clear hno hd hd'
        go_enter Tryz.func47, Tryz.ntmps47
        go_wp2_with fail
        (with_reducible refine (NA.out _).mono ?_)
        rintro v0 w0 ⟨⟨n, ok, rfl, hr⟩, rfl⟩
        have M := Lib.hid (fun w => made_to (o := (refN (lst (s.extract j e))).map T.int) (.int n) trivial (by simp) ok 3 n 0 0 ⟨#[]⟩ 0 0 rfl j e w (int_map hr refN_ok))
        clear hr
        go_wp2_with fail
        (with_reducible refine (M.out _).mono ?_)
        rintro e1 w1 ⟨ht, o1⟩
        have HT := Lib.hid ht
        obtain ⟨kd, k', n', x, y, S, a, b, e', rfl⟩ := tkn_cells ht
        obtain ⟨z0, z1, z2, z3, z4, z5, z6, z7, z8, z9, z10⟩ := (B1.out.only o1 (by simp)).eleven
        have zf := (B1.out.only o1 (by simp)).free
        have O1 := Lib.hid (O0.out.trans o1 (by simp))
        clear o1 ht
        go_wp2_with fail
        refine bodyPost_ret (v := .agg (tks kd 0 k' n' x y S a b (.slice none 0 0) j e')) (by simp [results, Tryz.results47, go_sem, z0, z1, z2, z3, z4, z5, z6, z7, z8, z9, z10]) rfl ⟨HT.out, ?_⟩
        exact O1.out.set11 (by omega)
      · obtain ⟨q, hq⟩ : ∃ q, e + 1 + d = q := ⟨_, rfl⟩
        have hql : q ≤ s.size := by
          have := runOf_le isDig ((lst s).drop (e + 1))
          rw [List.length_drop, lst_len] at this
          omega
        have D := Lib.hid (fun w => digits_to s ((e : Int) + 1) (e + 1) q w hs (by omega) (by omega) (by rw [hd']; exact hq))
        have hpm : isPM (s[e]'hE) = true := by
          simp only [isPM, Bool.or_eq_true, decide_eq_true_eq]
          have := eq_of_beq c45; omega
        by_cases hd0 : d = 0
        · have hq1 : ¬ ((e : Int) + 1 < (q : Int)) := by omega
          clear hno hd hd' hpm hq
          go_enter Tryz.func47, Tryz.ntmps47
          go_wp2_with fail
          (with_reducible refine (NA.out _).mono ?_)
          rintro v0 w0 ⟨⟨n, ok, rfl, hr⟩, rfl⟩
          have M := Lib.hid (fun w => made_to (o := (refN (lst (s.extract j e))).map T.int) (.int n) trivial (by simp) ok 3 n 0 0 ⟨#[]⟩ 0 0 rfl j e w (int_map hr refN_ok))
          clear hr
          go_wp2_with fail
          (with_reducible refine (D.out _).mono ?_)
          rintro e1 w' ⟨rfl, rfl⟩
          go_wp2_with fail
          (with_reducible refine (M.out _).mono ?_)
          rintro e1 w1 ⟨ht, o1⟩
          have HT := Lib.hid ht
          obtain ⟨kd, k', n', x, y, S, a, b, e', rfl⟩ := tkn_cells ht
          obtain ⟨z0, z1, z2, z3, z4, z5, z6, z7, z8, z9, z10⟩ := (B1.out.only o1 (by simp)).eleven
          have zf := (B1.out.only o1 (by simp)).free
          have O1 := Lib.hid (O0.out.trans o1 (by simp))
          clear o1 ht
          go_wp2_with fail
          refine bodyPost_ret (v := .agg (tks kd 0 k' n' x y S a b (.slice none 0 0) j e')) (by simp [results, Tryz.results47, go_sem, z0, z1, z2, z3, z4, z5, z6, z7, z8, z9, z10]) rfl ⟨HT.out, ?_⟩
          exact O1.out.set11 (by omega)
        · have hq1 : (e : Int) + 1 < (q : Int) := by omega
          by_cases hq2 : q < s.size
          · have ci : (((s[q]'hq2).toNat : Int) == 105) = false := by
              rw [beq_eq_false_iff_ne]
              intro h
              refine hno ⟨_, lst_at hE, hpm, hd0, ?_⟩
              rw [hq, lst_at hq2]
              congr 1
              exact UInt8.toNat_inj.1 (by show _ = 105; omega)
            clear hno hd hd' hpm hq hd0
            go_enter Tryz.func47, Tryz.ntmps47
            go_wp2_with fail
            (with_reducible refine (NA.out _).mono ?_)
            rintro v0 w0 ⟨⟨n, ok, rfl, hr⟩, rfl⟩
            have M := Lib.hid (fun w => made_to (o := (refN (lst (s.extract j e))).map T.int) (.int n) trivial (by simp) ok 3 n 0 0 ⟨#[]⟩ 0 0 rfl j e w (int_map hr refN_ok))
            clear hr
            go_wp2_with fail
            (with_reducible refine (D.out _).mono ?_)
            rintro e1 w' ⟨rfl, rfl⟩
            go_wp2_with fail
            (with_reducible refine (M.out _).mono ?_)
            rintro e1 w1 ⟨ht, o1⟩
            have HT := Lib.hid ht
            obtain ⟨kd, k', n', x, y, S, a, b, e', rfl⟩ := tkn_cells ht
            obtain ⟨z0, z1, z2, z3, z4, z5, z6, z7, z8, z9, z10⟩ := (B1.out.only o1 (by simp)).eleven
            have zf := (B1.out.only o1 (by simp)).free
            have O1 := Lib.hid (O0.out.trans o1 (by simp))
            clear o1 ht
            go_wp2_with fail
            refine bodyPost_ret (v := .agg (tks kd 0 k' n' x y S a b (.slice none 0 0) j e')) (by simp [results, Tryz.results47, go_sem, z0, z1, z2, z3, z4, z5, z6, z7, z8, z9, z10]) rfl ⟨HT.out, ?_⟩
            exact O1.out.set11 (by omega)
          · clear hno hd hd' hpm hq hd0
            go_enter Tryz.func47, Tryz.ntmps47
            go_wp2_with fail
            (with_reducible refine (NA.out _).mono ?_)
            rintro v0 w0 ⟨⟨n, ok, rfl, hr⟩, rfl⟩
            have M := Lib.hid (fun w => made_to (o := (refN (lst (s.extract j e))).map T.int) (.int n) trivial (by simp) ok 3 n 0 0 ⟨#[]⟩ 0 0 rfl j e w (int_map hr refN_ok))
            clear hr
            go_wp2_with fail
            (with_reducible refine (D.out _).mono ?_)
            rintro e1 w' ⟨rfl, rfl⟩
            go_wp2_with fail
            (with_reducible refine (M.out _).mono ?_)
            rintro e1 w1 ⟨ht, o1⟩
            have HT := Lib.hid ht
            obtain ⟨kd, k', n', x, y, S, a, b, e', rfl⟩ := tkn_cells ht
            obtain ⟨z0, z1, z2, z3, z4, z5, z6, z7, z8, z9, z10⟩ := (B1.out.only o1 (by simp)).eleven
            have zf := (B1.out.only o1 (by simp)).free
            have O1 := Lib.hid (O0.out.trans o1 (by simp))
            clear o1 ht
            go_wp2_with fail
            refine bodyPost_ret (v := .agg (tks kd 0 k' n' x y S a b (.slice none 0 0) j e')) (by simp [results, Tryz.results47, go_sem, z0, z1, z2, z3, z4, z5, z6, z7, z8, z9, z10]) rfl ⟨HT.out, ?_⟩
            exact O1.out.set11 (by omega)
    · obtain ⟨q, hq⟩ : ∃ q, e + 1 + d = q := ⟨_, rfl⟩
      have hql : q ≤ s.size := by
        have := runOf_le isDig ((lst s).drop (e + 1))
        rw [List.length_drop, lst_len] at this
        omega
      have D := Lib.hid (fun w => digits_to s ((e : Int) + 1) (e + 1) q w hs (by omega) (by omega) (by rw [hd']; exact hq))
      have hpm : isPM (s[e]'hE) = true := by
        simp only [isPM, Bool.or_eq_true, decide_eq_true_eq]
        have := eq_of_beq c43; omega
      by_cases hd0 : d = 0
      · have hq1 : ¬ ((e : Int) + 1 < (q : Int)) := by omega
        clear hno hd hd' hpm hq
        go_enter Tryz.func47, Tryz.ntmps47
        go_wp2_with fail
        (with_reducible refine (NA.out _).mono ?_)
        rintro v0 w0 ⟨⟨n, ok, rfl, hr⟩, rfl⟩
        have M := Lib.hid (fun w => made_to (o := (refN (lst (s.extract j e))).map T.int) (.int n) trivial (by simp) ok 3 n 0 0 ⟨#[]⟩ 0 0 rfl j e w (int_map hr refN_ok))
        clear hr
        go_wp2_with fail
        (with_reducible refine (D.out _).mono ?_)
        rintro e1 w' ⟨rfl, rfl⟩
        go_wp2_with fail
        (with_reducible refine (M.out _).mono ?_)
        rintro e1 w1 ⟨ht, o1⟩
        have HT := Lib.hid ht
        obtain ⟨kd, k', n', x, y, S, a, b, e', rfl⟩ := tkn_cells ht
        obtain ⟨z0, z1, z2, z3, z4, z5, z6, z7, z8, z9, z10⟩ := (B1.out.only o1 (by simp)).eleven
        have zf := (B1.out.only o1 (by simp)).free
        have O1 := Lib.hid (O0.out.trans o1 (by simp))
        clear o1 ht
        go_wp2_with fail
        refine bodyPost_ret (v := .agg (tks kd 0 k' n' x y S a b (.slice none 0 0) j e')) (by simp [results, Tryz.results47, go_sem, z0, z1, z2, z3, z4, z5, z6, z7, z8, z9, z10]) rfl ⟨HT.out, ?_⟩
        exact O1.out.set11 (by omega)
      · have hq1 : (e : Int) + 1 < (q : Int) := by omega
        by_cases hq2 : q < s.size
        · have ci : (((s[q]'hq2).toNat : Int) == 105) = false := by
            rw [beq_eq_false_iff_ne]
            intro h
            refine hno ⟨_, lst_at hE, hpm, hd0, ?_⟩
            rw [hq, lst_at hq2]
            congr 1
            exact UInt8.toNat_inj.1 (by show _ = 105; omega)
          clear hno hd hd' hpm hq hd0
          go_enter Tryz.func47, Tryz.ntmps47
          go_wp2_with fail
          (with_reducible refine (NA.out _).mono ?_)
          rintro v0 w0 ⟨⟨n, ok, rfl, hr⟩, rfl⟩
          have M := Lib.hid (fun w => made_to (o := (refN (lst (s.extract j e))).map T.int) (.int n) trivial (by simp) ok 3 n 0 0 ⟨#[]⟩ 0 0 rfl j e w (int_map hr refN_ok))
          clear hr
          go_wp2_with fail
          (with_reducible refine (D.out _).mono ?_)
          rintro e1 w' ⟨rfl, rfl⟩
          go_wp2_with fail
          (with_reducible refine (M.out _).mono ?_)
          rintro e1 w1 ⟨ht, o1⟩
          have HT := Lib.hid ht
          obtain ⟨kd, k', n', x, y, S, a, b, e', rfl⟩ := tkn_cells ht
          obtain ⟨z0, z1, z2, z3, z4, z5, z6, z7, z8, z9, z10⟩ := (B1.out.only o1 (by simp)).eleven
          have zf := (B1.out.only o1 (by simp)).free
          have O1 := Lib.hid (O0.out.trans o1 (by simp))
          clear o1 ht
          go_wp2_with fail
          refine bodyPost_ret (v := .agg (tks kd 0 k' n' x y S a b (.slice none 0 0) j e')) (by simp [results, Tryz.results47, go_sem, z0, z1, z2, z3, z4, z5, z6, z7, z8, z9, z10]) rfl ⟨HT.out, ?_⟩
          exact O1.out.set11 (by omega)
        · clear hno hd hd' hpm hq hd0
          go_enter Tryz.func47, Tryz.ntmps47
          go_wp2_with fail
          (with_reducible refine (NA.out _).mono ?_)
          rintro v0 w0 ⟨⟨n, ok, rfl, hr⟩, rfl⟩
          have M := Lib.hid (fun w => made_to (o := (refN (lst (s.extract j e))).map T.int) (.int n) trivial (by simp) ok 3 n 0 0 ⟨#[]⟩ 0 0 rfl j e w (int_map hr refN_ok))
          clear hr
          go_wp2_with fail
          (with_reducible refine (D.out _).mono ?_)
          rintro e1 w' ⟨rfl, rfl⟩
          go_wp2_with fail
          (with_reducible refine (M.out _).mono ?_)
          rintro e1 w1 ⟨ht, o1⟩
          have HT := Lib.hid ht
          obtain ⟨kd, k', n', x, y, S, a, b, e', rfl⟩ := tkn_cells ht
          obtain ⟨z0, z1, z2, z3, z4, z5, z6, z7, z8, z9, z10⟩ := (B1.out.only o1 (by simp)).eleven
          have zf := (B1.out.only o1 (by simp)).free
          have O1 := Lib.hid (O0.out.trans o1 (by simp))
          clear o1 ht
          go_wp2_with fail
          refine bodyPost_ret (v := .agg (tks kd 0 k' n' x y S a b (.slice none 0 0) j e')) (by simp [results, Tryz.results47, go_sem, z0, z1, z2, z3, z4, z5, z6, z7, z8, z9, z10]) rfl ⟨HT.out, ?_⟩
          exact O1.out.set11 (by omega)
  · clear hno hd
    go_enter Tryz.func47, Tryz.ntmps47
    go_wp2_with fail
    (with_reducible refine (NA.out _).mono ?_)
    rintro v0 w0 ⟨⟨n, ok, rfl, hr⟩, rfl⟩
    have M := Lib.hid (fun w => made_to (o := (refN (lst (s.extract j e))).map T.int) (.int n) trivial (by simp) ok 3 n 0 0 ⟨#[]⟩ 0 0 rfl j e w (int_map hr refN_ok))
    clear hr
    go_wp2_with fail
    (with_reducible refine (M.out _).mono ?_)
    rintro e1 w1 ⟨ht, o1⟩
    have HT := Lib.hid ht
    obtain ⟨kd, k', n', x, y, S, a, b, e', rfl⟩ := tkn_cells ht
    obtain ⟨z0, z1, z2, z3, z4, z5, z6, z7, z8, z9, z10⟩ := (B1.out.only o1 (by simp)).eleven
    have zf := (B1.out.only o1 (by simp)).free
    have O1 := Lib.hid (O0.out.trans o1 (by simp))
    clear o1 ht
    go_wp2_with fail
    refine bodyPost_ret (v := .agg (tks kd 0 k' n' x y S a b (.slice none 0 0) j e')) (by simp [results, Tryz.results47, go_sem, z0, z1, z2, z3, z4, z5, z6, z7, z8, z9, z10]) rfl ⟨HT.out, ?_⟩
    exact O1.out.set11 (by omega)
set_option maxHeartbeats 8000000 in
theorem number_com43 (s : ByteArray) (j e q : Nat) (w : World) (hs : s.size ≤ 262144) (h1 : j ≤ e) (hE : e < s.size) (c : (s[e]'hE).toNat = 43) (hq : e + 1 + runOf isDig ((lst s).drop (e + 1)) = q) (hq0 : e + 1 < q) (hq2 : q < s.size) (hi : (s[q]'hq2).toNat = 105) :
    Calls Tryz.prog 47 #[.string s, .int .i64 j, .int .i64 e] w fun v w' => Tkn (comM (refN (lst (s.extract j e))) (refN (lst (s.extract (e + 1) q)))) j ((q : Int) + 1) v ∧ Only [] w w' := by
  have rs := store_com
  have B1 := Lib.hid (Bk.made w 52 Z11)
  have O0 := Lib.hid ((Only.refl [] w).alloc (.cells Z11 52))
  have NA := Lib.hid (fun w => number_to s j e w hs)
  have NB := Lib.hid (fun w => number_to s (e + 1) q w hs)
  have D := Lib.hid (fun w => digits_to s ((e : Int) + 1) (e + 1) q w hs (by omega) (by omega) hq)
  have c43 : (((s[e]'hE).toNat : Int) == 43) = true := by rw [beq_iff_eq]; omega
  
  have ci : (((s[q]'hq2).toNat : Int) == 105) = true := by rw [beq_iff_eq]; omega
  clear hq c hi
  go_enter Tryz.func47, Tryz.ntmps47
  go_wp2_with fail
  (with_reducible refine (NA.out _).mono ?_)
  rintro v0 w0 ⟨⟨n, ok, rfl, hr⟩, rfl⟩
  have HA := Lib.hid hr
  clear hr
  go_wp2_with fail
  (with_reducible refine (D.out _).mono ?_)
  rintro e1 w' ⟨rfl, rfl⟩
  go_wp2_with fail
  (with_reducible refine (NB.out _).mono ?_)
  rintro v0 w0 ⟨⟨m, fine, rfl, hr⟩, rfl⟩
  have HB := Lib.hid hr
  clear hr
  cases ok
  · have F := Lib.hid (comM_bad HA.out HB.out (.inl rfl))
    go_wp2_with fail
    refine bodyPost_ret (v := .agg (tkB j ((q : Int) + 1))) (by simp [results, Tryz.results47, go_sem]) rfl ⟨tkn_none F.out _ _ _, ?_⟩
    exact (Only.refl [] w).alloc _
  cases fine
  · have F := Lib.hid (comM_bad HA.out HB.out (.inr (.inl rfl)))
    go_wp2_with fail
    refine bodyPost_ret (v := .agg (tkB j ((q : Int) + 1))) (by simp [results, Tryz.results47, go_sem]) rfl ⟨tkn_none F.out _ _ _, ?_⟩
    exact (Only.refl [] w).alloc _
  by_cases g0 : n < -1073741824
  · have F := Lib.hid (comM_bad HA.out HB.out (.inr (.inr (.inl (part_not (.inl g0))))))
    go_wp2_with fail
    refine bodyPost_ret (v := .agg (tkB j ((q : Int) + 1))) (by simp [results, Tryz.results47, go_sem]) rfl ⟨tkn_none F.out _ _ _, ?_⟩
    exact (Only.refl [] w).alloc _
  by_cases g1 : 1073741824 < n
  · have F := Lib.hid (comM_bad HA.out HB.out (.inr (.inr (.inl (part_not (.inr g1))))))
    go_wp2_with fail
    refine bodyPost_ret (v := .agg (tkB j ((q : Int) + 1))) (by simp [results, Tryz.results47, go_sem]) rfl ⟨tkn_none F.out _ _ _, ?_⟩
    exact (Only.refl [] w).alloc _
  by_cases g2 : m < -1073741824
  · have F := Lib.hid (comM_bad HA.out HB.out (.inr (.inr (.inr (part_not (.inl g2))))))
    go_wp2_with fail
    refine bodyPost_ret (v := .agg (tkB j ((q : Int) + 1))) (by simp [results, Tryz.results47, go_sem]) rfl ⟨tkn_none F.out _ _ _, ?_⟩
    exact (Only.refl [] w).alloc _
  by_cases g3 : 1073741824 < m
  · have F := Lib.hid (comM_bad HA.out HB.out (.inr (.inr (.inr (part_not (.inr g3))))))
    go_wp2_with fail
    refine bodyPost_ret (v := .agg (tkB j ((q : Int) + 1))) (by simp [results, Tryz.results47, go_sem]) rfl ⟨tkn_none F.out _ _ _, ?_⟩
    exact (Only.refl [] w).alloc _
  have hn := part_of (n := n) (by omega) (by omega)
  have hm := part_of (n := m) (by omega) (by omega)
  have M := Lib.hid (fun w => made_to (o := comM (refN (lst (s.extract j e))) (refN (lst (s.extract (e + 1) q)))) (.com n m) ⟨hn, hm⟩ (by simp) true 4 0 (floatOfInt .f64 n) (floatOfInt .f64 m) ⟨#[]⟩ 0 0 rfl j ((q : Int) + 1) w (comM_good HA.out HB.out hn hm))
  go_wp2_with fail
  (with_reducible refine (M.out _).mono ?_)
  rintro e1 w1 ⟨ht, o1⟩
  have HT := Lib.hid ht
  obtain ⟨kd, k', n', x, y, S, a, b, e', rfl⟩ := tkn_cells ht
  obtain ⟨z0, z1, z2, z3, z4, z5, z6, z7, z8, z9, z10⟩ := (B1.out.only o1 (by simp)).eleven
  have zf := (B1.out.only o1 (by simp)).free
  have O1 := Lib.hid (O0.out.trans o1 (by simp))
  clear o1 ht
  go_wp2_with fail
  refine bodyPost_ret (v := .agg (tks kd 0 k' n' x y S a b (.slice none 0 0) j e')) (by simp [results, Tryz.results47, go_sem, z0, z1, z2, z3, z4, z5, z6, z7, z8, z9, z10]) rfl ⟨HT.out, ?_⟩
  exact O1.out.set11 (by omega)
set_option maxHeartbeats 8000000 in
theorem number_com45 (s : ByteArray) (j e q : Nat) (w : World) (hs : s.size ≤ 262144) (h1 : j ≤ e) (hE : e < s.size) (c : (s[e]'hE).toNat = 45) (hq : e + 1 + runOf isDig ((lst s).drop (e + 1)) = q) (hq0 : e + 1 < q) (hq2 : q < s.size) (hi : (s[q]'hq2).toNat = 105) :
    Calls Tryz.prog 47 #[.string s, .int .i64 j, .int .i64 e] w fun v w' => Tkn (comM (refN (lst (s.extract j e))) (refN (lst (s.extract (e) q)))) j ((q : Int) + 1) v ∧ Only [] w w' := by
  have rs := store_com
  have B1 := Lib.hid (Bk.made w 52 Z11)
  have O0 := Lib.hid ((Only.refl [] w).alloc (.cells Z11 52))
  have NA := Lib.hid (fun w => number_to s j e w hs)
  have NB := Lib.hid (fun w => number_to s (e) q w hs)
  have D := Lib.hid (fun w => digits_to s ((e : Int) + 1) (e + 1) q w hs (by omega) (by omega) hq)
  have c43 : (((s[e]'hE).toNat : Int) == 43) = false := by rw [beq_eq_false_iff_ne]; omega
  have c45 : (((s[e]'hE).toNat : Int) == 45) = true := by rw [beq_iff_eq]; omega
  have ci : (((s[q]'hq2).toNat : Int) == 105) = true := by rw [beq_iff_eq]; omega
  clear hq c hi
  go_enter Tryz.func47, Tryz.ntmps47
  go_wp2_with fail
  (with_reducible refine (NA.out _).mono ?_)
  rintro v0 w0 ⟨⟨n, ok, rfl, hr⟩, rfl⟩
  have HA := Lib.hid hr
  clear hr
  go_wp2_with fail
  (with_reducible refine (D.out _).mono ?_)
  rintro e1 w' ⟨rfl, rfl⟩
  go_wp2_with fail
  (with_reducible refine (NB.out _).mono ?_)
  rintro v0 w0 ⟨⟨m, fine, rfl, hr⟩, rfl⟩
  have HB := Lib.hid hr
  clear hr
  cases ok
  · have F := Lib.hid (comM_bad HA.out HB.out (.inl rfl))
    go_wp2_with fail
    refine bodyPost_ret (v := .agg (tkB j ((q : Int) + 1))) (by simp [results, Tryz.results47, go_sem]) rfl ⟨tkn_none F.out _ _ _, ?_⟩
    exact (Only.refl [] w).alloc _
  cases fine
  · have F := Lib.hid (comM_bad HA.out HB.out (.inr (.inl rfl)))
    go_wp2_with fail
    refine bodyPost_ret (v := .agg (tkB j ((q : Int) + 1))) (by simp [results, Tryz.results47, go_sem]) rfl ⟨tkn_none F.out _ _ _, ?_⟩
    exact (Only.refl [] w).alloc _
  by_cases g0 : n < -1073741824
  · have F := Lib.hid (comM_bad HA.out HB.out (.inr (.inr (.inl (part_not (.inl g0))))))
    go_wp2_with fail
    refine bodyPost_ret (v := .agg (tkB j ((q : Int) + 1))) (by simp [results, Tryz.results47, go_sem]) rfl ⟨tkn_none F.out _ _ _, ?_⟩
    exact (Only.refl [] w).alloc _
  by_cases g1 : 1073741824 < n
  · have F := Lib.hid (comM_bad HA.out HB.out (.inr (.inr (.inl (part_not (.inr g1))))))
    go_wp2_with fail
    refine bodyPost_ret (v := .agg (tkB j ((q : Int) + 1))) (by simp [results, Tryz.results47, go_sem]) rfl ⟨tkn_none F.out _ _ _, ?_⟩
    exact (Only.refl [] w).alloc _
  by_cases g2 : m < -1073741824
  · have F := Lib.hid (comM_bad HA.out HB.out (.inr (.inr (.inr (part_not (.inl g2))))))
    go_wp2_with fail
    refine bodyPost_ret (v := .agg (tkB j ((q : Int) + 1))) (by simp [results, Tryz.results47, go_sem]) rfl ⟨tkn_none F.out _ _ _, ?_⟩
    exact (Only.refl [] w).alloc _
  by_cases g3 : 1073741824 < m
  · have F := Lib.hid (comM_bad HA.out HB.out (.inr (.inr (.inr (part_not (.inr g3))))))
    go_wp2_with fail
    refine bodyPost_ret (v := .agg (tkB j ((q : Int) + 1))) (by simp [results, Tryz.results47, go_sem]) rfl ⟨tkn_none F.out _ _ _, ?_⟩
    exact (Only.refl [] w).alloc _
  have hn := part_of (n := n) (by omega) (by omega)
  have hm := part_of (n := m) (by omega) (by omega)
  have M := Lib.hid (fun w => made_to (o := comM (refN (lst (s.extract j e))) (refN (lst (s.extract (e) q)))) (.com n m) ⟨hn, hm⟩ (by simp) true 4 0 (floatOfInt .f64 n) (floatOfInt .f64 m) ⟨#[]⟩ 0 0 rfl j ((q : Int) + 1) w (comM_good HA.out HB.out hn hm))
  go_wp2_with fail
  (with_reducible refine (M.out _).mono ?_)
  rintro e1 w1 ⟨ht, o1⟩
  have HT := Lib.hid ht
  obtain ⟨kd, k', n', x, y, S, a, b, e', rfl⟩ := tkn_cells ht
  obtain ⟨z0, z1, z2, z3, z4, z5, z6, z7, z8, z9, z10⟩ := (B1.out.only o1 (by simp)).eleven
  have zf := (B1.out.only o1 (by simp)).free
  have O1 := Lib.hid (O0.out.trans o1 (by simp))
  clear o1 ht
  go_wp2_with fail
  refine bodyPost_ret (v := .agg (tks kd 0 k' n' x y S a b (.slice none 0 0) j e')) (by simp [results, Tryz.results47, go_sem, z0, z1, z2, z3, z4, z5, z6, z7, z8, z9, z10]) rfl ⟨HT.out, ?_⟩
  exact O1.out.set11 (by omega)
end Go.Proofs.YtlpafnibcmcjgaaGreatDoor
