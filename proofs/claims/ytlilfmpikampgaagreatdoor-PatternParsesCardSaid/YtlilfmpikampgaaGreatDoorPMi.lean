/- text: the leaf of a token. The shape of a token that stands in a text. -/
import Derived.Test.YtlilfmpikampgaaGreatDoorPMg
import Derived.Test.YtlilfmpikampgaaGreatDoorPBa
import Derived.BigRegion
import Derived.Deep.RegionHeld3
import Derived.Test.YtlilfmpikampgaaGreatDoorPMc
namespace Go.Proofs.YtlilfmpikampgaaGreatDoor
open Go.RowKit

theorem rawW_cases (s : ByteArray) : rawW s = .nil ∨ rawW s = .bool true ∨ rawW s = .bool false ∨ rawW s = .atom s := by
  unfold rawW
  split
  · simp
  · split
    · simp
    · split <;> simp
theorem comT_good {l : List UInt8} {t : T} (h : comT l = some t) : t.Good ∧ okT t = true ∧ ∀ k m, t ≠ .tup k m := by
  unfold comT at h
  split at h
  · split at h
    · rename_i hok
      injection h with h
      subst h
      simp only [Bool.and_eq_true] at hok
      exact ⟨hok, okT_com hok, by simp⟩
    · cases h
  · cases h
theorem raw_good {s : ByteArray} (hs : s.size ≤ 262144) {t : T} (h : rawL s = some t) : t.Good ∧ ∀ k l, t ≠ .tup k l := by
  unfold rawL at h
  split at h
  · cases h
  · split at h
    · injection h with h
      rw [← h]
      rcases rawW_cases s with e | e | e | e <;> rw [e]
      · exact ⟨trivial, by simp⟩
      · exact ⟨trivial, by simp⟩
      · exact ⟨trivial, by simp⟩
      · exact ⟨hs, by simp⟩
    · split at h
      · unfold rawP at h
        split at h
        · injection h with h; rw [← h]; exact ⟨trivial, by simp⟩
        · cases h
      · split at h
        · rw [Option.map_eq_some_iff] at h
          obtain ⟨n, _, rfl⟩ := h
          exact ⟨trivial, by simp⟩
        · split at h
          · exact ⟨(comT_good h).1, (comT_good h).2.2⟩
          · rw [Option.map_eq_some_iff] at h
            obtain ⟨n, _, rfl⟩ := h
            exact ⟨trivial, by simp⟩
theorem wordT_raw (s : ByteArray) : wordT s = if okT (rawW s) = true then some (rawW s) else none := by
  unfold wordT rawW
  split
  · rfl
  · split
    · rfl
    · split
      · rfl
      · rfl
theorem lf_raw (s : ByteArray) : lf s = (rawL s).bind fun t => if okT t = true then some t else none := by
  cases hl : lst s with
  | nil =>
    have h1 : lf s = none := by unfold lf; rw [hl]
    have h2 : rawL s = none := by unfold rawL; rw [hl]
    rw [h1, h2]; rfl
  | cons c r =>
    unfold lf rawL
    rw [hl]
    simp only
    by_cases h1 : isSm c = true
    · rw [if_pos h1, if_pos h1]
      exact wordT_raw s
    · rw [if_neg h1, if_neg h1]
      by_cases h2 : c.toNat = 60
      · rw [if_pos h2, if_pos h2]
        unfold pidT rawP
        cases numP (Lib.cut (Lib.trimSuffix r [62]) [46]).1 <;> cases numP (Lib.cut (Lib.trimSuffix r [62]) [46]).2.1 <;> rfl
      · rw [if_neg h2, if_neg h2]
        by_cases h3 : c.toNat = 35
        · rw [if_pos h3, if_pos h3]
          unfold refT
          cases numP r <;> rfl
        · rw [if_neg h3, if_neg h3]
          by_cases h4 : Lib.hasSuffix (c :: r) [105] = true
          · rw [if_pos h4, if_pos h4]
            cases h : comT (c :: r) with
            | none => rfl
            | some t => simp only [Option.bind_some]; rw [if_pos (comT_good h).2.1]
          · rw [if_neg h4, if_neg h4]
            unfold intT
            cases numP (c :: r) <;> rfl
theorem chk_leaf {t : T} (ht : ∀ k l, t ≠ .tup k l) (hg : t.Good) : chk t = if okT t = true then 0 else 30 := by
  unfold chk
  rw [thr_leaf ht hg, if_neg (by omega)]
  split <;> rfl
set_option maxHeartbeats 4000000 in
theorem leaf_any (s : ByteArray) (w : World) (hT : TokOk s) (hv : Vars w) : Calls Tryz.prog 101 #[.string s] w fun e w' => Means (lf s) e ∧ Only [] w w' := by
  have rs := store_com
  have M := Lib.hid (fun w hv => meant_any s w hT hv)
  have B0 := Lib.hid (Bk.made w 27 Z7)
  have HL := Lib.hid (lf_raw s)
  have HG := Lib.hid (fun t => @raw_good s hT.le t)
  clear hT
  go_enter Tryz.func101, Tryz.ntmps101
  go_wp2_with fail
  (with_reducible refine (M.out _ (hv.alloc _)).mono ?_)
  rintro e w1 ⟨⟨k, n, x, y, S, a, b, ok, rfl, hy, hno⟩, o1⟩
  have Y := Lib.hid hy
  have N := Lib.hid hno
  have O1 := Lib.hid (((Only.refl [] w).alloc (.cells Z7 27)).trans o1 (by simp))
  have B1 := Lib.hid (B0.out.only o1 (by simp))
  clear o1 hy hno
  cases hr : rawL s with
  | none =>
    have h1 : ok = false := N.out hr
    subst h1
    have L2 := Lib.hid (show lf s = none by rw [HL.out, hr]; rfl)
    obtain ⟨q0, q1, q2, q3, q4, q5, q6⟩ := sevenA B1.out
    have zf := fun o => (B1.out.alloc o).free
    clear hr
    go_wp2_with fail
    go_region
    go_wp2_with fail
    refine bodyPost_ret (v := .tuple #[.agg (tcs k n x y S a b (.slice none 0 0)), .bool false]) (by simp [results, Tryz.results101, go_sem, q0, q1, q2, q3, q4, q5, q6]) rfl ⟨means_no L2.out _ _ _ _ _ _ _, ?_⟩
    exact ((O1.out.alloc _).set7 (by omega)).drew
  | some t =>
    obtain ⟨h1, h2⟩ := Y.out t hr
    subst h1
    obtain ⟨hg, htl⟩ := HG.out t hr
    have hk : k = t.k := by have := congrArg (·[0]?) h2; simpa [T.cs] using this
    have hn : n = t.n := by have := congrArg (·[1]?) h2; simpa [T.cs] using this
    have hx : x = t.x ∧ y = t.y := by have := congrArg (·[2]?) h2; simpa [T.cs] using this
    have hS : S = t.S := by have := congrArg (·[3]?) h2; simpa [T.cs] using this
    have ha : a = t.a := by have := congrArg (·[4]?) h2; simpa [T.cs] using this
    have hb : b = t.b := by have := congrArg (·[5]?) h2; simpa [T.cs] using this
    obtain ⟨hx, hy⟩ := hx
    subst hk hn hx hy hS ha hb
    have C := Lib.hid (fun w => check_any t hg (.slice none 0 0) (fun _ => False) w ((TV.leaf htl).2 rfl) (fun _ h => h.elim))
    have HC := Lib.hid (chk_leaf htl hg)
    have L2 := Lib.hid (show lf s = if okT t = true then some t else none by rw [HL.out, hr]; rfl)
    obtain ⟨q0, q1, q2, q3, q4, q5, q6⟩ := sevenA B1.out
    have zf := fun o => (B1.out.alloc o).free
    have B2 := Lib.hid (Bk.made w1 27 (tcs t.k t.n t.x t.y t.S t.a t.b (.slice none 0 0)))
    clear hr h2 hg htl
    have hne1 : w.heap.size ≠ w1.heap.size := by have := B1.out.lt; omega
    have hne2 : w1.heap.size ≠ w.heap.size := fun e => hne1 e.symm
    cases hok : okT t with
    | true =>
      rw [hok, if_pos rfl] at HC
      have C2 := Lib.hid (show ∀ w, Calls Tryz.prog 27 #[.agg #[.int .i64 t.k, .int .i64 t.n, .complex .f64 t.x t.y, .string t.S, .int .i64 t.a, .int .i64 t.b, .slice none 0 0]] w fun e w' => e = .returned (.int .i64 0) ∧ Only [] w w' from fun w => (C.out w).mono fun _ _ ⟨he, ho⟩ => ⟨by rw [he, HC.out], ho⟩)
      have L3 := Lib.hid (show lf s = some t by rw [L2.out, hok]; rfl)
      clear C hok
      go_wp2_with fail
      go_region_with (first | (go_at_call 27; (with_reducible refine (C2.out _).mono ?_); rintro e w2 ⟨rfl, o2⟩; obtain ⟨n0, n1, n2, n3, n4, n5, n6⟩ := (B2.out.drew.only o2 (by simp)).seven; obtain ⟨p0, p1, p2, p3, p4, p5, p6⟩ := ((B1.out.alloc (.cells (tcs t.k t.n t.x t.y t.S t.a t.b (.slice none 0 0)) 27)).drew.only o2 (by simp)).seven; have pf := ((B1.out.alloc (.cells (tcs t.k t.n t.x t.y t.S t.a t.b (.slice none 0 0)) 27)).drew.only o2 (by simp)).free; have OO := Lib.hid o2; clear o2))
      all_goals
        go_wp2_with fail
        refine bodyPost_ret (v := .tuple #[.agg (tcs t.k t.n t.x t.y t.S t.a t.b (.slice none 0 0)), .bool true]) (by simp [results, Tryz.results101, go_sem, p0, p1, p2, p3, p4, p5, p6]) rfl ⟨means_yes L3.out, ?_⟩
        exact (((O1.out.alloc _).drew).trans OO.out (by simp)).set7 (by omega)
    | false =>
      rw [hok, if_neg (by simp)] at HC
      have C2 := Lib.hid (show ∀ w, Calls Tryz.prog 27 #[.agg #[.int .i64 t.k, .int .i64 t.n, .complex .f64 t.x t.y, .string t.S, .int .i64 t.a, .int .i64 t.b, .slice none 0 0]] w fun e w' => e = .returned (.int .i64 30) ∧ Only [] w w' from fun w => (C.out w).mono fun _ _ ⟨he, ho⟩ => ⟨by rw [he, HC.out], ho⟩)
      have L3 := Lib.hid (show lf s = none by rw [L2.out, hok]; rfl)
      clear C hok
      go_wp2_with fail
      go_region_with (first | (go_at_call 27; (with_reducible refine (C2.out _).mono ?_); rintro e w2 ⟨rfl, o2⟩; obtain ⟨n0, n1, n2, n3, n4, n5, n6⟩ := (B2.out.drew.only o2 (by simp)).seven; obtain ⟨p0, p1, p2, p3, p4, p5, p6⟩ := ((B1.out.alloc (.cells (tcs t.k t.n t.x t.y t.S t.a t.b (.slice none 0 0)) 27)).drew.only o2 (by simp)).seven; have pf := ((B1.out.alloc (.cells (tcs t.k t.n t.x t.y t.S t.a t.b (.slice none 0 0)) 27)).drew.only o2 (by simp)).free; have OO := Lib.hid o2; clear o2))
      all_goals
        go_wp2_with fail
        refine bodyPost_ret (v := .tuple #[.agg (tcs t.k t.n t.x t.y t.S t.a t.b (.slice none 0 0)), .bool false]) (by simp [results, Tryz.results101, go_sem, p0, p1, p2, p3, p4, p5, p6]) rfl ⟨means_no L3.out _ _ _ _ _ _ _, ?_⟩
        exact (((O1.out.alloc _).drew).trans OO.out (by simp)).set7 (by omega)
end Go.Proofs.YtlilfmpikampgaaGreatDoor

namespace Go.Proofs.YtlilfmpikampgaaGreatDoor
open Go.RowKit

theorem suffix_one (l : List UInt8) (c : UInt8) : Lib.hasSuffix (l ++ [c]) [105] = decide (c = 105) := by
  unfold Lib.hasSuffix
  rw [Bool.eq_iff_iff]
  simp only [List.isSuffixOf_iff_suffix, decide_eq_true_eq]
  constructor
  · rintro ⟨t, ht⟩
    have := congrArg List.getLast? ht
    simpa using this.symm
  · rintro rfl
    exact ⟨l, rfl⟩
theorem trim_one (l : List UInt8) : Lib.trimSuffix (l ++ [105]) [105] = l := by
  unfold Lib.trimSuffix
  rw [suffix_one]
  simp
theorem suffix_mem {l : List UInt8} (h : Lib.hasSuffix l [105] = true) : (105 : UInt8) ∈ l := by
  unfold Lib.hasSuffix at h
  rw [List.isSuffixOf_iff_suffix] at h
  exact h.mem (by simp)
theorem dig_pm {c : UInt8} (h : isDig c = true) : isPM c = false := by
  have := isDig_bd h
  simp [isPM]
  omega
/-- A number's token: digits, or - and digits; and, if it has another part, a sign, digits, an i. -/
theorem num_shape {r : List UInt8} {c : UInt8} {t : List UInt8} (h : r = c :: t) (hc : isDig c = true ∨ c.toNat = 45) (hs : Lib.hasSuffix (r.take (numW r)) [105] = true) :
    ∃ A D sg, Body (r.take (numW r)) A D sg ∧ A = r.take (1 + runOf isDig t) ∧ r[1 + runOf isDig t]? = some sg ∧ D = (r.drop (1 + runOf isDig t + 1)).takeWhile isDig ∧ D ≠ [] ∧ r[1 + runOf isDig t + 1 + D.length]? = some 105 := by
  subst h
  obtain ⟨k, hk⟩ : ∃ k, runOf isDig t = k := ⟨_, rfl⟩
  have hkl : k ≤ t.length := by rw [← hk]; exact runOf_le _ _
  have hnum : ∀ x ∈ (c :: t).take (1 + k), isDig x = true ∨ x.toNat = 45 := by
    intro x hx
    rw [Nat.add_comm, List.take_succ_cons] at hx
    rcases List.mem_cons.1 hx with rfl | hx
    · exact hc
    · exact .inl (runOf_all (l := t) (by rw [hk]; exact hx))
  have h105 : ¬ (isDig (105 : UInt8) = true ∨ (105 : UInt8).toNat = 45) := by decide
  have hn : numW (c :: t) = if (c :: t).head? = some 45 ∧ k = 0 then 1 else 1 + k + otherW ((c :: t).drop (1 + k)) := num_eq (by simpa using hk)
  by_cases h1 : (c :: t).head? = some 45 ∧ k = 0
  · rw [hn, if_pos h1] at hs
    have := suffix_mem hs
    exact absurd (hnum _ (by rw [h1.2]; exact this)) h105
  rw [if_neg h1] at hn
  by_cases h2 : otherW ((c :: t).drop (1 + k)) = 0
  · rw [hn, h2] at hs
    exact absurd (hnum _ (suffix_mem hs)) h105
  have h3 : ((((c :: t).drop (1 + k)).head?.map isPM).getD false = true ∧ runOf isDig ((c :: t).drop (1 + k)).tail ≠ 0 ∧ ((c :: t).drop (1 + k))[1 + runOf isDig ((c :: t).drop (1 + k)).tail]? = some 105) := by
    by_cases h : ((((c :: t).drop (1 + k)).head?.map isPM).getD false = true ∧ runOf isDig ((c :: t).drop (1 + k)).tail ≠ 0 ∧ ((c :: t).drop (1 + k))[1 + runOf isDig ((c :: t).drop (1 + k)).tail]? = some 105)
    · exact h
    · unfold otherW at h2
      rw [if_neg h] at h2
      exact absurd rfl h2
  have h4 : otherW ((c :: t).drop (1 + k)) = 1 + runOf isDig ((c :: t).drop (1 + k)).tail + 1 := by unfold otherW; rw [if_pos h3]
  cases hr : (c :: t).drop (1 + k) with
  | nil => rw [hr] at h3; simp at h3
  | cons sg t' =>
    rw [hr] at h3 h4
    simp only [List.head?_cons, Option.map_some, Option.getD_some, List.tail_cons] at h3 h4
    obtain ⟨h5, h6, h7⟩ := h3
    obtain ⟨m, hm⟩ : ∃ m, runOf isDig t' = m := ⟨_, rfl⟩
    rw [hm] at h4 h6 h7
    rw [Nat.add_comm 1 m, List.getElem?_cons_succ] at h7
    have hD : t'.take m = t'.takeWhile isDig := by rw [← hm]; exact runOf_take _ _
    have hml : m < t'.length := (List.getElem?_eq_some_iff.1 h7).1
    have hDl : (t'.takeWhile isDig).length = m := hm
    have heq : (c :: t).take (numW (c :: t)) = ((c :: t).take (1 + k) ++ sg :: t'.takeWhile isDig) ++ [105] := by
      rw [hn, hr, h4, List.take_add, hr, show 1 + m + 1 = (m + 1) + 1 by omega, List.take_succ_cons, List.take_add_one, h7, ← hD]
      simp
    have hdrop : (c :: t).drop (1 + k + 1) = t' := by rw [← List.drop_drop, hr]; rfl
    refine ⟨(c :: t).take (1 + k), t'.takeWhile isDig, sg, ⟨?_, h5, ?_, ?_, ?_⟩, by rw [hk], ?_, by rw [hk, hdrop], ?_, ?_⟩
    · rw [heq]; exact trim_one _
    · intro x hx
      exact dig_pm (runOf_all (l := t') (by rw [hm, hD]; exact hx))
    · intro x hx
      have : comB ((c :: t).take (numW (c :: t))) = (c :: t).take (1 + k) ++ sg :: t'.takeWhile isDig := by rw [heq]; exact trim_one _
      rw [this, List.mem_append] at hx
      rcases hx with hx | hx
      · rcases hnum x hx with h | h
        · exact isDig_asc h
        · omega
      · rcases List.mem_cons.1 hx with rfl | hx
        · exact isPM_asc h5
        · exact isDig_asc (runOf_all (l := t') (by rw [hm, hD]; exact hx))
    · intro e
      have := congrArg List.length e
      rw [List.length_take] at this
      simp at this
    · have : ((c :: t).drop (1 + k))[0]? = some sg := by rw [hr]; rfl
      rw [List.getElem?_drop] at this
      rw [hk]; simpa using this
    · intro e
      rw [e] at hDl
      simp at hDl
      omega
    · rw [hDl]
      have h8 := h7
      rw [← hdrop, List.getElem?_drop] at h8
      rw [hk]; exact h8
/-- A token that stands in a text is as tokens are. -/
theorem tok_ok {s : ByteArray} {j : Nat} (hs : s.size ≤ 262144) (hj : j < s.size) : TokOk (s.extract j (fin s j)) := by
  have hf := fin_bd hj
  have hl : lst (s.extract j (fin s j)) = ((lst s).drop j).take (wid ((lst s).drop j)) := by
    rw [ext_lst]
    congr 1
    unfold fin; omega
  have hsz : (s.extract j (fin s j)).size = fin s j - j := by
    rw [← lst_len, ext_lst, List.length_take, List.length_drop, lst_len]
    omega
  refine ⟨by omega, by omega, fun c r hc h1 h2 h3 h4 => ?_⟩
  rw [hl] at hc h4 ⊢
  cases hd : (lst s).drop j with
  | nil => exact absurd hd (drop_ne hj)
  | cons b t =>
    rw [hd] at hc h4
    have hw := wid_bd (r := b :: t) (by simp)
    have hbc : b = c := by
      obtain ⟨n, hn⟩ : ∃ n, wid (b :: t) = n + 1 := ⟨wid (b :: t) - 1, by omega⟩
      rw [hn, List.take_succ_cons] at hc
      injection hc
    subst hbc
    by_cases hnum : isDig b = true ∨ b.toNat = 45
    · rw [wid_num h1 hnum] at h4 ⊢
      obtain ⟨A, D, sg, hB, _⟩ := num_shape rfl hnum h4
      exact ⟨A, D, sg, hB⟩
    · exfalso
      have hd1 : isDig b = false := by
        cases h : isDig b with
        | true => exact absurd (.inl h) hnum
        | false => rfl
      rw [wid_rest h1 hd1 (fun e => hnum (.inr e)), if_neg h2, if_neg h3] at h4
      have := suffix_mem h4
      simp at this
      rw [← this] at h1
      exact absurd h1 (by decide)
end Go.Proofs.YtlilfmpikampgaaGreatDoor
