/- What the token at a place means, told by the document's numbers. Nothing here speaks of the program. The document's Number. -/
import Derived.Test.YtlilfmpikampgaaGreatDoorPMa
import Derived.Test.YtlilfmpikampgaaGreatDoorPMi
import Derived.Test.YtlilfmpikampgaaGreatDoorPMb
namespace Go.Proofs.YtlilfmpikampgaaGreatDoor
open Go Go.RowKit

def tkO : Option T → Tk | some t => .term t | none => .bad
theorem tk_sgn {s : ByteArray} {j : Nat} {b : UInt8} (h : (lst s)[j]? = some b) (hb : isSg b = true) : tkAt s j = .sign b := by
  unfold tkAt; rw [h]; simp only [hb, if_true]
theorem tk_other {s : ByteArray} {j : Nat} {b : UInt8} (h : (lst s)[j]? = some b) (hb : isSg b = false) : tkAt s j = tkO (lf (s.extract j (fin s j))) := by
  unfold tkAt; rw [h]; simp only [hb, Bool.false_eq_true, if_false]
  cases lf (s.extract j (fin s j)) <;> rfl
theorem drop_at {s : ByteArray} {j : Nat} {b : UInt8} (h : (lst s)[j]? = some b) : (lst s).drop j = b :: (lst s).drop (j + 1) := by
  obtain ⟨hj, e⟩ := List.getElem?_eq_some_iff.1 h
  rw [List.drop_eq_getElem_cons hj, e]
theorem sg_not {b : UInt8} (hb : isSg b = true) : isSm b = false ∧ isDig b = false ∧ b.toNat ≠ 45 ∧ b.toNat ≠ 60 ∧ b.toNat ≠ 35 := by
  simp only [isSg, Bool.or_eq_true, decide_eq_true_eq] at hb
  refine ⟨?_, ?_, ?_, ?_, ?_⟩
  · simp [isSm]; omega
  · simp [isDig]; omega
  all_goals omega
theorem fin_sign {s : ByteArray} {j : Nat} {b : UInt8} (h : (lst s)[j]? = some b) (hb : isSg b = true) : fin s j = j + 1 := by
  obtain ⟨h1, h2, h3, h4, h5⟩ := sg_not hb
  unfold fin
  rw [drop_at h, wid_rest h1 h2 h3, if_neg h4, if_neg h5]
theorem fin_sm {s : ByteArray} {j : Nat} {b : UInt8} (h : (lst s)[j]? = some b) (hb : isSm b = true) : fin s j = j + 1 + runOf isWd ((lst s).drop (j + 1)) := by
  unfold fin
  rw [drop_at h, wid_sm hb, runOf_yes _ (sm_wd hb)]
  omega
theorem sg_sm {b : UInt8} (hb : isSm b = true) : isSg b = false := by
  simp only [isSm, Bool.and_eq_true, decide_eq_true_eq] at hb
  simp [isSg]; omega
theorem tok_lsd {s : ByteArray} {j : Nat} : lst (s.extract j (fin s j)) = ((lst s).drop j).take (wid ((lst s).drop j)) := by
  rw [ext_lst]; congr 1; unfold fin; omega
theorem tok_head {s : ByteArray} {j : Nat} {b : UInt8} (h : (lst s)[j]? = some b) : ∃ m, wid ((lst s).drop j) = m + 1 ∧ lst (s.extract j (fin s j)) = b :: ((lst s).drop (j + 1)).take m := by
  have hj := (List.getElem?_eq_some_iff.1 h).1
  rw [lst_len] at hj
  have := (wid_bd (drop_ne hj)).1
  obtain ⟨m, hm⟩ : ∃ m, wid ((lst s).drop j) = m + 1 := ⟨wid ((lst s).drop j) - 1, by omega⟩
  refine ⟨m, hm, ?_⟩
  rw [tok_lsd, hm, drop_at h, List.take_succ_cons]
/-- A word. -/
theorem tk_word {s : ByteArray} {j : Nat} {b : UInt8} (h : (lst s)[j]? = some b) (hb : isSm b = true) : tkAt s j = tkO (if okT (rawW (s.extract j (fin s j))) = true then some (rawW (s.extract j (fin s j))) else none) := by
  obtain ⟨m, _, h2⟩ := tok_head h
  rw [tk_other h (sg_sm hb), lf_raw, raw_sm h2 hb]
  rfl
theorem fin_ref {s : ByteArray} {j : Nat} {b : UInt8} (h : (lst s)[j]? = some b) (hb : b.toNat = 35) : fin s j = j + 1 + runOf isDig ((lst s).drop (j + 1)) := by
  unfold fin
  rw [drop_at h, wid_rest (by simp [isSm]; omega) (by simp [isDig]; omega) (by omega), if_neg (by omega), if_pos hb]
  omega
theorem ok_cnt {n : Int} (h : okCnt n = true) : OkI n = true := by
  simp only [okCnt, Bool.and_eq_true, decide_eq_true_eq] at h
  rw [okI]; omega
theorem refT_refN (l : List UInt8) : refT l = (refN l).bind fun n => if okCnt n = true then some (.ref n) else none := by
  unfold refT refN
  cases numP l with
  | none => rfl
  | some n =>
    by_cases h : OkI n = true
    · simp [Option.filter, h]
    · have h' : OkI n = false := by simpa using h
      have : okCnt n = false := by
        cases hc : okCnt n with
        | false => rfl
        | true => rw [ok_cnt hc] at h'; cases h'
      simp [Option.filter, h', this]
/-- A ref. -/
theorem tk_ref {s : ByteArray} {j : Nat} {b : UInt8} (h : (lst s)[j]? = some b) (hb : b.toNat = 35) : tkAt s j = tkO ((refN (lst (s.extract (j + 1) (fin s j)))).bind fun n => if okCnt n = true then some (.ref n) else none) := by
  have hs : isSg b = false := by simp [isSg]; omega
  have hm : isSm b = false := by simp [isSm]; omega
  rw [tk_other h hs, ← refT_refN]
  have h1 : lst (s.extract j (fin s j)) = b :: lst (s.extract (j + 1) (fin s j)) := by
    rw [fin_ref h hb, ext_lst, ext_lst, drop_at h, show j + 1 + runOf isDig ((lst s).drop (j + 1)) - j = runOf isDig ((lst s).drop (j + 1)) + 1 by omega, List.take_succ_cons]
    congr 2; omega
  congr 1
  unfold lf
  rw [h1]
  simp only [hm, Bool.false_eq_true, if_false]
  rw [if_neg (by omega), if_pos hb]
theorem num_nil : numP [] = none := numP_none (by intro h; exact h.1 rfl) (by intro r e; cases e)
theorem numP_one {b : UInt8} (h : isDig b = false) : numP [b] = none := by
  refine numP_none (fun hc => ?_) (fun r e => ?_)
  · have := hc.2.1 b (by simp); rw [h] at this; cases this
  · injection e with e1 e2
    subst e2
    exact .inl fun hc => hc.1 rfl
/-- A pid. -/
theorem fin_pid {s : ByteArray} {j : Nat} {b : UInt8} (h : (lst s)[j]? = some b) (hb : b.toNat = 60) : fin s j = j + pidW (b :: (lst s).drop (j + 1)) := by
  unfold fin
  rw [drop_at h, wid_rest (by simp [isSm]; omega) (by simp [isDig]; omega) (by omega), if_pos hb]
theorem cut_at (D E : List UInt8) (hD : ∀ c ∈ D, isDig c = true) : Lib.cut (D ++ 46 :: E) [46] = (D, E, true) := by
  have h : Lib.index (D ++ 46 :: E) [46] = D.length := by
    refine Lib.index_first (by simp) ?_ (fun j hj => ?_)
    · simp [Lib.occAt]
    · unfold Lib.occAt
      rw [List.drop_append_of_le_length (by omega), List.drop_eq_getElem_cons hj]
      have := isDig_bd (hD _ (List.getElem_mem hj))
      have hne : (46 : UInt8) ≠ D[j] := fun e => by rw [← e] at this; revert this; decide
      rw [List.cons_append]
      unfold List.isPrefixOf
      rw [beq_false_of_ne hne]
      rfl
  unfold Lib.cut
  rw [h, if_pos (by omega)]
  simp
theorem trim_at (l : List UInt8) : Lib.trimSuffix (l ++ [62]) [62] = l := by
  unfold Lib.trimSuffix Lib.hasSuffix
  have : ([62] : List UInt8).isSuffixOf (l ++ [62]) = true := by
    rw [List.isSuffixOf_iff_suffix]; exact ⟨l, rfl⟩
  rw [this]
  simp
def pidM : Option Int → Option Int → Option T
  | some n, some g => if okPid n g = true then some (.pid n g) else none
  | _, _ => none
def comM : Option Int → Option Int → Option T
  | some a, some b => if (okPart a && okPart b) = true then some (.com a b) else none
  | _, _ => none
theorem pidM_no {a b : Option Int} (h : a = none ∨ b = none) : pidM a b = none := by
  rcases h with rfl | rfl
  · rfl
  · cases a <;> rfl
theorem comM_no {a b : Option Int} (h : a = none ∨ b = none) : comM a b = none := by
  rcases h with rfl | rfl
  · rfl
  · cases a <;> rfl
theorem ok_pid {n g : Int} (h : okPid n g = true) : OkI n = true ∧ OkI g = true := by
  simp only [okPid, Bool.and_eq_true, decide_eq_true_eq] at h
  rw [okI, okI]; omega
theorem ok_part {n : Int} (h : okPart n = true) : OkI n = true := by
  have := okPart_bd h
  rw [okI]; omega
theorem refN_cases (l : List UInt8) : (numP l = none ∧ refN l = none) ∨ ∃ n, numP l = some n ∧ ((OkI n = true ∧ refN l = some n) ∨ (OkI n = false ∧ refN l = none)) := by
  cases h : numP l with
  | none => exact .inl ⟨rfl, refN_of_none h⟩
  | some n =>
    refine .inr ⟨n, rfl, ?_⟩
    cases hn : OkI n with
    | true => exact .inl ⟨rfl, refN_some.2 ⟨h, hn⟩⟩
    | false => exact .inr ⟨rfl, refN_none_of h hn⟩
theorem pidM_ref (x y : List UInt8) : pidM (numP x) (numP y) = pidM (refN x) (refN y) := by
  rcases refN_cases x with ⟨h1, h2⟩ | ⟨n, h1, ⟨h3, h2⟩ | ⟨h3, h2⟩⟩ <;> rcases refN_cases y with ⟨k1, k2⟩ | ⟨g, k1, ⟨k3, k2⟩ | ⟨k3, k2⟩⟩ <;> rw [h1, h2, k1, k2] <;> try rfl
  all_goals
    simp only [pidM]
    rw [if_neg]
    intro h
    have := ok_pid h
    simp_all
theorem comM_ref (x y : List UInt8) : comM (numP x) (numP y) = comM (refN x) (refN y) := by
  rcases refN_cases x with ⟨h1, h2⟩ | ⟨n, h1, ⟨h3, h2⟩ | ⟨h3, h2⟩⟩ <;> rcases refN_cases y with ⟨k1, k2⟩ | ⟨g, k1, ⟨k3, k2⟩ | ⟨k3, k2⟩⟩ <;> rw [h1, h2, k1, k2] <;> try rfl
  all_goals
    simp only [comM]
    rw [if_neg]
    intro h
    rw [Bool.and_eq_true] at h
    have h4 := ok_part h.1
    have h5 := ok_part h.2
    simp_all
theorem pidT_M (l : List UInt8) : pidT l = pidM (numP (Lib.cut (Lib.trimSuffix l [62]) [46]).1) (numP (Lib.cut (Lib.trimSuffix l [62]) [46]).2.1) := by
  unfold pidT
  generalize numP _ = a
  generalize numP _ = b
  cases a <;> cases b <;> rfl
theorem comT_M (l : List UInt8) : comT l = comM (numP ((comB l).take (lastPM (comB l)))) (numP (Lib.trimPrefix ((comB l).drop (lastPM (comB l))) [43])) := by
  unfold comT
  generalize numP _ = a
  generalize numP _ = b
  cases a <;> cases b <;> rfl
theorem lf_pid {s : ByteArray} {b : UInt8} {r : List UInt8} (h : lst s = b :: r) (hb : b.toNat = 60) : lf s = pidT r := by
  unfold lf
  rw [h]
  simp only
  rw [if_neg (by simp [isSm]; omega), if_pos hb]
theorem pid_sg {b : UInt8} (hb : b.toNat = 60) : isSg b = false := by simp [isSg]; omega
theorem pid_parts {s : ByteArray} {j k m : Nat} (hk : runOf isDig ((lst s).drop (j + 1)) = k) (hm : runOf isDig ((lst s).drop (j + 1 + k + 1)) = m) (h46 : (lst s)[j + 1 + k]? = some 46) (h62 : (lst s)[j + 1 + k + 1 + m]? = some 62) :
    ((lst s).drop (j + 1)).take (k + (1 + m) + 1) = (lst (s.extract (j + 1) (j + 1 + k)) ++ 46 :: lst (s.extract (j + 1 + k + 1) (j + 1 + k + 1 + m))) ++ [62] := by
  rw [ext_lst, ext_lst, List.take_add_one, List.getElem?_drop, show j + 1 + (k + (1 + m)) = j + 1 + k + 1 + m by omega, h62, List.take_add, List.drop_drop, Nat.add_comm 1 m, drop_at h46, List.take_succ_cons, show j + 1 + k - (j + 1) = k by omega, show j + 1 + k + 1 + m - (j + 1 + k + 1) = m by omega]
  simp
theorem pidW_at {s : ByteArray} {j k m : Nat} {b : UInt8} (hk : runOf isDig ((lst s).drop (j + 1)) = k) (hm : runOf isDig ((lst s).drop (j + 1 + k + 1)) = m) :
    pidW (b :: (lst s).drop (j + 1)) = if (lst s)[j + 1 + k]? = some 46 ∧ (lst s)[j + 1 + k + 1 + m]? = some 62 then 1 + k + (1 + m) + 1 else 1 := by
  rw [pid_eq (k := k) (m := m) (by simpa using hk) (by rw [show 1 + k + 1 = (k + 1) + 1 by omega, List.drop_succ_cons, List.drop_drop, show j + 1 + (k + 1) = j + 1 + k + 1 by omega]; exact hm)]
  rw [show 1 + k + (1 + m) = (k + 1 + m) + 1 by omega, Nat.add_comm 1 k, List.getElem?_cons_succ, List.getElem?_cons_succ, List.getElem?_drop, List.getElem?_drop, show j + 1 + (k + 1 + m) = j + 1 + k + 1 + m by omega]
/-- A pid. -/
theorem tk_pid_yes {s : ByteArray} {j k m : Nat} {b : UInt8} (h : (lst s)[j]? = some b) (hb : b.toNat = 60) (hk : runOf isDig ((lst s).drop (j + 1)) = k) (hm : runOf isDig ((lst s).drop (j + 1 + k + 1)) = m) (h46 : (lst s)[j + 1 + k]? = some 46) (h62 : (lst s)[j + 1 + k + 1 + m]? = some 62) :
    fin s j = j + 1 + k + 1 + m + 1 ∧ tkAt s j = tkO (pidM (refN (lst (s.extract (j + 1) (j + 1 + k)))) (refN (lst (s.extract (j + 1 + k + 1) (j + 1 + k + 1 + m))))) := by
  have hw := pidW_at (b := b) hk hm
  rw [if_pos ⟨h46, h62⟩] at hw
  have hf : fin s j = j + 1 + k + 1 + m + 1 := by rw [fin_pid h hb, hw]; omega
  refine ⟨hf, ?_⟩
  rw [tk_other h (pid_sg hb)]
  have hl : lst (s.extract j (fin s j)) = b :: ((lst (s.extract (j + 1) (j + 1 + k)) ++ 46 :: lst (s.extract (j + 1 + k + 1) (j + 1 + k + 1 + m))) ++ [62]) := by
    rw [← pid_parts hk hm h46 h62, ext_lst, drop_at h, hf, show j + 1 + k + 1 + m + 1 - j = (k + (1 + m) + 1) + 1 by omega, List.take_succ_cons]
  have hD : ∀ c ∈ lst (s.extract (j + 1) (j + 1 + k)), isDig c = true := by
    intro c hc
    rw [ext_lst, show j + 1 + k - (j + 1) = k by omega, ← hk] at hc
    exact runOf_all hc
  rw [lf_pid hl hb, pidT_M, trim_at, cut_at _ _ hD, pidM_ref]
theorem tk_pid_no {s : ByteArray} {j k m : Nat} {b : UInt8} (h : (lst s)[j]? = some b) (hb : b.toNat = 60) (hk : runOf isDig ((lst s).drop (j + 1)) = k) (hm : runOf isDig ((lst s).drop (j + 1 + k + 1)) = m) (hn : ¬ (k ≠ 0 ∧ (lst s)[j + 1 + k]? = some 46 ∧ m ≠ 0 ∧ (lst s)[j + 1 + k + 1 + m]? = some 62)) : tkAt s j = .bad := by
  by_cases h2 : (lst s)[j + 1 + k]? = some 46 ∧ (lst s)[j + 1 + k + 1 + m]? = some 62
  · rw [(tk_pid_yes h hb hk hm h2.1 h2.2).2, pidM_no]
    · rfl
    · by_cases hk0 : k = 0
      · refine .inl ?_
        rw [ext_lst, hk0, show j + 1 + 0 - (j + 1) = 0 by omega, List.take_zero]
        exact refN_of_none num_nil
      · have hm0 : m = 0 := by
          by_cases hm0 : m = 0
          · exact hm0
          · exact absurd ⟨hk0, h2.1, hm0, h2.2⟩ hn
        refine .inr ?_
        rw [ext_lst, hm0, show j + 1 + k + 1 + 0 - (j + 1 + k + 1) = 0 by omega, List.take_zero]
        exact refN_of_none num_nil
  · have hw := pidW_at (b := b) hk hm
    rw [if_neg h2] at hw
    have hf : fin s j = j + 1 := by rw [fin_pid h hb, hw]
    rw [tk_other h (pid_sg hb)]
    have hl : lst (s.extract j (fin s j)) = [b] := by
      rw [ext_lst, drop_at h, hf, show j + 1 - j = 0 + 1 by omega, List.take_succ_cons, List.take_zero]
    rw [lf_pid hl hb, pidT_M]
    have : Lib.trimSuffix [] [62] = [] := by decide
    rw [this]
    have h2 : (Lib.cut [] [46]).1 = [] := by decide
    rw [h2, num_nil]
    rfl
/-- Numbers. -/
theorem fin_num {s : ByteArray} {j k : Nat} {b : UInt8} (h : (lst s)[j]? = some b) (hb : isDig b = true ∨ b.toNat = 45) (hk : runOf isDig ((lst s).drop (j + 1)) = k) (hn : ¬ (b.toNat = 45 ∧ k = 0)) : fin s j = j + 1 + k + otherW ((lst s).drop (j + 1 + k)) := by
  have hm : isSm b = false := by
    rcases hb with hb | hb
    · have := isDig_bd hb; simp [isSm]; omega
    · simp [isSm]; omega
  unfold fin
  rw [drop_at h, wid_num hm hb, num_eq (k := k) (by simpa using hk), if_neg, Nat.add_comm 1 k, List.drop_succ_cons, List.drop_drop]
  · omega
  · rintro ⟨h1, h2⟩
    refine hn ⟨?_, h2⟩
    injection h1 with h1
    rw [h1]; rfl
theorem num_sg {b : UInt8} (hb : isDig b = true ∨ b.toNat = 45) : isSg b = false ∧ isSm b = false ∧ b.toNat ≠ 60 ∧ b.toNat ≠ 35 := by
  rcases hb with hb | hb
  · have := isDig_bd hb; simp [isSg, isSm]; omega
  · simp [isSg, isSm]; omega
theorem lf_num {s : ByteArray} {b : UInt8} {r : List UInt8} (h : lst s = b :: r) (hb : isDig b = true ∨ b.toNat = 45) : lf s = if Lib.hasSuffix (lst s) [105] then comT (lst s) else intT (lst s) := by
  obtain ⟨_, h1, h2, h3⟩ := num_sg hb
  unfold lf
  rw [h]
  simp only
  rw [if_neg (by simp [h1]), if_neg h2, if_neg h3]
theorem intT_ref (l : List UInt8) : intT l = (refN l).map T.int := by
  unfold intT
  rcases refN_cases l with ⟨h1, h2⟩ | ⟨n, h1, ⟨h3, h2⟩ | ⟨h3, h2⟩⟩ <;> rw [h1, h2] <;> simp [*]
theorem num_no_i {s : ByteArray} {j k : Nat} {b : UInt8} (h : (lst s)[j]? = some b) (hb : isDig b = true ∨ b.toNat = 45) (hk : runOf isDig ((lst s).drop (j + 1)) = k) : Lib.hasSuffix (lst (s.extract j (j + 1 + k))) [105] = false := by
  cases hc : Lib.hasSuffix (lst (s.extract j (j + 1 + k))) [105] with
  | false => rfl
  | true =>
    exfalso
    have := suffix_mem hc
    rw [ext_lst, drop_at h, show j + 1 + k - j = k + 1 by omega, List.take_succ_cons] at this
    rcases List.mem_cons.1 this with e | e
    · rw [← e] at hb
      revert hb; decide
    · have := runOf_all (l := (lst s).drop (j + 1)) (p := isDig) (c := 105) (by rw [hk]; exact e)
      revert this; decide
theorem tk_int {s : ByteArray} {j k : Nat} {b : UInt8} (h : (lst s)[j]? = some b) (hb : isDig b = true ∨ b.toNat = 45) (hk : runOf isDig ((lst s).drop (j + 1)) = k) (hn : ¬ (b.toNat = 45 ∧ k = 0)) (ho : otherW ((lst s).drop (j + 1 + k)) = 0) :
    fin s j = j + 1 + k ∧ tkAt s j = tkO ((refN (lst (s.extract j (j + 1 + k)))).map T.int) := by
  have hf : fin s j = j + 1 + k := by rw [fin_num h hb hk hn, ho]; omega
  refine ⟨hf, ?_⟩
  obtain ⟨m, _, h2⟩ := tok_head h
  rw [tk_other h (num_sg hb).1, lf_num h2 hb, hf, num_no_i h hb hk, intT_ref]
  rfl
theorem tk_minus {s : ByteArray} {j : Nat} {b : UInt8} (h : (lst s)[j]? = some b) (hb : b.toNat = 45) (hk : runOf isDig ((lst s).drop (j + 1)) = 0) : tkAt s j = .bad := by
  obtain ⟨h0, hm, h60, h35⟩ := num_sg (.inr hb)
  have hf : fin s j = j + 1 := by
    unfold fin
    rw [drop_at h, wid_num hm (.inr hb), num_eq (k := 0) (by simpa using hk), if_pos]
    exact ⟨by rw [List.head?_cons]; congr 1; exact UInt8.toNat_inj.1 hb, rfl⟩
  have hl : lst (s.extract j (fin s j)) = [b] := by
    rw [ext_lst, drop_at h, hf, show j + 1 - j = 0 + 1 by omega, List.take_succ_cons, List.take_zero]
  rw [tk_other h h0, lf_num hl (.inr hb), hl]
  have : Lib.hasSuffix [b] [105] = false := by
    have e : b = 45 := UInt8.toNat_inj.1 hb
    rw [e]; decide
  rw [this]
  have h2 : intT [b] = none := by unfold intT; rw [numP_one (by simp [isDig]; omega)]
  simp only [Bool.false_eq_true, if_false, h2]
  rfl
theorem trimP_pm (sg : UInt8) (D : List UInt8) : Lib.trimPrefix (sg :: D) [43] = if sg.toNat = 43 then D else sg :: D := by
  unfold Lib.trimPrefix
  rw [pre_one]
  by_cases h : sg.toNat = 43
  · have e : sg = 43 := UInt8.toNat_inj.1 h
    rw [if_pos h, e]; simp
  · have e : ¬ sg = 43 := fun e => h (by rw [e]; rfl)
    rw [if_neg h]; simp [e]
theorem other_parts {r : List UInt8} (h : otherW r ≠ 0) : ∃ sg, r[0]? = some sg ∧ isPM sg = true ∧ runOf isDig (r.drop 1) ≠ 0 ∧ r[1 + runOf isDig (r.drop 1)]? = some 105 ∧ otherW r = 1 + runOf isDig (r.drop 1) + 1 := by
  unfold otherW at h ⊢
  split at h
  · rename_i hc
    rw [if_pos hc]
    rw [tail_drop] at hc ⊢
    cases r with
    | nil => simp at hc
    | cons sg r => exact ⟨sg, rfl, by simpa using hc.1, hc.2.1, hc.2.2, rfl⟩
  · exact absurd rfl h
theorem tk_com {s : ByteArray} {j k d : Nat} {b sg : UInt8} (h : (lst s)[j]? = some b) (hb : isDig b = true ∨ b.toNat = 45) (hk : runOf isDig ((lst s).drop (j + 1)) = k) (hn : ¬ (b.toNat = 45 ∧ k = 0)) (hsg : (lst s)[j + 1 + k]? = some sg) (hpm : isPM sg = true) (hd : runOf isDig ((lst s).drop (j + 1 + k + 1)) = d) (hd0 : d ≠ 0) (hi : (lst s)[j + 1 + k + 1 + d]? = some 105) :
    fin s j = j + 1 + k + 1 + d + 1 ∧ tkAt s j = tkO (comM (refN (lst (s.extract j (j + 1 + k)))) (refN (if sg.toNat = 43 then lst (s.extract (j + 1 + k + 1) (j + 1 + k + 1 + d)) else lst (s.extract (j + 1 + k) (j + 1 + k + 1 + d))))) := by
  have ho : otherW ((lst s).drop (j + 1 + k)) = 1 + d + 1 := by
    rw [other_eq (k := d) (by rw [drop_at hsg]; simpa using hpm) (by rw [List.drop_drop, show j + 1 + k + 1 = j + 1 + k + 1 from rfl]; exact hd), if_pos]
    exact ⟨hd0, by rw [List.getElem?_drop, ← Nat.add_assoc]; exact hi⟩
  have hf : fin s j = j + 1 + k + 1 + d + 1 := by rw [fin_num h hb hk hn, ho]; omega
  refine ⟨hf, ?_⟩
  obtain ⟨m, _, h2⟩ := tok_head h
  have hD : ∀ c ∈ lst (s.extract (j + 1 + k + 1) (j + 1 + k + 1 + d)), isPM c = false := by
    intro c hc
    rw [ext_lst, show j + 1 + k + 1 + d - (j + 1 + k + 1) = d by omega, ← hd] at hc
    exact dig_pm (runOf_all hc)
  have hdr : sg :: lst (s.extract (j + 1 + k + 1) (j + 1 + k + 1 + d)) = lst (s.extract (j + 1 + k) (j + 1 + k + 1 + d)) := by
    rw [ext_lst, ext_lst, drop_at hsg, show j + 1 + k + 1 + d - (j + 1 + k) = d + 1 by omega, List.take_succ_cons, show j + 1 + k + 1 + d - (j + 1 + k + 1) = d by omega]
  have hl : lst (s.extract j (fin s j)) = (lst (s.extract j (j + 1 + k)) ++ sg :: lst (s.extract (j + 1 + k + 1) (j + 1 + k + 1 + d))) ++ [105] := by
    rw [hdr, hf, ext_lst, ext_lst, ext_lst, show j + 1 + k + 1 + d + 1 - j = ((1 + k) + (1 + d)) + 1 by omega, List.take_add_one, List.getElem?_drop, show j + (1 + k + (1 + d)) = j + 1 + k + 1 + d by omega, hi, List.take_add, List.drop_drop, show j + (1 + k) = j + 1 + k by omega, show j + 1 + k - j = 1 + k by omega, show j + 1 + k + 1 + d - (j + 1 + k) = 1 + d by omega]
    rfl
  have hs : Lib.hasSuffix (lst (s.extract j (fin s j))) [105] = true := by rw [hl, suffix_one]; rfl
  have hc : comB (lst (s.extract j (fin s j))) = lst (s.extract j (j + 1 + k)) ++ sg :: lst (s.extract (j + 1 + k + 1) (j + 1 + k + 1 + d)) := by rw [hl]; exact trim_one _
  rw [tk_other h (num_sg hb).1, lf_num h2 hb, hs, if_pos rfl, comT_M, hc, lastPM_at _ _ _ hpm hD, List.take_left, List.drop_left, trimP_pm, comM_ref, hdr]
/-- What begins as no token does. -/
theorem tk_none {s : ByteArray} {j : Nat} {b : UInt8} (h : (lst s)[j]? = some b) (h0 : isSg b = false) (h1 : isSm b = false) (h2 : isDig b = false) (h3 : b.toNat ≠ 45) (h4 : b.toNat ≠ 60) (h5 : b.toNat ≠ 35) : tkAt s j = .bad := by
  have hf : fin s j = j + 1 := by
    unfold fin
    rw [drop_at h, wid_rest h1 h2 h3, if_neg h4, if_neg h5]
  have hl : lst (s.extract j (fin s j)) = [b] := by
    rw [ext_lst, drop_at h, hf, show j + 1 - j = 0 + 1 by omega, List.take_succ_cons, List.take_zero]
  rw [tk_other h h0]
  have hs : Lib.hasSuffix [b] [105] = false := by
    have := suffix_one [] b
    rw [List.nil_append] at this
    rw [this, decide_eq_false_iff_not]
    rintro rfl
    revert h1; decide
  unfold lf
  rw [hl]
  simp only
  rw [if_neg (by simp [h1]), if_neg h4, if_neg h5, hs]
  have : intT [b] = none := by unfold intT; rw [numP_one h2]
  simp only [Bool.false_eq_true, if_false, this]
  rfl
end Go.Proofs.YtlilfmpikampgaaGreatDoor

namespace Go.Proofs.YtlilfmpikampgaaGreatDoor
open Go.RowKit

def NumE (l : List UInt8) (e : Ending) : Prop := ∃ (v : Int) (ok : Bool), e = .returned (.tuple #[.int .i64 v, .bool ok]) ∧ refN l = if ok = true then some v else none
theorem ret_two {a b : Int} {c d : Bool} (h : a = b) (h' : c = d) : Ending.returned (.tuple #[.int .i64 a, .bool c]) = .returned (.tuple #[.int .i64 b, .bool d]) := by rw [h, h']
theorem num_no {l : List UInt8} (h : ¬ (Pass l ∧ dv 0 (dgs l) ≤ 4611686018427387903)) (v : Int) : NumE l (.returned (.tuple #[.int .i64 v, .bool false])) := ⟨v, false, rfl, ref_no h⟩
theorem digits_to (s : ByteArray) (D : Int) (i r : Nat) (w : World) (hs : s.size ≤ 262144) (hi : i ≤ s.size) (hD : D = (i : Int)) (hr : i + runOf isDig ((lst s).drop i) = r) : Calls Tryz.prog 55 #[.string s, .int .i64 D] w fun e w' => e = .returned (.int .i64 r) ∧ w = w' := by
  subst hD hr
  exact ref_digits s i w hs hi
theorem bytes_ne {s : ByteArray} (h : 0 < s.size) : lst s ≠ [] := by
  intro e
  have := lst_len s
  rw [e] at this
  simp at this
  omega
theorem sgn_at {s : ByteArray} (h : 0 < s.size) : sgn (lst s) = ((((s[0]'h).toNat : Nat) : Int) == 45) := by
  unfold sgn
  rw [List.head?_eq_getElem?, lst_at h, Bool.eq_iff_iff]
  simp only [Option.some.injEq, decide_eq_true_eq, beq_iff_eq]
  constructor
  · intro e; rw [e]; rfl
  · intro e; exact UInt8.toNat_inj.1 (by show _ = 45; omega)
theorem dgs_drop {l : List UInt8} {i : Nat} (h : sgn l = decide (i = 1)) (hi : i ≤ 1) : dgs l = l.drop i := by
  unfold dgs
  rw [h]
  by_cases h1 : i = 1
  · subst h1; simp
  · have : i = 0 := by omega
    subst this; simp
theorem dgs_at {s : ByteArray} {i : Nat} (h : sgn (lst s) = decide (i = 1)) (hi : i ≤ 1) (hl : i < s.size) : (dgs (lst s)).head? = some (s[i]'hl) := by
  rw [dgs_drop h hi, List.head?_drop, lst_at hl]
theorem dgs_len {s : ByteArray} {i : Nat} (h : sgn (lst s) = decide (i = 1)) (hi : i ≤ 1) : (dgs (lst s)).length = s.size - i := by
  rw [dgs_drop h hi, List.length_drop, lst_len]
/-- What the loop comes to. -/
theorem num_sum {s : ByteArray} {i k : Nat} (h : sgn (lst s) = decide (i = 1)) (hi : i ≤ 1) (h1 : i ≤ k) (hk : k < s.size) : dv 0 ((dgs (lst s)).take (k + 1 - i)) = dv 0 ((dgs (lst s)).take (k - i)) * 10 + ((s[k]'hk).toNat - 48) := by
  have : (dgs (lst s))[k - i]? = some (s[k]'hk) := by
    rw [dgs_drop h hi, List.getElem?_drop, show i + (k - i) = k by omega, lst_at hk]
  rw [show k + 1 - i = (k - i) + 1 by omega]
  exact dv_step this
theorem num_dig {s : ByteArray} {i k : Nat} (h : sgn (lst s) = decide (i = 1)) (hi : i ≤ 1) (h1 : i ≤ k) (hk : k < s.size) (hp : Pass (lst s)) : 48 ≤ (s[k]'hk).toNat ∧ (s[k]'hk).toNat ≤ 57 := by
  have : (dgs (lst s))[k - i]? = some (s[k]'hk) := by
    rw [dgs_drop h hi, List.getElem?_drop, show i + (k - i) = k by omega, lst_at hk]
  exact isDig_bd (hp.can.2.1 _ (List.mem_of_getElem? this))
theorem num_full {s : ByteArray} {i : Nat} (h : sgn (lst s) = decide (i = 1)) (hi : i ≤ 1) : (dgs (lst s)).take (s.size - i) = dgs (lst s) := by
  rw [← dgs_len h hi, List.take_length]
theorem quo_ten {d : Int} (h1 : 0 ≤ d) (h2 : d ≤ 9) : (4611686018427387904 - d).tdiv 10 = (4611686018427387904 - d) / 10 := Int.tdiv_eq_ediv_of_nonneg (by omega)
theorem run_all {s : ByteArray} {i : Nat} (h : sgn (lst s) = decide (i = 1)) (hi : i ≤ 1) (hl : i ≤ s.size) : i + runOf isDig ((lst s).drop i) = s.size ↔ ∀ c ∈ dgs (lst s), isDig c = true := by
  rw [dgs_drop h hi]
  constructor
  · intro he
    refine all_dig ?_
    rw [List.length_drop, lst_len]; omega
  · intro ha
    rw [dig_all ha, List.length_drop, lst_len]; omega

set_option maxHeartbeats 4000000 in
theorem number_fail0 (s : ByteArray) (w : World) (h1 : 0 < s.size) (h0 : 0 < s.size) (h20 : s.size ≤ 20) (hs : sgn (lst s) = decide (0 = 1)) (hp : ¬ Pass (lst s)) :
    Calls Tryz.prog 57 #[.string s] w fun e w' => NumE (lst s) e ∧ w = w' := by
  have hn := Lib.hid (fun v => num_no (l := lst s) (fun h => hp h.1) v)
  have c0 : ((s.size : Int) == 0) = false := by rw [beq_eq_false_iff_ne]; omega
  have c20 : decide ((20 : Int) < (s.size : Int)) = false := by simp; omega
  have c45 : (((s[0]'h0).toNat : Int) == 45) = false := by rw [← sgn_at h0, hs]; rfl
  have cl : ((0 : Int) == (s.size : Int)) = false := by rw [beq_eq_false_iff_ne]; omega
  obtain ⟨r, hr⟩ : ∃ r, 0 + runOf isDig ((lst s).drop 0) = r := ⟨_, rfl⟩
  have D := Lib.hid (fun w => digits_to s 0 0 r w (by omega) (by omega) rfl hr)
  have HA := run_all hs (by omega) (by omega : 0 ≤ s.size)
  rw [hr] at HA
  have HH := dgs_at hs (by omega) h1
  have HL := dgs_len hs (by omega)
  have key : (((s[0]'h1).toNat : Int) == 48) = false → ((r : Int) != (s.size : Int)) = false → decide ((19 : Int) < (s.size : Int)) = true := by
    intro k1 k2
    have k1' := ne_of_beq_false k1
    have k2' : (r : Int) = (s.size : Int) := by simpa using k2
    rw [decide_eq_true_eq]
    by_cases hlt : (19 : Int) < (s.size : Int)
    · exact hlt
    · refine absurd (pass_of (fun e => by rw [e] at HH; cases HH) (HA.1 (by omega)) (fun e => ?_) (by rw [HL]; omega)) hp
      rw [HH] at e
      injection e with e
      exact absurd (by rw [e]; rfl) k1'
  have key2 : (((s[0]'h1).toNat : Int) == 48) = true → decide (1 < (s.size : Int)) = false → ((r : Int) != (s.size : Int)) = false → False := by
    intro k1 k2 k3
    have k3' : (r : Int) = (s.size : Int) := by simpa using k3
    have k2' : ¬ (1 < (s.size : Int)) := by simpa using k2
    exact hp (pass_of (fun e => by rw [e] at HH; cases HH) (HA.1 (by omega)) (fun _ => ⟨by rw [HL]; omega, by rw [hs]; rfl⟩) (by rw [HL]; omega))
  clear hs hr HA HH HL hp
  cases z : (((s[0]'h1).toNat : Int) == 48)
  · cases g : ((r : Int) != (s.size : Int))
    · have k := key z g
      clear key key2
      go_enter Tryz.func57, Tryz.ntmps57
      go_wp2_with fail
      (with_reducible refine (D.out _).mono ?_)
      rintro e w' ⟨rfl, rfl⟩
      go_wp2_with fail
      go_ret2
      exact ⟨hn.out 0, rfl⟩
    · clear key key2
      go_enter Tryz.func57, Tryz.ntmps57
      go_wp2_with fail
      (with_reducible refine (D.out _).mono ?_)
      rintro e w' ⟨rfl, rfl⟩
      go_wp2_with fail
      go_ret2
      exact ⟨hn.out 0, rfl⟩
  · cases q : decide (1 < (s.size : Int))
    · cases g : ((r : Int) != (s.size : Int))
      · exact absurd g (fun g => key2 z q g)
      · clear key key2
        go_enter Tryz.func57, Tryz.ntmps57
        go_wp2_with fail
        (with_reducible refine (D.out _).mono ?_)
        rintro e w' ⟨rfl, rfl⟩
        go_wp2_with fail
        go_ret2
        exact ⟨hn.out 0, rfl⟩
    · clear key key2
      go_enter Tryz.func57, Tryz.ntmps57
      go_wp2_with fail
      go_ret2
      exact ⟨hn.out 0, rfl⟩
set_option maxHeartbeats 4000000 in
theorem number_pass0 (s : ByteArray) (w : World) (h1 : 0 < s.size) (h0 : 0 < s.size) (h20 : s.size ≤ 20) (hs : sgn (lst s) = decide (0 = 1)) (hp : Pass (lst s)) :
    Calls Tryz.prog 57 #[.string s] w fun e w' => NumE (lst s) e ∧ w = w' := by
  have HL := dgs_len hs (by omega)
  have c0 : ((s.size : Int) == 0) = false := by rw [beq_eq_false_iff_ne]; omega
  have c20 : decide ((20 : Int) < (s.size : Int)) = false := by simp; omega
  have c45 : (((s[0]'h0).toNat : Int) == 45) = false := by rw [← sgn_at h0, hs]; rfl
  have cl : ((0 : Int) == (s.size : Int)) = false := by rw [beq_eq_false_iff_ne]; omega
  have D := Lib.hid (fun w => digits_to s 0 0 s.size w (by omega) (by omega) rfl ((run_all hs (by omega) (by omega : 0 ≤ s.size)).2 hp.can.2.1))
  have g : ((s.size : Int) != (s.size : Int)) = false := by simp
  have g19 : decide ((19 : Int) < (s.size : Int)) = false := by
    have := hp.le
    simp; omega
  have HP := Lib.hid hp
  have HS := Lib.hid hs
  cases z : (((s[0]'h1).toNat : Int) == 48)
  · (
      go_enter Tryz.func57, Tryz.ntmps57
      go_wp2_with fail
      (with_reducible refine (D.out _).mono ?_)
      rintro e w' ⟨rfl, rfl⟩
      go_wp2_with fail
      go_loopw [5, 6] (fun nv kv wr => ∃ (k n : Nat), kv = .int .i64 k ∧ nv = .int .i64 n ∧ 0 ≤ k ∧ k ≤ s.size ∧ n = dv 0 ((dgs (lst s)).take (k - 0)) ∧ n ≤ 4611686018427387904 ∧ w = wr) (fun _ kv _ => s.size - (intOf kv).toNat)
      case atStart => exact ⟨0, 0, rfl, rfl, by omega, by omega, rfl, by omega, rfl⟩
      case round =>
        obtain ⟨k, n, rfl, rfl, hk1, hk2, hn, hn2, rfl⟩ := hrel
        by_cases hlt : k < s.size
        · obtain ⟨d1, d2⟩ := num_dig HS.out (by omega) hk1 hlt HP.out
          have HU := Lib.hid (num_sum HS.out (by omega) hk1 hlt)
          have HN := Lib.hid hn
          have qt := quo_ten (d := ((s[k]'hlt).toNat : Int) - 48) (by omega) (by omega)
          clear hn
          cases big : decide ((4611686018427387904 - (((s[k]'hlt).toNat : Int) - 48)) / 10 < (n : Int))
          · have hb : ¬ ((4611686018427387904 - (((s[k]'hlt).toNat : Int) - 48)) / 10 < (n : Int)) := by simpa using big
            go_wp2_with fail
            go_roundw
            case rel => exact ⟨k + 1, n * 10 + ((s[k]'hlt).toNat - 48), by go_num, by go_num, by omega, by omega, by rw [HU.out, ← HN.out], by omega, by trivial⟩
            case measure =>
              simp [intOf]
              omega
          · have hb : (4611686018427387904 - (((s[k]'hlt).toNat : Int) - 48)) / 10 < (n : Int) := by simpa using big
            have HX : Hid (¬ (Pass (lst s) ∧ dv 0 (dgs (lst s)) ≤ 4611686018427387903)) := Lib.hid (fun h => by
              have h2 := dv_take (dgs (lst s)) (k + 1 - 0)
              have h3 := HU.out
              rw [← HN.out] at h3
              have := h.2
              omega)
            go_wp2_with fail
            go_ret2
            exact ⟨num_no HX.out 0, by trivial⟩
        · have he : k = s.size := by omega
          subst he
          rw [num_full HS.out (by omega)] at hn
          have HN := Lib.hid hn
          clear hn
          cases big : decide ((n : Int) ≤ 4611686018427387903)
          · have hb : ¬ ((n : Int) ≤ 4611686018427387903) := by simpa using big
            have HX : Hid (¬ (Pass (lst s) ∧ dv 0 (dgs (lst s)) ≤ 4611686018427387903)) := Lib.hid (fun h => by have := h.2; rw [← HN.out] at this; omega)
            go_wp2_with fail
            all_goals
              go_ret2
              exact ⟨⟨_, false, ret_two (by rfl) (by first | (simp; done) | (simp; omega)), ref_no HX.out⟩, by trivial⟩
          · have hb : (n : Int) ≤ 4611686018427387903 := by simpa using big
            have HX := Lib.hid (ref_yes HP.out (by rw [← HN.out]; omega))
            rw [HS.out, ← HN.out] at HX
            go_wp2_with fail
            all_goals
              go_ret2
              exact ⟨⟨_, true, ret_two (by rfl) (by first | (simp; done) | (simp; omega)), HX.out⟩, by trivial⟩
    )
  · have q : decide (1 < (s.size : Int)) = false := by
      have h2 : (dgs (lst s)).head? = some 48 := by
        rw [dgs_at hs (by omega) h1]
        congr 1
        exact UInt8.toNat_inj.1 (by have := eq_of_beq z; show _ = 48; omega)
      have := hp.can.2.2 h2
      simp; omega
    (
      go_enter Tryz.func57, Tryz.ntmps57
      go_wp2_with fail
      (with_reducible refine (D.out _).mono ?_)
      rintro e w' ⟨rfl, rfl⟩
      go_wp2_with fail
      go_loopw [5, 6] (fun nv kv wr => ∃ (k n : Nat), kv = .int .i64 k ∧ nv = .int .i64 n ∧ 0 ≤ k ∧ k ≤ s.size ∧ n = dv 0 ((dgs (lst s)).take (k - 0)) ∧ n ≤ 4611686018427387904 ∧ w = wr) (fun _ kv _ => s.size - (intOf kv).toNat)
      case atStart => exact ⟨0, 0, rfl, rfl, by omega, by omega, rfl, by omega, rfl⟩
      case round =>
        obtain ⟨k, n, rfl, rfl, hk1, hk2, hn, hn2, rfl⟩ := hrel
        by_cases hlt : k < s.size
        · obtain ⟨d1, d2⟩ := num_dig HS.out (by omega) hk1 hlt HP.out
          have HU := Lib.hid (num_sum HS.out (by omega) hk1 hlt)
          have HN := Lib.hid hn
          have qt := quo_ten (d := ((s[k]'hlt).toNat : Int) - 48) (by omega) (by omega)
          clear hn
          cases big : decide ((4611686018427387904 - (((s[k]'hlt).toNat : Int) - 48)) / 10 < (n : Int))
          · have hb : ¬ ((4611686018427387904 - (((s[k]'hlt).toNat : Int) - 48)) / 10 < (n : Int)) := by simpa using big
            go_wp2_with fail
            go_roundw
            case rel => exact ⟨k + 1, n * 10 + ((s[k]'hlt).toNat - 48), by go_num, by go_num, by omega, by omega, by rw [HU.out, ← HN.out], by omega, by trivial⟩
            case measure =>
              simp [intOf]
              omega
          · have hb : (4611686018427387904 - (((s[k]'hlt).toNat : Int) - 48)) / 10 < (n : Int) := by simpa using big
            have HX : Hid (¬ (Pass (lst s) ∧ dv 0 (dgs (lst s)) ≤ 4611686018427387903)) := Lib.hid (fun h => by
              have h2 := dv_take (dgs (lst s)) (k + 1 - 0)
              have h3 := HU.out
              rw [← HN.out] at h3
              have := h.2
              omega)
            go_wp2_with fail
            go_ret2
            exact ⟨num_no HX.out 0, by trivial⟩
        · have he : k = s.size := by omega
          subst he
          rw [num_full HS.out (by omega)] at hn
          have HN := Lib.hid hn
          clear hn
          cases big : decide ((n : Int) ≤ 4611686018427387903)
          · have hb : ¬ ((n : Int) ≤ 4611686018427387903) := by simpa using big
            have HX : Hid (¬ (Pass (lst s) ∧ dv 0 (dgs (lst s)) ≤ 4611686018427387903)) := Lib.hid (fun h => by have := h.2; rw [← HN.out] at this; omega)
            go_wp2_with fail
            all_goals
              go_ret2
              exact ⟨⟨_, false, ret_two (by rfl) (by first | (simp; done) | (simp; omega)), ref_no HX.out⟩, by trivial⟩
          · have hb : (n : Int) ≤ 4611686018427387903 := by simpa using big
            have HX := Lib.hid (ref_yes HP.out (by rw [← HN.out]; omega))
            rw [HS.out, ← HN.out] at HX
            go_wp2_with fail
            all_goals
              go_ret2
              exact ⟨⟨_, true, ret_two (by rfl) (by first | (simp; done) | (simp; omega)), HX.out⟩, by trivial⟩
    )

set_option maxHeartbeats 4000000 in
theorem number_fail1 (s : ByteArray) (w : World) (h1 : 1 < s.size) (h0 : 0 < s.size) (h20 : s.size ≤ 20) (hs : sgn (lst s) = decide (1 = 1)) (hp : ¬ Pass (lst s)) :
    Calls Tryz.prog 57 #[.string s] w fun e w' => NumE (lst s) e ∧ w = w' := by
  have hn := Lib.hid (fun v => num_no (l := lst s) (fun h => hp h.1) v)
  have c0 : ((s.size : Int) == 0) = false := by rw [beq_eq_false_iff_ne]; omega
  have c20 : decide ((20 : Int) < (s.size : Int)) = false := by simp; omega
  have c45 : (((s[0]'h0).toNat : Int) == 45) = true := by rw [← sgn_at h0, hs]; rfl
  have cl : ((1 : Int) == (s.size : Int)) = false := by rw [beq_eq_false_iff_ne]; omega
  obtain ⟨r, hr⟩ : ∃ r, 1 + runOf isDig ((lst s).drop 1) = r := ⟨_, rfl⟩
  have D := Lib.hid (fun w => digits_to s 1 1 r w (by omega) (by omega) rfl hr)
  have HA := run_all hs (by omega) (by omega : 1 ≤ s.size)
  rw [hr] at HA
  have HH := dgs_at hs (by omega) h1
  have HL := dgs_len hs (by omega)
  have key : (((s[1]'h1).toNat : Int) == 48) = false → ((r : Int) != (s.size : Int)) = false → decide ((19 : Int) < (s.size : Int) - 1) = true := by
    intro k1 k2
    have k1' := ne_of_beq_false k1
    have k2' : (r : Int) = (s.size : Int) := by simpa using k2
    rw [decide_eq_true_eq]
    by_cases hlt : (19 : Int) < (s.size : Int) - 1
    · exact hlt
    · refine absurd (pass_of (fun e => by rw [e] at HH; cases HH) (HA.1 (by omega)) (fun e => ?_) (by rw [HL]; omega)) hp
      rw [HH] at e
      injection e with e
      exact absurd (by rw [e]; rfl) k1'
  clear hs hr HA HH HL hp
  cases z : (((s[1]'h1).toNat : Int) == 48)
  · cases g : ((r : Int) != (s.size : Int))
    · have k := key z g
      clear key 
      go_enter Tryz.func57, Tryz.ntmps57
      go_wp2_with fail
      (with_reducible refine (D.out _).mono ?_)
      rintro e w' ⟨rfl, rfl⟩
      go_wp2_with fail
      go_ret2
      exact ⟨hn.out 0, rfl⟩
    · clear key 
      go_enter Tryz.func57, Tryz.ntmps57
      go_wp2_with fail
      (with_reducible refine (D.out _).mono ?_)
      rintro e w' ⟨rfl, rfl⟩
      go_wp2_with fail
      go_ret2
      exact ⟨hn.out 0, rfl⟩
  · clear key
    go_enter Tryz.func57, Tryz.ntmps57
    go_wp2_with fail
    all_goals
      go_ret2
      exact ⟨hn.out 0, rfl⟩
set_option maxHeartbeats 4000000 in
theorem number_pass1 (s : ByteArray) (w : World) (h1 : 1 < s.size) (h0 : 0 < s.size) (h20 : s.size ≤ 20) (hs : sgn (lst s) = decide (1 = 1)) (hp : Pass (lst s)) :
    Calls Tryz.prog 57 #[.string s] w fun e w' => NumE (lst s) e ∧ w = w' := by
  have HL := dgs_len hs (by omega)
  have c0 : ((s.size : Int) == 0) = false := by rw [beq_eq_false_iff_ne]; omega
  have c20 : decide ((20 : Int) < (s.size : Int)) = false := by simp; omega
  have c45 : (((s[0]'h0).toNat : Int) == 45) = true := by rw [← sgn_at h0, hs]; rfl
  have cl : ((1 : Int) == (s.size : Int)) = false := by rw [beq_eq_false_iff_ne]; omega
  have D := Lib.hid (fun w => digits_to s 1 1 s.size w (by omega) (by omega) rfl ((run_all hs (by omega) (by omega : 1 ≤ s.size)).2 hp.can.2.1))
  have g : ((s.size : Int) != (s.size : Int)) = false := by simp
  have g19 : decide ((19 : Int) < (s.size : Int) - 1) = false := by
    have := hp.le
    simp; omega
  have HP := Lib.hid hp
  have HS := Lib.hid hs
  have z : (((s[1]'h1).toNat : Int) == 48) = false := by
    cases z : (((s[1]'h1).toNat : Int) == 48) with
    | false => rfl
    | true =>
      exfalso
      have h2 : (dgs (lst s)).head? = some 48 := by
        rw [dgs_at hs (by omega) h1]
        congr 1
        exact UInt8.toNat_inj.1 (by have := eq_of_beq z; show _ = 48; omega)
      have h3 := hp.can.2.2 h2
      refine hp.neg (by rw [hs]; rfl) ?_
      cases hd : dgs (lst s) with
      | nil => rw [hd] at h2; cases h2
      | cons a l =>
        rw [hd] at h2 h3
        injection h2 with h2
        have : l = [] := by simpa using h3
        rw [h2, this]
  (
      go_enter Tryz.func57, Tryz.ntmps57
      go_wp2_with fail
      (with_reducible refine (D.out _).mono ?_)
      rintro e w' ⟨rfl, rfl⟩
      go_wp2_with fail
      go_loopw [5, 6] (fun nv kv wr => ∃ (k n : Nat), kv = .int .i64 k ∧ nv = .int .i64 n ∧ 1 ≤ k ∧ k ≤ s.size ∧ n = dv 0 ((dgs (lst s)).take (k - 1)) ∧ n ≤ 4611686018427387904 ∧ w = wr) (fun _ kv _ => s.size - (intOf kv).toNat)
      case atStart => exact ⟨1, 0, rfl, rfl, by omega, by omega, rfl, by omega, rfl⟩
      case round =>
        obtain ⟨k, n, rfl, rfl, hk1, hk2, hn, hn2, rfl⟩ := hrel
        by_cases hlt : k < s.size
        · obtain ⟨d1, d2⟩ := num_dig HS.out (by omega) hk1 hlt HP.out
          have HU := Lib.hid (num_sum HS.out (by omega) hk1 hlt)
          have HN := Lib.hid hn
          have qt := quo_ten (d := ((s[k]'hlt).toNat : Int) - 48) (by omega) (by omega)
          clear hn
          cases big : decide ((4611686018427387904 - (((s[k]'hlt).toNat : Int) - 48)) / 10 < (n : Int))
          · have hb : ¬ ((4611686018427387904 - (((s[k]'hlt).toNat : Int) - 48)) / 10 < (n : Int)) := by simpa using big
            go_wp2_with fail
            go_roundw
            case rel => exact ⟨k + 1, n * 10 + ((s[k]'hlt).toNat - 48), by go_num, by go_num, by omega, by omega, by rw [HU.out, ← HN.out], by omega, by trivial⟩
            case measure =>
              simp [intOf]
              omega
          · have hb : (4611686018427387904 - (((s[k]'hlt).toNat : Int) - 48)) / 10 < (n : Int) := by simpa using big
            have HX : Hid (¬ (Pass (lst s) ∧ dv 0 (dgs (lst s)) ≤ 4611686018427387903)) := Lib.hid (fun h => by
              have h2 := dv_take (dgs (lst s)) (k + 1 - 1)
              have h3 := HU.out
              rw [← HN.out] at h3
              have := h.2
              omega)
            go_wp2_with fail
            go_ret2
            exact ⟨num_no HX.out 0, by trivial⟩
        · have he : k = s.size := by omega
          subst he
          rw [num_full HS.out (by omega)] at hn
          have HN := Lib.hid hn
          clear hn
          cases big : decide ((n : Int) ≤ 4611686018427387903)
          · have hb : ¬ ((n : Int) ≤ 4611686018427387903) := by simpa using big
            have HX : Hid (¬ (Pass (lst s) ∧ dv 0 (dgs (lst s)) ≤ 4611686018427387903)) := Lib.hid (fun h => by have := h.2; rw [← HN.out] at this; omega)
            go_wp2_with fail
            all_goals
              go_ret2
              exact ⟨⟨_, false, ret_two (by rfl) (by first | (simp; done) | (simp; omega)), ref_no HX.out⟩, by trivial⟩
          · have hb : (n : Int) ≤ 4611686018427387903 := by simpa using big
            have HX := Lib.hid (ref_yes HP.out (by rw [← HN.out]; omega))
            rw [HS.out, ← HN.out] at HX
            go_wp2_with fail
            all_goals
              go_ret2
              exact ⟨⟨_, true, ret_two (by rfl) (by first | (simp; done) | (simp; omega)), HX.out⟩, by trivial⟩
  )
theorem ref_number (s : ByteArray) (w : World) (hs : s.size ≤ 262144) : Calls Tryz.prog 57 #[.string s] w fun e w' => NumE (lst s) e ∧ w = w' := by
  by_cases h0 : 0 < s.size
  · by_cases h20 : s.size ≤ 20
    · cases hs1 : sgn (lst s) with
      | true =>
        by_cases h1 : 1 < s.size
        · by_cases hp : Pass (lst s)
          · exact number_pass1 s w h1 h0 h20 (by rw [hs1]; rfl) hp
          · exact number_fail1 s w h1 h0 h20 (by rw [hs1]; rfl) hp
        · have hn := Lib.hid (fun v => num_no (l := lst s) (fun h => h.1.can.1 (List.eq_nil_of_length_eq_zero (by rw [dgs_len (i := 1) (by rw [hs1]; rfl) (by omega)]; omega))) v)
          have c0 : ((s.size : Int) == 0) = false := by rw [beq_eq_false_iff_ne]; omega
          have c20 : decide ((20 : Int) < (s.size : Int)) = false := by simp; omega
          have c45 : (((s[0]'h0).toNat : Int) == 45) = true := by rw [← sgn_at h0, hs1]
          have cl : ((1 : Int) == (s.size : Int)) = true := by rw [beq_iff_eq]; omega
          clear hs1
          go_enter Tryz.func57, Tryz.ntmps57
          go_wp2_with fail
          go_ret2
          exact ⟨hn.out 0, rfl⟩
      | false =>
        by_cases hp : Pass (lst s)
        · exact number_pass0 s w h0 h0 h20 (by rw [hs1]; rfl) hp
        · exact number_fail0 s w h0 h0 h20 (by rw [hs1]; rfl) hp
    · have hn := Lib.hid (fun v => num_no (l := lst s) (fun h => by
        have h1 := h.1.le
        have h2 : (lst s).length ≤ (dgs (lst s)).length + 1 := by
          unfold dgs
          split
          · rw [List.length_tail]; omega
          · omega
        rw [lst_len] at h2
        omega) v)
      have c0 : ((s.size : Int) == 0) = false := by rw [beq_eq_false_iff_ne]; omega
      have c20 : decide ((20 : Int) < (s.size : Int)) = true := by simp; omega
      go_enter Tryz.func57, Tryz.ntmps57
      go_wp2_with fail
      go_ret2
      exact ⟨hn.out 0, rfl⟩
  · have hn := Lib.hid (fun v => num_no (l := lst s) (fun h => h.1.can.1 (by
      have : lst s = [] := List.eq_nil_of_length_eq_zero (by rw [lst_len]; omega)
      rw [this]; rfl)) v)
    have c0 : ((s.size : Int) == 0) = true := by rw [beq_iff_eq]; omega
    go_enter Tryz.func57, Tryz.ntmps57
    go_wp2_with fail
    go_ret2
    exact ⟨hn.out 0, rfl⟩
end Go.Proofs.YtlilfmpikampgaaGreatDoor
