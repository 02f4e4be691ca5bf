/- Arguments made of ints, truth values, texts, structs and arrays of such, and slices of such: what they are in memory. Nothing here speaks of a program in particular. -/
import Derived.ProofKit
import Derived.OpenShut
import Derived.Deep.Slices
import Derived.ChangeOld
namespace Go.Proofs.Ytcchahgfjnphgaa
open Go.ChangeShapes Go.WideShapes Go.RowKit Go.Deep
set_option maxRecDepth 20000

/-- What a cell holds: a whole number, a truth value, a text, a slice of things of such cells (and of so many bytes each). -/
inductive Kd where
  | i | b | s
  | l (ks : List Kd) (bs : Nat)

mutual
def Kd.ok (w : World) : Kd → Value → Prop
  | .i, v => ∃ n, v = .int .i64 n ∧ -9223372036854775808 ≤ n ∧ n ≤ 9223372036854775807
  | .b, v => ∃ x, v = .bool x
  | .s, v => ∃ t : ByteArray, v = .string t ∧ t.size ≤ 140737488351232
  | .l ks bs, v => ∃ A len cap, v = .slice A len cap ∧ len ≤ cap ∧ cap ≤ 9223372036854775807 ∧ len * bs + 4096 ≤ 140737488355328 ∧
      (len = 0 ∨ ∃ bl off, A = some ⟨bl, off, none⟩ ∧ bl < w.heap.size ∧ ∀ i, i < len → ∃ cs, Oks w ks cs ∧ ∀ j v, cs[j]? = some v → w.cell? ⟨bl, off + i * ks.length + j, none⟩ = some v)
def Oks (w : World) : List Kd → List Value → Prop
  | [], cs => cs = []
  | k :: ks, cs => ∃ v r, cs = v :: r ∧ Kd.ok w k v ∧ Oks w ks r
end

theorem Oks.append {w : World} : ∀ {ks ls : List Kd} {cs ds : List Value}, Oks w ks cs → Oks w ls ds → Oks w (ks ++ ls) (cs ++ ds)
  | [], _, cs, _, h, g => by
    simp only [Oks] at h
    subst h
    exact g
  | k :: ks, _, cs, _, h, g => by
    simp only [Oks] at h
    obtain ⟨v, r, rfl, h1, h2⟩ := h
    simp only [List.cons_append, Oks]
    exact ⟨v, r ++ _, rfl, h1, Oks.append h2 g⟩
theorem Oks.len {w : World} : ∀ {ks : List Kd} {cs : List Value}, Oks w ks cs → cs.length = ks.length
  | [], cs, h => by
    simp only [Oks] at h
    subst h
    rfl
  | k :: ks, cs, h => by
    simp only [Oks] at h
    obtain ⟨v, r, rfl, h1, h2⟩ := h
    rw [List.length_cons, List.length_cons, Oks.len h2]

/-- The cells of a struct's fields, from an offset on. -/
def flatFs (P : Program) (g : TypeId → Option (List Kd)) : Nat → List Field → Option (List Kd)
  | _, [] => some []
  | off, x :: r => match g x.type with
    | some ks => match flatFs P g (off + ks.length) r with
      | some ls => if x.offset = off ∧ P.cellsOf x.type = ks.length then some (ks ++ ls) else none
      | none => none
    | none => none
/-- The cells of a type, if it is made of these. -/
def flat (P : Program) : Nat → TypeId → Option (List Kd)
  | 0, _ => none
  | f + 1, t => match P.underlying t with
    | some .bool => some [.b]
    | some (.int .i64) => some [.i]
    | some .string => some [.s]
    | some (.slice e) => match flat P f e with
      | some ks => if P.cellsOf e = ks.length ∧ 0 < ks.length then some [.l ks (P.bytesOf e)] else none
      | none => none
    | some (.struct fs) => match flatFs P (flat P f) 0 fs.toList with
      | some ks => if P.cellsOf t = ks.length then some ks else none
      | none => none
    | some (.array n e) => match flat P f e with
      | some ks => if P.cellsOf e = ks.length ∧ P.cellsOf t = n * ks.length then some (List.replicate n ks).flatten else none
      | none => none
    | _ => none

theorem bounds64 {n : Int} (h : (Lit.int .i64 n).wf = true) : -9223372036854775808 ≤ n ∧ n ≤ 9223372036854775807 := by
  simp [Lit.wf, IntKind.min, IntKind.max, IntKind.signed, IntKind.bits] at h
  omega
theorem mem_all {H : Type} {P : Program} {e : TypeId} {n : Nat} : ∀ {l : List (DataW H)} {d : DataW H}, d ∈ l → n ∈ d.weights P e → n ∈ DataW.weightsAll P e l
  | [], _, h, _ => by cases h
  | d0 :: r, d, h, hn => by
    simp only [DataW.weightsAll, List.mem_append]
    rcases List.mem_cons.1 h with rfl | h
    · exact .inl hn
    · exact .inr (mem_all h hn)
theorem mem_each {H : Type} {P : Program} {n : Nat} : ∀ {ts : List TypeId} {l : List (DataW H)} {j : Nat} {t : TypeId} {d : DataW H}, ts[j]? = some t → l[j]? = some d → n ∈ d.weights P t → n ∈ DataW.weightsEach P ts l
  | [], _, _, _, _, h, _, _ => by simp at h
  | _ :: _, [], _, _, _, _, h, _ => by simp at h
  | _ :: _, _ :: _, 0, _, _, h1, h2, hn => by
    simp at h1 h2
    subst h1 h2
    simp only [DataW.weightsEach, List.mem_append]
    exact .inl hn
  | _ :: _, _ :: _, j + 1, _, _, h1, h2, hn => by
    simp only [DataW.weightsEach, List.mem_append]
    exact .inr (mem_each (j := j) (by simpa using h1) (by simpa using h2) hn)

section
variable {H : Type} {enc : TypeId × Value → H} {P : Program} {w : World} {base : Nat} {sp : Nat → Bool} {hd : Bool}
theorem flat_fields {n : Nat} {g : TypeId → Option (List Kd)} {cs : List Value}
    (ih : ∀ {t : TypeId} {ks : List Kd} {cs : List Value} {y : DataW H × List MemPlace}, g t = some ks → DataW.trod enc P w base sp hd n t cs = some y → (∀ m ∈ y.1.weights P t, m ≤ reachBytes) → Oks w ks cs) :
    ∀ (fs : List Field) (off : Nat) {ks : List Kd}, flatFs P g off fs = some ks →
      (∀ (i : Nat) (f : Field), fs[i]? = some f → ∃ y, DataW.trod enc P w base sp hd n f.type ((cs.drop f.offset).take (P.cellsOf f.type)) = some y ∧ ∀ m ∈ y.1.weights P f.type, m ≤ reachBytes) → Oks w ks ((cs.drop off).take ks.length)
  | [], off, ks, h, _ => by
    simp only [flatFs, Option.some.injEq] at h
    subst h
    simp [Oks]
  | x :: r, off, ks, h, hf => by
    simp only [flatFs] at h
    split at h
    case h_2 => cases h
    rename_i l hl
    split at h
    case h_2 => cases h
    rename_i ls hls
    split at h
    case isFalse => cases h
    case isTrue hc =>
    obtain ⟨rfl, hc⟩ := hc
    simp only [Option.some.injEq] at h
    subst h
    obtain ⟨y, hy, hw⟩ := hf 0 x rfl
    rw [hc] at hy
    have h1 := ih hl hy hw
    have h2 := flat_fields ih r (x.offset + l.length) hls (fun i f hi => hf (i + 1) f (by simpa using hi))
    rw [List.length_append, List.take_add, List.drop_drop]
    exact h1.append h2
theorem flat_rep {ks : List Kd} {cs : List Value} : ∀ (n : Nat), (∀ i, i < n → Oks w ks ((cs.drop (i * ks.length)).take ks.length)) → Oks w (List.replicate n ks).flatten (cs.take (n * ks.length))
  | 0, _ => by simp [Oks]
  | n + 1, h => by
    rw [List.replicate_succ', List.flatten_append, Nat.succ_mul, List.take_add]
    refine (flat_rep n fun i hi => h i (by omega)).append ?_
    simpa using h n (by omega)
theorem flat_open : ∀ (f : Nat) {n : Nat} {t : TypeId} {ks : List Kd} {cs : List Value} {y : DataW H × List MemPlace}, flat P f t = some ks → DataW.trod enc P w base sp hd n t cs = some y → (∀ m ∈ y.1.weights P t, m ≤ reachBytes) → Oks w ks cs
  | 0, _, _, _, _, _, h, _, _ => by simp [flat] at h
  | f + 1, n, t, ks, cs, y, h, ht, hw => by
    simp only [flat] at h
    split at h
    case h_1 hu =>
      injection h with h; subst h
      obtain ⟨b, rfl, _⟩ := DataW.trod_bool hu ht
      exact ⟨_, [], rfl, ⟨b, rfl⟩, rfl⟩
    case h_2 hu =>
      injection h with h; subst h
      obtain ⟨b, rfl, _, hb⟩ := DataW.trod_int hu ht
      exact ⟨_, [], rfl, ⟨b, rfl, bounds64 hb⟩, rfl⟩
    case h_3 hu =>
      injection h with h; subst h
      obtain ⟨s, rfl, rfl, hb⟩ := DataW.trod_string hu ht
      refine ⟨_, [], rfl, ⟨s, rfl, ?_⟩, rfl⟩
      have := hw s.data.toList.length (by simp [DataW.weights])
      simp only [reachBytes, Array.length_toList] at this
      simp only [ByteArray.size]
      exact this
    case h_4 e hu =>
      split at h
      case h_2 => cases h
      rename_i l hl
      split at h
      case isFalse => cases h
      rename_i hc
      obtain ⟨hc, hpos⟩ := hc
      injection h with h; subst h
      rcases open_slice hu ht with ⟨rfl, _⟩ | ⟨a, len, cap, m, n', D, Pl, rfl, hb, hle, hm, hmm, rfl, hx⟩
      · exact ⟨_, [], rfl, ⟨none, 0, 0, rfl, by omega, by omega, by simp, .inl rfl⟩, rfl⟩
      · have hlen : len ≤ m := by rw [hmm]; split <;> omega
        have hwt : m * P.bytesOf e ≤ reachBytes := by
          refine hw _ ?_
          simp only [DataW.weights, hu, List.length_map, List.length_range]
          rw [show len + (m - len) = m by omega]
          exact List.mem_cons_self ..
        have h8 : len * P.bytesOf e ≤ 140737488351232 := Nat.le_trans (Nat.mul_le_mul_right _ hlen) hwt
        refine ⟨_, [], rfl, ⟨some a, len, cap, rfl, hle, by simpa [maxLen] using hm, by omega, ?_⟩, rfl⟩
        by_cases h0 : len = 0
        · exact .inl h0
        · right
          have elem : ∀ i, i < len → ∃ cs', w.cells? base (a.add (i * P.cellsOf e)) (P.cellsOf e) = some cs' ∧ Oks w l cs' := fun i hi => by
            obtain ⟨cs', h1, h2⟩ := hx i (by omega)
            refine ⟨cs', h1, flat_open f hl h2 fun k hk => hw k ?_⟩
            simp only [DataW.weights, hu, List.mem_cons, List.mem_append]
            exact .inr (.inl (mem_all (List.mem_map.2 ⟨i, List.mem_range.2 hi, rfl⟩) hk))
          obtain ⟨bl, off, spot⟩ := a
          obtain ⟨cs0, e0, o0⟩ := elem 0 (by omega)
          obtain ⟨_, l0, c0⟩ := World.cells?_some e0
          have l0' := o0.len
          have c00 := c0 0 (by omega)
          rw [List.getElem?_eq_getElem (by omega)] at c00
          have hspot : spot = none := by
            have := World.cell?_spot c00
            simpa [Addr.add] using this
          subst hspot
          refine ⟨bl, off, rfl, ?_, fun i hi => ?_⟩
          · apply Nat.lt_of_not_le
            intro hge
            simp [World.cell?, Addr.add, Array.getElem?_eq_none hge] at c00
          · obtain ⟨cs', e1, o1⟩ := elem i hi
            obtain ⟨_, l1, c1⟩ := World.cells?_some e1
            refine ⟨cs', o1, fun j v hj => ?_⟩
            have hjl : j < P.cellsOf e := by
              rw [← l1]
              exact (List.getElem?_eq_some_iff.1 hj).1
            have := c1 j hjl
            rw [hj, add_plain, add_plain, hc] at this
            exact this
    case h_5 fs hu =>
      split at h
      case h_2 => cases h
      rename_i l hl
      split at h
      case isFalse => cases h
      rename_i hc
      injection h with h; subst h
      obtain ⟨xs, n', rfl, rfl, hlen, hxs, hel⟩ := DataW.trod_struct hu ht
      have := flat_fields (cs := cs) (n := n') (fun h1 h2 h3 => flat_open f h1 h2 h3) fs.toList 0 hl (fun i g hg => by
        have hg' : fs[i]? = some g := by simpa using hg
        have hi : i < xs.length := by
          rw [hxs]
          exact (Array.getElem?_eq_some_iff.1 hg').1
        refine ⟨xs[i], by rw [hel i g hg', List.getElem?_eq_getElem hi], fun m hm => hw m ?_⟩
        simp only [DataW.weights, hu]
        exact mem_each (j := i) (by simp [hg']) (by simp [hi]) hm)
      rw [List.drop_zero, List.take_of_length_le (by omega)] at this
      exact this
    case h_6 k e hu =>
      split at h
      case h_2 => cases h
      rename_i l hl
      split at h
      case isFalse => cases h
      rename_i hc
      obtain ⟨hc, hc2⟩ := hc
      injection h with h; subst h
      obtain ⟨xs, n', rfl, rfl, hlen, hxs, hel⟩ := DataW.trod_array hu ht
      have := flat_rep (w := w) (ks := l) (cs := cs) k (fun i hi => by
        have hi' : i < xs.length := by omega
        have h1 := hel i hi
        rw [List.getElem?_eq_getElem hi', hc] at h1
        refine flat_open f hl h1 fun m hm => hw m ?_
        simp only [DataW.weights, hu]
        exact mem_all (List.mem_map.2 ⟨_, List.getElem_mem hi', rfl⟩) hm)
      rw [List.take_of_length_le (by omega)] at this
      exact this
    case h_7 => cases h
end
end Go.Proofs.Ytcchahgfjnphgaa
