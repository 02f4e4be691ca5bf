/-
  Running a program by reckoning, 4: parts of values, slices, what is built, reckoning with numbers, texts and floats.
  Nothing here speaks of the program.
-/
import Derived.Test.YtihlhmphgjlngaaE3
namespace Go.Proofs.Ytihlhmphgjlngaa
open Go.RowKit

section
variable {E : Env} {r : Ren}
/-- A part of a row of cells. -/
def xpart (E : Env) (t : TypeId) (cs : Array Value) (off : Nat) : Sem Value :=
  match E.ty.get t with
  | some i => match isA i.under with
    | true => .pure (.agg ⟨(cs.toList.drop off).take i.size⟩)
    | false => match nthL cs.toList off with
      | some v => .pure v
      | none => no
  | none => no
theorem extract_list (cs : Array Value) (a n : Nat) : (⟨(cs.toList.drop a).take n⟩ : Array Value) = cs.extract a (a + n) := by
  apply Array.ext'
  simp [Array.toList_extract, List.extract_eq_take_drop]
theorem xpart_R (ok : E.Ok) (t : TypeId) {cs cs' : Array Value} (h : VRs r cs cs') (off : Nat) : SemR E.P VR r (xpart E t cs off) (part t cs' off) := by
  unfold xpart
  split
  · rename_i i hi
    unfold part
    refine semIsAgg ok hi ?_
    cases isA i.under with
    | true =>
      simp only [if_true]
      refine semSize ok hi ?_
      rw [extract_list]
      have := h.cut off (off + i.size)
      exact .pure (.agg this.1 this.2)
    | false =>
      simp only [Bool.false_eq_true, if_false]
      rw [nthL_eq]
      cases hv : cs.toList[off]? with
      | none => exact .halt
      | some v =>
        obtain ⟨v', h1, h2⟩ := h.at (i := off) (v := v) (by simpa using hv)
        simp only [h1]
        exact .pure h2
  · exact .halt
def xfield (E : Env) (t : TypeId) (x : Value) (f : Nat) : Sem Value :=
  match x, E.ty.get t with
  | .agg cs, some i => match i.under with
    | .struct fields => match nthL fields.toList f with
      | some fd => xpart E fd.type cs fd.offset
      | none => no
    | _ => no
  | _, _ => no
theorem xfield_R (ok : E.Ok) (t : TypeId) {x x' : Value} (hx : VR r x x') (f : Nat) : SemR E.P VR r (xfield E t x f) (Instr.field t x' f) := by
  unfold xfield
  split
  · rename_i cs i hi
    cases hx with
    | @agg _ cs' h1 h2 =>
      split
      · rename_i fields hu
        split
        · rename_i fd hf
          unfold Instr.field
          refine semUnd ok hi ?_
          rw [nthL_eq] at hf
          have hf' : fields[f]? = some fd := by simpa using hf
          simp only [hu, hf']
          exact xpart_R ok fd.type ⟨h1, h2⟩ fd.offset
        · exact .halt
      · exact .halt
  · exact .halt
def xindex (E : Env) (t : TypeId) (x ix : Value) : Sem Value :=
  match nat? ix, E.ty.get t with
  | some n, some i => match i.under, x with
    | .array len elem, .agg cs => match Nat.ble (n + 1) len, E.ty.get elem with
      | true, some j => xpart E elem cs (n * j.size)
      | _, _ => no
    | .string, .string s => match nthL s.data.toList n with
      | some b => .pure (.int .u8 b.toNat)
      | none => no
    | _, _ => no
  | _, _ => no
theorem xindex_R (ok : E.Ok) (t : TypeId) {x x' ix ix' : Value} (hx : VR r x x') (hi : VR r ix ix') : SemR E.P VR r (xindex E t x ix) (Instr.index t x' ix') := by
  unfold xindex
  split
  · rename_i n i hn ht
    obtain ⟨k, rfl, rfl⟩ := nat_R hi hn
    split
    · rename_i len elem cs hu
      split
      · rename_i j hlt hj
        cases hx with
        | @agg _ cs' h1 h2 =>
          unfold Instr.index
          show SemR E.P VR r _ (underlying t >>= _)
          refine semUnd ok ht ?_
          rw [hu]
          have h3 : n < len := Nat.le_of_ble_eq_true hlt
          simp only
          rw [if_pos ⟨Int.natCast_nonneg n, by omega⟩]
          refine semSize ok hj ?_
          exact xpart_R ok elem ⟨h1, h2⟩ _
      · exact .halt
    · rename_i s hu
      cases hx
      split
      · rename_i b hb
        unfold Instr.index
        show SemR E.P VR r _ (underlying t >>= _)
        refine semUnd ok ht ?_
        rw [hu]
        rw [nthL_eq] at hb
        have hb' : s[(n : Int).toNat]? = some b := by
          have h3 : s.data[n]? = some b := by simpa using hb
          have h4 : n < s.data.size := get_lt h3
          rw [Int.toNat_natCast]
          show s[n]? = some b
          rw [getElem?_pos s n h4]
          rw [Array.getElem?_eq_getElem h4] at h3
          exact h3
        simp only [Int.natCast_nonneg, if_true, hb']
        exact .pure (.int _ _)
      · exact .halt
    · exact .halt
  · exact .halt
def xextract (x : Value) (n : Nat) : Sem Value :=
  match x with
  | .tuple vs => match nthL vs.toList n with
    | some v => .pure v
    | none => no
  | _ => no
theorem xextract_R {P : Program} {x x' : Value} (hx : VR r x x') (n : Nat) : SemR P VR r (xextract x n) (Instr.extract x' n) := by
  unfold xextract
  split
  · rename_i vs
    cases hx with
    | @tuple _ vs' h1 h2 =>
      rw [nthL_eq]
      split
      · rename_i v hv
        obtain ⟨v', h3, h4⟩ := VRs.at ⟨h1, h2⟩ (i := n) (v := v) (by simpa using hv)
        unfold Instr.extract
        simp only [h3]
        exact .pure h4
      · exact .halt
  · exact .halt

/-- A bound that is told, or not. -/
def OVR (r : Ren) : Option Value → Option Value → Prop
  | none, none => True
  | some v, some v' => VR r v v'
  | _, _ => False
def bnd (v : Option Value) (d : Nat) : Option Nat :=
  match v with
  | none => some d
  | some v => nat? v
theorem bnd_R {lo lo' : Option Value} {d l : Nat} (h : OVR r lo lo') (hl : bnd lo d = some l) : (lo = none ∧ lo' = none ∧ l = d) ∨ ∃ k, lo.isSome = true ∧ lo' = some (.int k (l : Int)) := by
  cases lo with
  | none =>
    cases lo' with
    | none => injection hl with hl; exact .inl ⟨rfl, rfl, hl.symm⟩
    | some v' => exact h.elim
  | some v =>
    cases lo' with
    | none => exact h.elim
    | some v' =>
      obtain ⟨k, rfl, _⟩ := nat_R h hl
      exact .inr ⟨k, rfl, rfl⟩
theorem sliceBound_eq (k : IntKind) (n y : Nat) (c : BoundsCode) (h : n ≤ y) : Instr.sliceBound (.int k (n : Int)) y c = pure n := by
  unfold Instr.sliceBound asIntOf
  simp only [pure_bind]
  rw [if_pos ⟨Int.natCast_nonneg n, by omega⟩, Int.toNat_natCast]
theorem bounds_eq (b : Bool) {len c l h : Nat} {lo lo' hi hi' : Option Value} (hl : OVR r lo lo') (hh : OVR r hi hi') (el : bnd lo 0 = some l) (eh : bnd hi len = some h) (h1 : l ≤ h) (h2 : h ≤ c) :
    Instr.sliceBounds b len c lo' hi' none = pure (l, h, c) := by
  unfold Instr.sliceBounds
  rcases bnd_R hl el with ⟨rfl, rfl, rfl⟩ | ⟨k, _, rfl⟩
  · rcases bnd_R hh eh with ⟨rfl, rfl, rfl⟩ | ⟨k2, _, rfl⟩
    · simp
    · simp [sliceBound_eq _ _ _ _ h2]
  · rcases bnd_R hh eh with ⟨rfl, rfl, rfl⟩ | ⟨k2, _, rfl⟩
    · simp [sliceBound_eq _ _ _ _ h1]
    · simp [sliceBound_eq _ _ _ _ h1, sliceBound_eq _ _ _ _ h2]
theorem bounds3_eq (b : Bool) {len c l h m : Nat} {lo lo' hi hi' mx mx' : Option Value} (hl : OVR r lo lo') (hh : OVR r hi hi') (hm : OVR r mx mx') (el : bnd lo 0 = some l) (eh : bnd hi len = some h) (em : bnd mx c = some m) (shi : hi.isSome = true) (h1 : l ≤ h) (h2 : h ≤ m) (h3 : m ≤ c) :
    Instr.sliceBounds b len c lo' hi' mx' = pure (l, h, m) := by
  rcases bnd_R hm em with ⟨rfl, rfl, rfl⟩ | ⟨k3, _, rfl⟩
  · exact bounds_eq b hl hh el eh h1 h2
  · unfold Instr.sliceBounds
    rcases bnd_R hh eh with ⟨rfl, _, _⟩ | ⟨k2, _, rfl⟩
    · cases shi
    · rcases bnd_R hl el with ⟨rfl, rfl, rfl⟩ | ⟨k, _, rfl⟩
      · simp [sliceBound_eq _ _ _ _ h2, sliceBound_eq _ _ _ _ h3]
      · simp [sliceBound_eq _ _ _ _ h1, sliceBound_eq _ _ _ _ h2, sliceBound_eq _ _ _ _ h3]
/-- A place n behind a. -/
def adrAt (a : Option Addr) (m l n : Nat) : Option Addr := cond (Nat.beq m l) a (match a with | some a => some (a.add n) | none => none)
def xslice (E : Env) (t : TypeId) (x : Value) (lo hi mx : Option Value) : Sem Value :=
  match E.ty.get t with
  | none => no
  | some i => match i.under, x with
    | .string, .string s => match mx, bnd lo 0, bnd hi s.data.toList.length with
      | none, some l, some h => match Nat.ble l h, Nat.ble h s.data.toList.length with
        | true, true => .pure (.string ⟨⟨(s.data.toList.drop l).take (h - l)⟩⟩)
        | _, _ => no
      | _, _, _ => no
    | .slice elem, .slice a len c => match bnd lo 0, bnd hi len, bnd mx c, E.ty.get elem with
      | some l, some h, some m, some j => match Nat.ble l h, Nat.ble h m, Nat.ble m c with
        | true, true, true =>
          match a, mx.isSome, Nat.beq m l && !Nat.beq l 0 with
          | none, false, _ => .pure (.slice none (h - l) (m - l))
          | some a, false, false => .pure (.slice (adrAt (some a) m l (l * j.size)) (h - l) (m - l))
          | some _, false, true => .pure (.chan none)
          | some a, _, _ => match hi.isSome || !mx.isSome with
            | true => .shape a.block fun t => match t with
              | some _ => .pure (.slice (adrAt (some a) m l (l * j.size)) (h - l) (m - l))
              | none => no
            | false => no
          | _, _, _ => no
        | _, _, _ => no
      | _, _, _, _ => no
    | .array n elem, .pointer (some a) => match mx, bnd lo 0, bnd hi n, E.ty.get elem with
      | none, some l, some h, some j => match Nat.ble l h, Nat.ble h n with
        | true, true => .shape a.block fun t => match t with
          | some _ => .pure (.slice (adrAt (some a) n l (l * j.size)) (h - l) (n - l))
          | none => no
        | _, _ => no
      | _, _, _, _ => no
    | _, _ => no
theorem adrAt_R {a a' : Addr} (h : AR r a a') (m l n : Nat) : ∃ b b', adrAt (some a) m l n = some b ∧ (if m = l then some a' else some (a'.add n)) = some b' ∧ AR r b b' := by
  unfold adrAt
  rw [beq_dec]
  by_cases e : m = l
  · simp [e, h]
  · simp [e, h.add n]
theorem sub_add_right {m l x : Nat} (h : l ≤ m) : m + x - l = m - l + x := by omega
theorem AR.slice {a a' : Addr} {n c c' x : Nat} (h : AR r a a') (hx : ∀ b' y, r a.block = some (b', y) → y = x) (hc : c' = c + x) : VR r (.slice (some a) n c) (.slice (some a') n c') := by
  obtain ⟨b', y, h1, rfl⟩ := h
  obtain ⟨ab, ao, asp⟩ := a
  have := hx b' y h1
  subst this hc
  exact .slice h1
theorem xslice_R (ok : E.Ok) (t : TypeId) {x x' : Value} (hx : VR r x x') {lo lo' hi hi' mx mx' : Option Value} (hl : OVR r lo lo') (hh : OVR r hi hi') (hm : OVR r mx mx') : SemR E.P VR r (xslice E t x lo hi mx) (Instr.sliceAt t x' lo' hi' mx') := by
  unfold xslice
  split
  · exact .halt
  · rename_i i hit
    split
    · rename_i s hu
      cases hx
      split
      · rename_i l h el eh
        split
        · rename_i h1 h2
          have hmx : mx' = none := by
            cases mx' with
            | none => rfl
            | some v => exact hm.elim
          subst hmx
          unfold Instr.sliceAt
          refine semUnd ok hit ?_
          rw [hu]
          show SemR E.P VR r _ (Instr.slice t (.string s) lo' _ none)
          unfold Instr.slice
          refine semUnd ok hit ?_
          rw [hu]
          have h3 := Nat.le_of_ble_eq_true h1
          have h4 := Nat.le_of_ble_eq_true h2
          have e := bounds_eq (r := r) false (c := s.size) hl hh el (by simpa using eh) h3 (by simpa using h4)
          simp only [Option.isSome_none, Bool.false_eq_true, if_false, pure_bind, e]
          have : s.extract l h = ⟨⟨(s.data.toList.drop l).take (h - l)⟩⟩ := by
            apply ByteArray.ext
            rw [ByteArray.data_extract]
            apply Array.ext'
            simp [Array.toList_extract, List.extract_eq_take_drop]
          rw [this]
          exact .pure (.string _)
        · exact .halt
      · exact .halt
    · rename_i elem a len c hu
      split
      · rename_i l h m j el eh em hj
        split
        · rename_i h1 h2 h3
          have h1 := Nat.le_of_ble_eq_true h1
          have h2 := Nat.le_of_ble_eq_true h2
          have h3 := Nat.le_of_ble_eq_true h3
          split
          · rename_i hmx
            cases hx
            have hmx' : mx = none := by simpa using hmx
            subst hmx'
            have hmx2 : mx' = none := by
              cases mx' with
              | none => rfl
              | some v => exact hm.elim
            subst hmx2
            injection em with em
            subst em
            unfold Instr.sliceAt
            refine semUnd ok hit ?_
            rw [hu]
            show SemR E.P VR r _ (Instr.slice t _ lo' _ none)
            unfold Instr.slice
            refine semUnd ok hit ?_
            rw [hu]
            simp only [bounds_eq (r := r) true (c := c) hl hh el eh h1 h2, pure_bind]
            refine semSize ok hj ?_
            by_cases e : c = l
            · simp only [e, if_true]
              exact .pure (.snil _ _)
            · simp only [e, if_false]
              exact .pure (.snil _ _)
          · rename_i ad hmx hz
            have hmx' : mx = none := by simpa using hmx
            subst hmx'
            have hmx2 : mx' = none := by
              cases mx' with
              | none => rfl
              | some v => exact hm.elim
            subst hmx2
            injection em with em
            subst em
            cases hx with
            | @slice b o b' z _ _ sp hb =>
              unfold Instr.sliceAt
              refine semUnd ok hit ?_
              rw [hu]
              show SemR E.P VR r _ (Instr.slice t _ lo' _ none)
              unfold Instr.slice
              refine semUnd ok hit ?_
              rw [hu]
              simp only [bounds_eq (r := r) true (c := c + z) hl hh el eh h1 (by omega), pure_bind]
              refine semSize ok hj ?_
              rw [sub_add_right (by omega)]
              have hA : AR r ⟨b, o, sp⟩ ⟨b', o, sp⟩ := ⟨b', z, hb, rfl⟩
              have uniq : ∀ {q : Addr}, q.block = b → ∀ c1 y, r q.block = some (c1, y) → y = z := fun hq c1 y hy => by
                rw [hq, hb] at hy
                injection hy with hy
                injection hy with _ hy
                exact hy.symm
              have blk : ∀ n, (Addr.add ⟨b, o, sp⟩ n).block = b := fun n => by
                unfold Addr.add
                split <;> rfl
              unfold adrAt
              rw [beq_dec]
              by_cases e : c = l
              · subst e
                have h0 : c = 0 := by
                  simp only [beq_dec, decide_true, Bool.true_and, Bool.not_eq_false', decide_eq_true_eq] at hz
                  exact hz
                subst h0
                simp only [decide_true, cond_true, Nat.zero_mul, Option.map_some]
                have : (if 0 + z = 0 then some (⟨b', o, sp⟩ : Addr) else some (Addr.add ⟨b', o, sp⟩ 0)) = some ⟨b', o, sp⟩ := by
                  split <;> rfl
                rw [this]
                exact .pure (AR.slice hA (uniq rfl) rfl)
              · simp only [e, decide_false, cond_false, Option.map_some]
                rw [if_neg (by omega)]
                exact .pure (AR.slice (hA.add _) (uniq (blk _)) rfl)
          · rename_i ad hmx hz
            have hmx' : mx = none := by simpa using hmx
            subst hmx'
            have hmx2 : mx' = none := by
              cases mx' with
              | none => rfl
              | some v => exact hm.elim
            subst hmx2
            injection em with em
            subst em
            cases hx with
            | @slice b o b' z _ _ sp hb =>
              unfold Instr.sliceAt
              refine semUnd ok hit ?_
              rw [hu]
              show SemR E.P VR r _ (Instr.slice t _ lo' _ none)
              unfold Instr.slice
              refine semUnd ok hit ?_
              rw [hu]
              simp only [bounds_eq (r := r) true (c := c + z) hl hh el eh h1 (by omega), pure_bind]
              refine semSize ok hj ?_
              have e : c = l := by
                simp only [beq_dec, Bool.and_eq_true, decide_eq_true_eq] at hz
                exact hz.1
              rw [show h - l = 0 by omega]
              exact .pure (.sgone _ _)
          · rename_i ad hx1 hx2 hx3 hsome
            split
            · rename_i hhi
              cases hx with
              | @slice b o b' z _ _ sp hb =>
                refine .shapeL hb fun tt htt => ?_
                split
                · have hz0 := htt rfl
                  subst hz0
                  unfold Instr.sliceAt
                  refine semUnd ok hit ?_
                  rw [hu]
                  show SemR E.P VR r _ (Instr.slice t _ lo' _ mx')
                  unfold Instr.slice
                  refine semUnd ok hit ?_
                  rw [hu]
                  have e3 : Instr.sliceBounds true len (c + 0) lo' hi' mx' = pure (l, h, m) := by
                    cases hms : mx.isSome with
                    | true =>
                      rw [hms] at hhi
                      exact bounds3_eq true hl hh hm el eh em (by simpa using hhi) h1 h2 h3
                    | false =>
                      have hmx' : mx = none := by simpa using hms
                      subst hmx'
                      have hmx2 : mx' = none := by
                        cases mx' with
                        | none => rfl
                        | some v => exact hm.elim
                      subst hmx2
                      injection em with em
                      subst em
                      exact bounds_eq (r := r) true hl hh el eh h1 h2
                  simp only [e3, pure_bind]
                  refine semSize ok hj ?_
                  have hA : AR r ⟨b, o, sp⟩ ⟨b', o, sp⟩ := ⟨b', 0, hb, rfl⟩
                  obtain ⟨q, q', hq1, hq2, hq3⟩ := adrAt_R hA m l (l * j.size)
                  rw [hq1]
                  simp only [Option.map_some, hq2]
                  have hqb : q.block = b := by
                    unfold adrAt at hq1
                    cases hbb : Nat.beq m l with
                    | true => rw [hbb] at hq1; injection hq1 with hq1; rw [← hq1]
                    | false =>
                      rw [hbb] at hq1
                      injection hq1 with hq1
                      rw [← hq1]
                      unfold Addr.add
                      split <;> rfl
                  exact .pure (AR.slice hq3 (fun c1 y hy => by
                    rw [hqb, hb] at hy
                    injection hy with hy
                    injection hy with _ hy
                    exact hy.symm) rfl)
                · exact .halt
            · exact .halt
          · exact .halt
        · exact .halt
      · exact .halt
    · rename_i n elem ad hu
      split
      · rename_i l h j el eh hj
        split
        · rename_i h1 h2
          have h1 := Nat.le_of_ble_eq_true h1
          have h2 := Nat.le_of_ble_eq_true h2
          have hmx : mx' = none := by
            cases mx' with
            | none => rfl
            | some v => exact hm.elim
          subst hmx
          cases hx with
          | @ptr b o b' z sp hb =>
            refine .shapeL hb fun tt htt => ?_
            split
            · have hz0 := htt rfl
              subst hz0
              unfold Instr.sliceAt
              refine semUnd ok hit ?_
              rw [hu]
              show SemR E.P VR r _ (Instr.sliceBounds false n n lo' _ none >>= _)
              simp only [bounds_eq (r := r) false (c := n) hl hh el eh h1 h2, pure_bind]
              refine semSize ok hj ?_
              have hA : AR r ⟨b, o, sp⟩ ⟨b', o, sp⟩ := ⟨b', 0, hb, rfl⟩
              obtain ⟨q, q', hq1, hq2, hq3⟩ := adrAt_R hA n l (l * j.size)
              rw [hq1]
              have hq2' : some (if n = l then (⟨b', o, sp⟩ : Addr) else Addr.add ⟨b', o, sp⟩ (l * j.size)) = some q' := by
                rw [← hq2]
                split <;> rfl
              rw [hq2']
              have hqb : q.block = b := by
                unfold adrAt at hq1
                cases hbb : Nat.beq n l with
                | true => rw [hbb] at hq1; injection hq1 with hq1; rw [← hq1]
                | false =>
                  rw [hbb] at hq1
                  injection hq1 with hq1
                  rw [← hq1]
                  unfold Addr.add
                  split <;> rfl
              exact .pure (AR.slice hq3 (fun c1 y hy => by
                rw [hqb, hb] at hy
                injection hy with hy
                injection hy with _ hy
                exact hy.symm) rfl)
            · exact .halt
        · exact .halt
      · exact .halt
    · exact .halt
end
end Go.Proofs.Ytihlhmphgjlngaa
