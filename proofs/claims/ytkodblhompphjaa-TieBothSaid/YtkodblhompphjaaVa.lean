/- Arguments made of ints, truth values, texts, structs and arrays of such, and slices of such: what they are in memory. Nothing here speaks of a program in particular. Own base: a block known whole (Bk), which blocks may have turned (Only), a slice that reads as a list (Rd).
  Nothing here speaks of the program. Lists of small structs in memory: a slice that reads as a list, a row of the call's own; append, cuts. Nothing here speaks of a program in particular. A row's arguments, of whatever such type: what a walk is told of them. Nothing here speaks of a program in particular. Pids and ties: lists of them in memory. -/
import Derived.ProofKit
import Derived.OpenShut
import Derived.Deep.Slices
import Derived.ChangeOld
import Derived.Test.YtkodblhompphjaaRows
import Derived.WalkKit
import Derived.WalkSpells
import Derived.WalkLawsBesides
import Derived.Deep.QuietTactic
import Derived.BigQuiet
import Derived.StillTailTactics
import Derived.Deep.RegionHeld3
import Derived.Deep.DeepCutAuto
import Derived.Lib.Hide
import Derived.IntWalk
import Derived.Deep.OwnRows
import Derived.KernelRfl
import Derived.Maps.AppendAt
import Derived.Deep.AppendLies
import Derived.Deep.RegionLaw
import Derived.Deep.RegionHeldLaw
import Derived.ShutString
import Derived.SizedLaws
namespace Go.Proofs.Ytkodblhompphjaa
open Go.ChangeShapes Go.WideShapes Go.RowKit Go.Deep
set_option maxRecDepth 20000

/-- What a cell holds: a whole number, a truth value, a text, a slice of things of such cells (and of so many bytes each). -/
inductive Kd where
  | i | b | s
  | l (ks : List Kd) (bs : Nat)

mutual
def Kd.ok (w : World) : Kd → Value → Prop
  | .i, v => ∃ n, v = .int .i64 n ∧ -9223372036854775808 ≤ n ∧ n ≤ 9223372036854775807
  | .b, v => ∃ x, v = .bool x
  | .s, v => ∃ t : ByteArray, v = .string t ∧ t.size ≤ 140737488351232
  | .l ks bs, v => ∃ A len cap, v = .slice A len cap ∧ len ≤ cap ∧ cap ≤ 9223372036854775807 ∧ len * bs + 4096 ≤ 140737488355328 ∧
      (len = 0 ∨ ∃ bl off, A = some ⟨bl, off, none⟩ ∧ bl < w.heap.size ∧ ∀ i, i < len → ∃ cs, Oks w ks cs ∧ ∀ j v, cs[j]? = some v → w.cell? ⟨bl, off + i * ks.length + j, none⟩ = some v)
def Oks (w : World) : List Kd → List Value → Prop
  | [], cs => cs = []
  | k :: ks, cs => ∃ v r, cs = v :: r ∧ Kd.ok w k v ∧ Oks w ks r
end

theorem Oks.append {w : World} : ∀ {ks ls : List Kd} {cs ds : List Value}, Oks w ks cs → Oks w ls ds → Oks w (ks ++ ls) (cs ++ ds)
  | [], _, cs, _, h, g => by
    simp only [Oks] at h
    subst h
    exact g
  | k :: ks, _, cs, _, h, g => by
    simp only [Oks] at h
    obtain ⟨v, r, rfl, h1, h2⟩ := h
    simp only [List.cons_append, Oks]
    exact ⟨v, r ++ _, rfl, h1, Oks.append h2 g⟩
theorem Oks.len {w : World} : ∀ {ks : List Kd} {cs : List Value}, Oks w ks cs → cs.length = ks.length
  | [], cs, h => by
    simp only [Oks] at h
    subst h
    rfl
  | k :: ks, cs, h => by
    simp only [Oks] at h
    obtain ⟨v, r, rfl, h1, h2⟩ := h
    rw [List.length_cons, List.length_cons, Oks.len h2]

/-- The cells of a struct's fields, from an offset on. -/
def flatFs (P : Program) (g : TypeId → Option (List Kd)) : Nat → List Field → Option (List Kd)
  | _, [] => some []
  | off, x :: r => match g x.type with
    | some ks => match flatFs P g (off + ks.length) r with
      | some ls => if x.offset = off ∧ P.cellsOf x.type = ks.length then some (ks ++ ls) else none
      | none => none
    | none => none
/-- The cells of a type, if it is made of these. -/
def flat (P : Program) : Nat → TypeId → Option (List Kd)
  | 0, _ => none
  | f + 1, t => match P.underlying t with
    | some .bool => some [.b]
    | some (.int .i64) => some [.i]
    | some .string => some [.s]
    | some (.slice e) => match flat P f e with
      | some ks => if P.cellsOf e = ks.length ∧ 0 < ks.length then some [.l ks (P.bytesOf e)] else none
      | none => none
    | some (.struct fs) => match flatFs P (flat P f) 0 fs.toList with
      | some ks => if P.cellsOf t = ks.length then some ks else none
      | none => none
    | some (.array n e) => match flat P f e with
      | some ks => if P.cellsOf e = ks.length ∧ P.cellsOf t = n * ks.length then some (List.replicate n ks).flatten else none
      | none => none
    | _ => none

theorem bounds64 {n : Int} (h : (Lit.int .i64 n).wf = true) : -9223372036854775808 ≤ n ∧ n ≤ 9223372036854775807 := by
  simp [Lit.wf, IntKind.min, IntKind.max, IntKind.signed, IntKind.bits] at h
  omega
theorem mem_all {H : Type} {P : Program} {e : TypeId} {n : Nat} : ∀ {l : List (DataW H)} {d : DataW H}, d ∈ l → n ∈ d.weights P e → n ∈ DataW.weightsAll P e l
  | [], _, h, _ => by cases h
  | d0 :: r, d, h, hn => by
    simp only [DataW.weightsAll, List.mem_append]
    rcases List.mem_cons.1 h with rfl | h
    · exact .inl hn
    · exact .inr (mem_all h hn)
theorem mem_each {H : Type} {P : Program} {n : Nat} : ∀ {ts : List TypeId} {l : List (DataW H)} {j : Nat} {t : TypeId} {d : DataW H}, ts[j]? = some t → l[j]? = some d → n ∈ d.weights P t → n ∈ DataW.weightsEach P ts l
  | [], _, _, _, _, h, _, _ => by simp at h
  | _ :: _, [], _, _, _, _, h, _ => by simp at h
  | _ :: _, _ :: _, 0, _, _, h1, h2, hn => by
    simp at h1 h2
    subst h1 h2
    simp only [DataW.weightsEach, List.mem_append]
    exact .inl hn
  | _ :: _, _ :: _, j + 1, _, _, h1, h2, hn => by
    simp only [DataW.weightsEach, List.mem_append]
    exact .inr (mem_each (j := j) (by simpa using h1) (by simpa using h2) hn)

section
variable {H : Type} {enc : TypeId × Value → H} {P : Program} {w : World} {base : Nat} {sp : Nat → Bool} {hd : Bool}
theorem flat_fields {n : Nat} {g : TypeId → Option (List Kd)} {cs : List Value}
    (ih : ∀ {t : TypeId} {ks : List Kd} {cs : List Value} {y : DataW H × List MemPlace}, g t = some ks → DataW.trod enc P w base sp hd n t cs = some y → (∀ m ∈ y.1.weights P t, m ≤ reachBytes) → Oks w ks cs) :
    ∀ (fs : List Field) (off : Nat) {ks : List Kd}, flatFs P g off fs = some ks →
      (∀ (i : Nat) (f : Field), fs[i]? = some f → ∃ y, DataW.trod enc P w base sp hd n f.type ((cs.drop f.offset).take (P.cellsOf f.type)) = some y ∧ ∀ m ∈ y.1.weights P f.type, m ≤ reachBytes) → Oks w ks ((cs.drop off).take ks.length)
  | [], off, ks, h, _ => by
    simp only [flatFs, Option.some.injEq] at h
    subst h
    simp [Oks]
  | x :: r, off, ks, h, hf => by
    simp only [flatFs] at h
    split at h
    case h_2 => cases h
    rename_i l hl
    split at h
    case h_2 => cases h
    rename_i ls hls
    split at h
    case isFalse => cases h
    case isTrue hc =>
    obtain ⟨rfl, hc⟩ := hc
    simp only [Option.some.injEq] at h
    subst h
    obtain ⟨y, hy, hw⟩ := hf 0 x rfl
    rw [hc] at hy
    have h1 := ih hl hy hw
    have h2 := flat_fields ih r (x.offset + l.length) hls (fun i f hi => hf (i + 1) f (by simpa using hi))
    rw [List.length_append, List.take_add, List.drop_drop]
    exact h1.append h2
theorem flat_rep {ks : List Kd} {cs : List Value} : ∀ (n : Nat), (∀ i, i < n → Oks w ks ((cs.drop (i * ks.length)).take ks.length)) → Oks w (List.replicate n ks).flatten (cs.take (n * ks.length))
  | 0, _ => by simp [Oks]
  | n + 1, h => by
    rw [List.replicate_succ', List.flatten_append, Nat.succ_mul, List.take_add]
    refine (flat_rep n fun i hi => h i (by omega)).append ?_
    simpa using h n (by omega)
theorem flat_open : ∀ (f : Nat) {n : Nat} {t : TypeId} {ks : List Kd} {cs : List Value} {y : DataW H × List MemPlace}, flat P f t = some ks → DataW.trod enc P w base sp hd n t cs = some y → (∀ m ∈ y.1.weights P t, m ≤ reachBytes) → Oks w ks cs
  | 0, _, _, _, _, _, h, _, _ => by simp [flat] at h
  | f + 1, n, t, ks, cs, y, h, ht, hw => by
    simp only [flat] at h
    split at h
    case h_1 hu =>
      injection h with h; subst h
      obtain ⟨b, rfl, _⟩ := DataW.trod_bool hu ht
      exact ⟨_, [], rfl, ⟨b, rfl⟩, rfl⟩
    case h_2 hu =>
      injection h with h; subst h
      obtain ⟨b, rfl, _, hb⟩ := DataW.trod_int hu ht
      exact ⟨_, [], rfl, ⟨b, rfl, bounds64 hb⟩, rfl⟩
    case h_3 hu =>
      injection h with h; subst h
      obtain ⟨s, rfl, rfl, hb⟩ := DataW.trod_string hu ht
      refine ⟨_, [], rfl, ⟨s, rfl, ?_⟩, rfl⟩
      have := hw s.data.toList.length (by simp [DataW.weights])
      simp only [reachBytes, Array.length_toList] at this
      simp only [ByteArray.size]
      exact this
    case h_4 e hu =>
      split at h
      case h_2 => cases h
      rename_i l hl
      split at h
      case isFalse => cases h
      rename_i hc
      obtain ⟨hc, hpos⟩ := hc
      injection h with h; subst h
      rcases open_slice hu ht with ⟨rfl, _⟩ | ⟨a, len, cap, m, n', D, Pl, rfl, hb, hle, hm, hmm, rfl, hx⟩
      · exact ⟨_, [], rfl, ⟨none, 0, 0, rfl, by omega, by omega, by simp, .inl rfl⟩, rfl⟩
      · have hlen : len ≤ m := by rw [hmm]; split <;> omega
        have hwt : m * P.bytesOf e ≤ reachBytes := by
          refine hw _ ?_
          simp only [DataW.weights, hu, List.length_map, List.length_range]
          rw [show len + (m - len) = m by omega]
          exact List.mem_cons_self ..
        have h8 : len * P.bytesOf e ≤ 140737488351232 := Nat.le_trans (Nat.mul_le_mul_right _ hlen) hwt
        refine ⟨_, [], rfl, ⟨some a, len, cap, rfl, hle, by simpa [maxLen] using hm, by omega, ?_⟩, rfl⟩
        by_cases h0 : len = 0
        · exact .inl h0
        · right
          have elem : ∀ i, i < len → ∃ cs', w.cells? base (a.add (i * P.cellsOf e)) (P.cellsOf e) = some cs' ∧ Oks w l cs' := fun i hi => by
            obtain ⟨cs', h1, h2⟩ := hx i (by omega)
            refine ⟨cs', h1, flat_open f hl h2 fun k hk => hw k ?_⟩
            simp only [DataW.weights, hu, List.mem_cons, List.mem_append]
            exact .inr (.inl (mem_all (List.mem_map.2 ⟨i, List.mem_range.2 hi, rfl⟩) hk))
          obtain ⟨bl, off, spot⟩ := a
          obtain ⟨cs0, e0, o0⟩ := elem 0 (by omega)
          obtain ⟨_, l0, c0⟩ := World.cells?_some e0
          have l0' := o0.len
          have c00 := c0 0 (by omega)
          rw [List.getElem?_eq_getElem (by omega)] at c00
          have hspot : spot = none := by
            have := World.cell?_spot c00
            simpa [Addr.add] using this
          subst hspot
          refine ⟨bl, off, rfl, ?_, fun i hi => ?_⟩
          · apply Nat.lt_of_not_le
            intro hge
            simp [World.cell?, Addr.add, Array.getElem?_eq_none hge] at c00
          · obtain ⟨cs', e1, o1⟩ := elem i hi
            obtain ⟨_, l1, c1⟩ := World.cells?_some e1
            refine ⟨cs', o1, fun j v hj => ?_⟩
            have hjl : j < P.cellsOf e := by
              rw [← l1]
              exact (List.getElem?_eq_some_iff.1 hj).1
            have := c1 j hjl
            rw [hj, add_plain, add_plain, hc] at this
            exact this
    case h_5 fs hu =>
      split at h
      case h_2 => cases h
      rename_i l hl
      split at h
      case isFalse => cases h
      rename_i hc
      injection h with h; subst h
      obtain ⟨xs, n', rfl, rfl, hlen, hxs, hel⟩ := DataW.trod_struct hu ht
      have := flat_fields (cs := cs) (n := n') (fun h1 h2 h3 => flat_open f h1 h2 h3) fs.toList 0 hl (fun i g hg => by
        have hg' : fs[i]? = some g := by simpa using hg
        have hi : i < xs.length := by
          rw [hxs]
          exact (Array.getElem?_eq_some_iff.1 hg').1
        refine ⟨xs[i], by rw [hel i g hg', List.getElem?_eq_getElem hi], fun m hm => hw m ?_⟩
        simp only [DataW.weights, hu]
        exact mem_each (j := i) (by simp [hg']) (by simp [hi]) hm)
      rw [List.drop_zero, List.take_of_length_le (by omega)] at this
      exact this
    case h_6 k e hu =>
      split at h
      case h_2 => cases h
      rename_i l hl
      split at h
      case isFalse => cases h
      rename_i hc
      obtain ⟨hc, hc2⟩ := hc
      injection h with h; subst h
      obtain ⟨xs, n', rfl, rfl, hlen, hxs, hel⟩ := DataW.trod_array hu ht
      have := flat_rep (w := w) (ks := l) (cs := cs) k (fun i hi => by
        have hi' : i < xs.length := by omega
        have h1 := hel i hi
        rw [List.getElem?_eq_getElem hi', hc] at h1
        refine flat_open f hl h1 fun m hm => hw m ?_
        simp only [DataW.weights, hu]
        exact mem_all (List.mem_map.2 ⟨_, List.getElem_mem hi', rfl⟩) hm)
      rw [List.take_of_length_le (by omega)] at this
      exact this
    case h_7 => cases h
end
end Go.Proofs.Ytkodblhompphjaa

namespace Go.Proofs.Ytkodblhompphjaa
open Go.RowKit

/-- Block g of w holds just the cells cs of element type t, none frozen. -/
def Bk (w : World) (g : Nat) (t : TypeId) (cs : Array Value) : Prop := w.heap[g]? = some (.cells cs t (0, 0))

theorem Bk.lt {w : World} {g : Nat} {t : TypeId} {cs : Array Value} (h : Bk w g t cs) : g < w.heap.size := by
  by_cases hg : g < w.heap.size
  · exact hg
  · unfold Bk at h
    rw [Array.getElem?_eq_none (by omega)] at h
    cases h
theorem Bk.cell {w : World} {g : Nat} {t : TypeId} {cs : Array Value} (h : Bk w g t cs) (i : Nat) : w.cell? ⟨g, i, none⟩ = cs[i]? := by
  unfold Bk at h
  simp [World.cell?, h]
theorem Bk.cell0 {w : World} {g : Nat} {t : TypeId} {cs : Array Value} {i : Nat} {v : Value} (h : Bk w g t cs) (hv : cs[i]? = some v) : w.cell? ⟨g, i, none⟩ = some v := (h.cell i).trans hv
theorem Bk.free {w : World} {g : Nat} {t : TypeId} {cs : Array Value} (h : Bk w g t cs) (i : Nat) : w.frozen? ⟨g, i, none⟩ = false := by
  unfold Bk at h
  simp [World.frozen?, h]
theorem Bk.uniq {w : World} {g : Nat} {t t' : TypeId} {cs cs' : Array Value} (h : Bk w g t cs) (h' : Bk w g t' cs') : t = t' ∧ cs = cs' := by
  unfold Bk at h h'
  rw [h] at h'
  injection h' with h'
  injection h' with h1 h2
  exact ⟨h2, h1⟩
theorem Bk.apart {w : World} {g g' : Nat} {t t' : TypeId} {cs cs' : Array Value} (h : Bk w g t cs) (h' : Bk w g' t' cs') (hne : t ≠ t') : g ≠ g' := by
  rintro rfl
  exact hne (h.uniq h').1
theorem Bk.made (w : World) (t : TypeId) (cs : Array Value) : Bk (w.alloc (.cells cs t)) w.heap.size t cs := by
  unfold Bk World.alloc
  simp
theorem Bk.alloc {w : World} {g : Nat} {t : TypeId} {cs : Array Value} (h : Bk w g t cs) (o : Obj) : Bk (w.alloc o) g t cs :=
  (Below.heap_alloc w o g h.lt).trans h
theorem Bk.drew {w : World} {g : Nat} {t : TypeId} {cs : Array Value} (h : Bk w g t cs) : Bk w.drew g t cs := h
theorem Bk.drewN {w : World} {g : Nat} {t : TypeId} {cs : Array Value} (h : Bk w g t cs) (n : Nat) : Bk (w.drewN n) g t cs := h
theorem Bk.set {w : World} {g : Nat} {t : TypeId} {cs : Array Value} (h : Bk w g t cs) (i : Nat) (u : Value) : Bk (w.setCell ⟨g, i, none⟩ u) g t (cs.setIfInBounds i u) := by
  unfold Bk at h ⊢
  simp [World.setCell, Array.getElem?_modify, h]
theorem Bk.away {w : World} {g : Nat} {t : TypeId} {cs : Array Value} (h : Bk w g t cs) {p : Addr} (hp : g ≠ p.block) (u : Value) : Bk (w.setCell p u) g t cs :=
  (Below.heap_setCell w p u g hp).trans h
theorem Bk.same {w w' : World} {g : Nat} {t : TypeId} {cs : Array Value} (h : Bk w g t cs) (e : w'.heap[g]? = w.heap[g]?) : Bk w' g t cs := e.trans h

/-- Of the blocks that were there none has turned but those of S. -/
structure Only (S : List Nat) (w w' : World) : Prop where
  os : w'.os = w.os
  tape : w'.tape = w.tape
  output : w'.output = w.output
  size : w.heap.size ≤ w'.heap.size
  block : ∀ k, k < w.heap.size → k ∉ S → w'.heap[k]? = w.heap[k]?

theorem Only.refl (S : List Nat) (w : World) : Only S w w := ⟨rfl, rfl, rfl, Nat.le_refl _, fun _ _ _ => rfl⟩
theorem Only.more {S T : List Nat} {w w' : World} (h : Only S w w') (hst : ∀ k ∈ S, k ∈ T ∨ w.heap.size ≤ k) : Only T w w' :=
  ⟨h.os, h.tape, h.output, h.size, fun k hk hn => h.block k hk fun hs => by
    rcases hst k hs with h1 | h1
    · exact hn h1
    · omega⟩
theorem Only.trans {S T : List Nat} {a b c : World} (h : Only S a b) (k : Only T b c) (hst : ∀ i ∈ T, i ∈ S ∨ a.heap.size ≤ i) : Only S a c :=
  ⟨k.os.trans h.os, k.tape.trans h.tape, k.output.trans h.output, Nat.le_trans h.size k.size, fun i hi hn =>
    (k.block i (Nat.lt_of_lt_of_le hi h.size) fun ht => by
      rcases hst i ht with h1 | h1
      · exact hn h1
      · omega).trans (h.block i hi hn)⟩
theorem Only.alloc {S : List Nat} {a w : World} (h : Only S a w) (o : Obj) : Only S a (w.alloc o) :=
  ⟨h.os, h.tape, h.output, Nat.le_trans h.size (by simp), fun k hk hn => (Below.heap_alloc w o k (Nat.lt_of_lt_of_le hk h.size)).trans (h.block k hk hn)⟩
theorem Only.drew {S : List Nat} {a w : World} (h : Only S a w) : Only S a w.drew := ⟨h.os, h.tape, h.output, h.size, h.block⟩
theorem Only.drewN {S : List Nat} {a w : World} (h : Only S a w) (n : Nat) : Only S a (w.drewN n) := ⟨h.os, h.tape, h.output, h.size, h.block⟩
theorem Only.undrew {S : List Nat} {a w : World} {n : Nat} (h : Only S (a.drewN n) w) : Only S a w := ⟨h.os, h.tape, h.output, h.size, h.block⟩
theorem Only.set {S : List Nat} {a w : World} (h : Only S a w) {p : Addr} (hp : p.block ∈ S ∨ a.heap.size ≤ p.block) (u : Value) : Only S a (w.setCell p u) :=
  ⟨h.os, h.tape, h.output, by simpa [World.setCell] using h.size, fun k hk hn => (Below.heap_setCell w p u k (by
    rintro rfl
    rcases hp with hp | hp
    · exact hn hp
    · omega)).trans (h.block k hk hn)⟩
theorem Only.of_below {S : List Nat} {w w' : World} (h : Below w.heap.size w w') : Only S w w' := ⟨h.os, h.tape, h.output, h.size, fun k hk _ => h.block k hk⟩
theorem Only.below {w w' : World} (h : Only [] w w') : Below w.heap.size w w' := ⟨h.os, h.tape, h.output, h.size, fun k hk => h.block k hk (by simp)⟩
theorem Only.of_grown {w w' : World} {row : Option Nat} (h : w.grownBy w' row) : Only row.toList w w' :=
  ⟨h.os, h.tape, h.output, h.size, fun k hk hn => h.block k hk (by rintro rfl; simp at hn)⟩
theorem Bk.only {S : List Nat} {w w' : World} {g : Nat} {t : TypeId} {cs : Array Value} (h : Bk w g t cs) (ho : Only S w w') (hg : g ∉ S) : Bk w' g t cs :=
  (ho.block g h.lt hg).trans h
theorem Only.cell {S : List Nat} {w w' : World} (h : Only S w w') {p : Addr} (hp : p.block < w.heap.size) (hn : p.block ∉ S) : w'.cell? p = w.cell? p :=
  World.cell?_of_block (h.block _ hp hn)

theorem wrapEq (x : Int) : IntKind.i64.wrap x = wrap64 x := IntWalk.i64_left x
theorem wrap64_in {x : Int} (h1 : -9223372036854775808 ≤ x) (h2 : x ≤ 9223372036854775807) : wrap64 x = x := IntWalk.wrap64_in x ⟨h1, h2⟩

end Go.Proofs.Ytkodblhompphjaa

namespace Go.Proofs.Ytkodblhompphjaa
open Go.RowKit
set_option maxRecDepth 20000

/-- A kind of things of k cells, and slices of them. -/
structure Sk (α : Type) where
  e : TypeId
  t : TypeId
  k : Nat
  by' : Nat
  i : TypeInfo
  z : Value
  enc : α → List Value
  ht : Try.prog.underlying t = some (.slice e)
  hi : Try.prog.info? e = some i
  hz : i.zero = some z
  hk : i.size = k
  hb : i.bytes = by'
  hzs : z.cells.size = k
  h0 : 0 < k
  hb0 : 0 < by'
  henc : ∀ a, (enc a).length = k
  hone : ∀ a, ∀ u ∈ enc a, u.oneCell' = true

variable {α : Type}

/-- A slice's value at A reads as xs (where it has things at all). -/
def RdS (K : Sk α) (w : World) (A : Option Addr) (xs : List α) : Prop :=
  xs = [] ∨ ∃ bl off, A = some ⟨bl, off, none⟩ ∧ bl < w.heap.size ∧ ∀ i x, xs[i]? = some x → ∀ j v, (K.enc x)[j]? = some v → w.cell? ⟨bl, off + i * K.k + j, none⟩ = some v
/-- v is a row of the call's own (from block base on) that holds xs. -/
def OwnS (K : Sk α) (w : World) (base : Nat) (v : Value) (xs : List α) : Prop := w.ownsRow base K.e K.k v xs.length (xs.flatMap K.enc)

theorem RdS.nil (K : Sk α) (w : World) (A : Option Addr) : RdS K w A [] := .inl rfl
theorem RdS.only {K : Sk α} {w w' : World} {A : Option Addr} {xs : List α} {S : List Nat} (h : RdS K w A xs) (o : Only S w w') (hn : xs ≠ [] → ∀ bl off, A = some ⟨bl, off, none⟩ → bl ∉ S) : RdS K w' A xs := by
  rcases h with rfl | ⟨bl, off, e, hb, hc⟩
  · exact .inl rfl
  · by_cases h0 : xs = []
    · exact .inl h0
    · exact .inr ⟨bl, off, e, Nat.lt_of_lt_of_le hb o.size, fun i x hx j v hv => (o.cell (p := ⟨bl, off + i * K.k + j, none⟩) hb (hn h0 bl off e)).trans (hc i x hx j v hv)⟩
theorem RdS.alloc {K : Sk α} {w : World} {A : Option Addr} {xs : List α} (h : RdS K w A xs) (o : Obj) : RdS K (w.alloc o) A xs := h.only ((Only.refl [] w).alloc o) (by simp)
/-- Where it has things it lies somewhere; each thing's cells. -/
theorem RdS.form {K : Sk α} {w : World} {A : Option Addr} {xs : List α} (h : RdS K w A xs) (h0 : 0 < xs.length) :
    ∃ bl off, A = some ⟨bl, off, none⟩ ∧ bl < w.heap.size ∧ ∀ i x, xs[i]? = some x → ∀ j v, (K.enc x)[j]? = some v → w.cell? ⟨bl, off + i * K.k + j, none⟩ = some v := by
  rcases h with rfl | ⟨bl, off, e, hb, hc⟩
  · simp at h0
  · exact ⟨bl, off, e, hb, hc⟩

theorem flat_len (K : Sk α) (xs : List α) : (xs.flatMap K.enc).length = xs.length * K.k := by
  induction xs with
  | nil => simp
  | cons x r ih => rw [List.flatMap_cons, List.length_append, ih, K.henc, List.length_cons, Nat.succ_mul, Nat.add_comm]
theorem flat_at (K : Sk α) : ∀ {xs : List α} {i : Nat} {x : α} (_ : xs[i]? = some x) {j : Nat} {v : Value} (_ : (K.enc x)[j]? = some v), (xs.flatMap K.enc)[i * K.k + j]? = some v
  | [], i, _, h, _, _, _ => by simp at h
  | y :: r, 0, x, h, j, v, hv => by
    simp only [List.getElem?_cons_zero, Option.some.injEq] at h
    subst h
    have hj := (List.getElem?_eq_some_iff.1 hv).1
    rw [List.flatMap_cons, Nat.zero_mul, Nat.zero_add, List.getElem?_append_left hj]
    exact hv
  | y :: r, i + 1, x, h, j, v, hv => by
    simp only [List.getElem?_cons_succ] at h
    rw [List.flatMap_cons, List.getElem?_append_right (by rw [K.henc, Nat.succ_mul]; omega), K.henc, show (i + 1) * K.k + j - K.k = i * K.k + j by rw [Nat.succ_mul]; omega]
    exact flat_at K h hv
theorem at_flat (K : Sk α) : ∀ {xs : List α} {n : Nat} {v : Value}, (xs.flatMap K.enc)[n]? = some v → ∃ i x j, xs[i]? = some x ∧ (K.enc x)[j]? = some v ∧ n = i * K.k + j
  | [], n, v, h => by simp at h
  | y :: r, n, v, h => by
    rw [List.flatMap_cons] at h
    by_cases hn : n < K.k
    · rw [List.getElem?_append_left (by rw [K.henc]; exact hn)] at h
      exact ⟨0, y, n, rfl, h, by omega⟩
    · rw [List.getElem?_append_right (by rw [K.henc]; omega), K.henc] at h
      obtain ⟨i, x, j, h1, h2, h3⟩ := at_flat K h
      exact ⟨i + 1, x, j, by simpa using h1, h2, by rw [Nat.succ_mul]; omega⟩
/-- All cells of a list that a slice reads as. -/
theorem RdS.cells {K : Sk α} {w : World} {xs : List α} {ad : Addr} (h : RdS K w (some ad) xs) : ∀ n v, (xs.flatMap K.enc)[n]? = some v → w.cell? (ad.add n) = some v := by
  intro n v hn
  rcases h with rfl | ⟨bl, off, e, hb, hc⟩
  · simp at hn
  · injection e with e
    subst e
    obtain ⟨i, x, j, h1, h2, rfl⟩ := at_flat K hn
    rw [Go.WideShapes.add_plain, ← Nat.add_assoc]
    exact hc i x h1 j v h2
theorem RdS.of_cells {K : Sk α} {w : World} {xs : List α} {bl off : Nat} (hb : bl < w.heap.size) (h : ∀ n v, (xs.flatMap K.enc)[n]? = some v → w.cell? ⟨bl, off + n, none⟩ = some v) : RdS K w (some ⟨bl, off, none⟩) xs :=
  .inr ⟨bl, off, rfl, hb, fun i x hx j v hv => by rw [Nat.add_assoc]; exact h _ v (flat_at K hx hv)⟩
theorem RdS.of_bk {K : Sk α} {w : World} {g : Nat} {t : TypeId} {cs : Array Value} {xs : List α} (h : Bk w g t cs) (hc : cs.toList = xs.flatMap K.enc) : RdS K w (some ⟨g, 0, none⟩) xs :=
  RdS.of_cells h.lt fun n v hn => by rw [Nat.zero_add]; exact h.cell0 (by rw [← hc, Array.getElem?_toList] at hn; exact hn)
/-- One thing that lies in a block of its own (the row that append is handed). -/
theorem RdS.one {K : Sk α} {w : World} {g : Nat} {t : TypeId} {cs : Array Value} {x : α} (h : Bk w g t cs) (hc : cs.toList = K.enc x) : RdS K w (some ⟨g, 0, none⟩) [x] := RdS.of_bk h (by simp [hc])

theorem OwnS.nil (K : Sk α) (w : World) (base : Nat) : OwnS K w base (.slice none 0 0) [] := World.ownsRow_nil _ _ _ _
theorem OwnS.alloc {K : Sk α} {w : World} {base : Nat} {v : Value} {xs : List α} (h : OwnS K w base v xs) (o : Obj) : OwnS K (w.alloc o) base v xs := World.ownsRow.alloc h o
theorem OwnS.drewN {K : Sk α} {w : World} {base : Nat} {v : Value} {xs : List α} (h : OwnS K w base v xs) (n : Nat) : OwnS K (w.drewN n) base v xs := h
theorem OwnS.low {K : Sk α} {w : World} {base base' : Nat} {v : Value} {xs : List α} (h : OwnS K w base v xs) (hb : base' ≤ base) : OwnS K w base' v xs := by
  refine ⟨h.1, ?_⟩
  rcases h.2 with h2 | ⟨g, cap, cur, hv, hg, h3⟩
  · exact .inl h2
  · exact .inr ⟨g, cap, cur, hv, by omega, h3⟩
theorem OwnS.only {K : Sk α} {S : List Nat} {w w' : World} {base : Nat} {v : Value} {xs : List α} (h : OwnS K w base v xs) (o : Only S w w') (hS : ∀ g, v.ownBlock = some g → g ∉ S) : OwnS K w' base v xs := by
  refine ⟨h.1, ?_⟩
  rcases h.2 with h2 | ⟨g, cap, cur, hv, hb, hg, h3⟩
  · exact .inl h2
  · have hg' : Bk w g K.e cur := hg
    exact .inr ⟨g, cap, cur, hv, hb, hg'.only o (hS g (by rw [hv]; rfl)), h3⟩
theorem OwnS.block {K : Sk α} {w : World} {base : Nat} {v : Value} {xs : List α} (h : OwnS K w base v xs) {g : Nat} (hg : v.ownBlock = some g) : base ≤ g ∧ g < w.heap.size := by
  rcases h.2 with ⟨hv, _⟩ | ⟨g', cap, cur, hv, hb, hg', _⟩
  · rw [hv] at hg; cases hg
  · rw [hv] at hg
    injection hg with hg
    subst hg
    exact ⟨hb, Bk.lt (t := K.e) (cs := cur) hg'⟩
/-- What such a row's value looks like, and what it reads as. -/
theorem OwnS.form {K : Sk α} {w : World} {base : Nat} {v : Value} {xs : List α} (h : OwnS K w base v xs) :
    ∃ A cap, v = .slice A xs.length cap ∧ xs.length ≤ cap ∧ cap ≤ maxLen ∧ RdS K w A xs ∧ (∀ bl off, A = some ⟨bl, off, none⟩ → base ≤ bl ∧ bl < w.heap.size ∧ off = 0 ∧ v.ownBlock = some bl) := by
  have hb := @OwnS.block _ K w base v xs h
  obtain ⟨h1, h2⟩ := h
  rcases h2 with ⟨rfl, h3⟩ | ⟨g, cap, cur, rfl, hg, hh, hn, hm, hs, ht⟩
  · have : xs = [] := List.eq_nil_of_length_eq_zero h3
    subst this
    exact ⟨none, 0, rfl, Nat.le_refl _, by simp [maxLen], RdS.nil _ _ _, (fun bl off e => by cases e)⟩
  · refine ⟨some ⟨g, 0, none⟩, cap, rfl, hn, hm, RdS.of_cells (Bk.lt (t := K.e) (cs := cur) hh) (fun n v hv => ?_), fun bl off e => ?_⟩
    · rw [Nat.zero_add, Bk.cell (t := K.e) (cs := cur) hh, ← Array.getElem?_toList]
      rw [← ht, List.getElem?_take] at hv
      split at hv
      · exact hv
      · cases hv
    · injection e with e
      injection e with e1 e2
      subst e1
      exact ⟨hg, (hb rfl).2, e2.symm, rfl⟩

/-- append of the things of a slice. -/
theorem appS_run (K : Sk α) (w : World) {base : Nat} {v : Value} {xs : List α} (ty : TypeId) (hown : OwnS K w base v xs) (B : Option Addr) (ys : List α) (cap : Nat) (hR : RdS K w B ys) (hb : base ≤ w.heap.size) (hlen : (xs.length + ys.length) * K.by' ≤ 140737488355328) :
    ∃ v' w', (Builtin.append_ #[K.t, K.t] ty #[v, .slice B ys.length cap]).run Try.prog w = .ok v' w' ∧ OwnS K w' base v' (xs ++ ys) ∧ w.grownBy w' v.ownBlock ∧ (v'.ownBlock = v.ownBlock ∨ v'.ownBlock = some w.heap.size) := by
  have hbytes := hlen
  have h63 : xs.length + ys.length ≤ maxLen := by have := Nat.le_trans (Nat.le_mul_of_pos_right _ K.hb0) hlen; simp only [maxLen]; omega
  have main : ∀ ad : Addr, (∀ j u, (ys.flatMap K.enc)[j]? = some u → w.cell? (ad.add j) = some u) →
      ∃ v' w', (Builtin.append_ #[K.t, K.t] ty #[v, .slice (some ad) ys.length cap]).run Try.prog w = .ok v' w' ∧ OwnS K w' base v' (xs ++ ys) ∧ w.grownBy w' v.ownBlock ∧ (v'.ownBlock = v.ownBlock ∨ v'.ownBlock = some w.heap.size) := by
    intro ad hc
    obtain ⟨v', w', hr, h2, h3, _, h5⟩ := run_append_own_at (P := Try.prog) w base K.t ty K.e K.i K.z K.k K.by' K.ht K.hi K.hz K.hk K.hb K.hzs K.h0 v xs.length (xs.flatMap K.enc) hown ad ys.length cap (ys.flatMap K.enc)
      (flat_len K ys) hc (by intro u hu; obtain ⟨n, _, hn⟩ := List.mem_flatMap.1 hu; exact K.hone n u hn) h63 hbytes hb
    refine ⟨v', w', hr, ?_, h3, h5⟩
    unfold OwnS
    rw [List.length_append, List.flatMap_append]
    exact h2
  cases B with
  | none =>
    rcases hR with rfl | ⟨bl, off, e, _⟩
    · refine ⟨v, w, ?_, by simpa using hown, World.grownBy.refl _ _, .inl rfl⟩
      rcases hown.2 with ⟨rfl, _⟩ | ⟨g, c, cur, rfl, _, _, hnc, _⟩
      · simp [Builtin.append_, run_underlying K.ht, sizeOf, typeInfo, K.hi, Builtin.lenOf, Builtin.firstCells]
      · simp [Builtin.append_, run_underlying K.ht, sizeOf, typeInfo, K.hi, Builtin.lenOf, Builtin.firstCells, hnc, storeCells]
    · cases e
  | some ad => exact main ad hR.cells
theorem wpList_appS (K : Sk α) (w : World) {ops : Array Oper} {rest : List Oper} {o : Oper} {a : Act} {Q : Exit → Act → World → Prop} (hgd : o.guard = none) (s x : Operand)
    (ho : o.op = .call { callee := .builtin .append, args := #[s, x], argTypes := #[K.t, K.t] })
    {base : Nat} {v : Value} {xs : List α} (hs : a.eval s = v) (hown : OwnS K w base v xs) (B : Option Addr) (ys : List α) (m cap : Nat) (hx : a.eval x = .slice B m cap) (hm : m = ys.length) (hR : RdS K w B ys) (hb : base ≤ w.heap.size) (hlen : (xs.length + ys.length) * K.by' ≤ 140737488355328)
    (h : ∀ v' w', OwnS K w' base v' (xs ++ ys) → w.grownBy w' v.ownBlock → (v'.ownBlock = v.ownBlock ∨ v'.ownBlock = some w.heap.size) → wpList Try.prog ops Q rest (a.put o.dst v') w') : wpList Try.prog ops Q (o :: rest) a w := by
  subst hm
  obtain ⟨v', w', hr, h2, h3, h4⟩ := appS_run K w o.type hown B ys cap hR hb hlen
  refine wpList_plain hgd fun _ hK => ?_
  unfold Oper.wp execOp
  simp only [ho, resolve, invoke, builtin, Sem.run_bind, Sem.run_pure, Result.andThen_ok, List.map_toArray, List.map_cons, List.map_nil, hs, hx, hr]
  exact hK _ _ (h v' w' h2 h3 h4)

/-- append of one thing, at a step of a region that draws: for go_region_law. Behind it: intro g cap w1 hown hgrow hat hlt. -/
theorem step_appS (K : Sk α) {w : World} {ops : Array Oper} {o : Oper} {a : Act} {KK : Act → World → Prop} {Q : Exit → Act → World → Prop} {E : Prop} (hgd : o.guard = none) (s x : Operand)
    (ho : o.op = .call { callee := .builtin .append, args := #[s, x], argTypes := #[K.t, K.t] })
    {base : Nat} {v : Value} {xs : List α} (hs : a.eval s = v) (hown : OwnS K w base v xs) (gb : Nat) (y : α) (hx : a.eval x = .slice (some ⟨gb, 0, none⟩) 1 1) (hR : RdS K w (some ⟨gb, 0, none⟩) [y]) (hb : base ≤ w.heap.size) (hlen : (xs.length + 1) * K.by' ≤ 140737488355328) (H : Nat) (hH : w.heap.size = H)
    (h : ∀ g cap w', OwnS K w' base (.slice (some ⟨g, 0, none⟩) (xs.length + 1) cap) (xs ++ [y]) → w.grownBy w' v.ownBlock → (v.ownBlock = some g ∨ g = H) → g < w'.heap.size → KK (a.put o.dst (.slice (some ⟨g, 0, none⟩) (xs.length + 1) cap)) w') :
    if Region.wanted o (yielded ops a.tmps) = true then Oper.wp Try.prog o a w KK Q else E := by
  have hbytes := hlen
  have h63 : xs.length + 1 ≤ maxLen := by have := Nat.le_trans (Nat.le_mul_of_pos_right _ K.hb0) hlen; simp only [maxLen]; omega
  refine step_append_lies (P := Try.prog) w hgd s x K.t ho base K.e K.i K.z K.k K.by' K.ht K.hi K.hz K.hk K.hb K.hzs K.h0 v xs.length (xs.flatMap K.enc) hs hown ⟨gb, 0, none⟩ 1 1 (K.enc y) hx (by rw [K.henc]; omega) ?_ (K.hone y) (by omega) h63 hbytes hb H hH ?_
  · intro j u hj
    exact hR.cells j u (by simpa using hj)
  · intro g cap w' h1 h2 h3 h4
    refine h g cap w' ?_ h2 h3 h4
    unfold OwnS
    rw [List.length_append, List.flatMap_append]
    simpa using h1

theorem OwnS.own_ge {K : Sk α} {w : World} {base : Nat} {v : Value} {xs : List α} (h : OwnS K w base v xs) : ∀ i ∈ v.ownBlock.toList, base ≤ i ∧ i < w.heap.size := fun i hi => h.block (by simpa using hi)
/-- What an append leaves alone: blocks ahead of the call's own; all that was there ahead of the call. -/
theorem OwnS.keep {K : Sk α} {w w1 : World} {base : Nat} {v : Value} {xs : List α} (h : OwnS K w base v xs) (hg : w.grownBy w1 v.ownBlock) {b : Nat} {t : TypeId} {cs : Array Value} (hb : Bk w b t cs) (hlt : b < base) : Bk w1 b t cs :=
  hb.only (Only.of_grown hg) fun hm => by have := (h.own_ge b hm).1; omega
theorem OwnS.goes {K : Sk α} {w0 w w1 : World} {base : Nat} {v : Value} {xs : List α} {S : List Nat} (h : OwnS K w base v xs) (hg : w.grownBy w1 v.ownBlock) (o : Only S w0 w) (hb : w0.heap.size ≤ base) : Only S w0 w1 :=
  o.trans (Only.of_grown hg) fun i hi => .inr (by have := (h.own_ge i hi).1; omega)

/-! ### What an argument is -/
theorem oks_list {w : World} {ks : List Kd} {enc : α → List Value} {Good : α → Prop} (dec : ∀ cs, Oks w ks cs → ∃ a, Good a ∧ cs = enc a) : ∀ (n : Nat) {f : Nat → List Value → Prop}, (∀ i, i < n → ∃ cs, Oks w ks cs ∧ f i cs) → ∃ xs : List α, xs.length = n ∧ (∀ x ∈ xs, Good x) ∧ ∀ i x, xs[i]? = some x → f i (enc x)
  | 0, _, _ => ⟨[], rfl, by simp, by simp⟩
  | n + 1, f, h => by
    obtain ⟨xs, h1, h2, h3⟩ := oks_list dec n (f := f) (fun i hi => h i (by omega))
    obtain ⟨cs, o, hf⟩ := h n (by omega)
    obtain ⟨a, ga, rfl⟩ := dec cs o
    refine ⟨xs ++ [a], by simp [h1], fun x hx => ?_, fun i x hi => ?_⟩
    · rcases List.mem_append.1 hx with hx | hx
      · exact h2 x hx
      · rw [List.mem_singleton.1 hx]; exact ga
    · by_cases hl : i < xs.length
      · rw [List.getElem?_append_left hl] at hi
        exact h3 i x hi
      · rw [List.getElem?_append_right (by omega)] at hi
        by_cases h0 : i - xs.length = 0
        · rw [h0] at hi
          simp at hi
          subst hi
          rw [show i = n by omega]
          exact hf
        · rw [List.getElem?_eq_none (by simp; omega)] at hi
          cases hi
/-- A slice that came in reads as a list of things that may be. -/
theorem RdS.of_ok (K : Sk α) {Good : α → Prop} {w : World} {ks : List Kd} (hk : ks.length = K.k) (dec : ∀ cs, Oks w ks cs → ∃ a, Good a ∧ cs = K.enc a) {v : Value} (h : Kd.ok w (.l ks K.by') v) :
    ∃ A xs cap, v = .slice A xs.length cap ∧ xs.length ≤ cap ∧ cap ≤ 9223372036854775807 ∧ xs.length * K.by' + 4096 ≤ 140737488355328 ∧ RdS K w A xs ∧ ∀ x ∈ xs, Good x := by
  simp only [Kd.ok] at h
  obtain ⟨A, len, cap, rfl, h1, h2, h3, h4⟩ := h
  rcases h4 with rfl | ⟨bl, off, rfl, hb, hc⟩
  · exact ⟨A, [], cap, rfl, h1, h2, h3, RdS.nil _ _ _, by simp⟩
  · obtain ⟨xs, e, g, hx⟩ := oks_list dec len hc
    subst e
    exact ⟨_, xs, cap, rfl, h1, h2, h3, .inr ⟨bl, off, rfl, hb, fun i x hi j v hv => by rw [← hk]; exact hx i x hi j v hv⟩, g⟩

theorem Bk.newAt {w : World} {t : TypeId} {cs : Array Value} {b : Nat} (h : b = w.heap.size) : Bk (w.alloc (.cells cs t)) b t cs := by
  subst h
  exact Bk.made w t cs
theorem retI {a b : Int} (h : a = b) : Ending.returned (.int .i64 a) = .returned (.int .i64 b) := by rw [h]
theorem retB {a b : Bool} (h : a = b) : Ending.returned (.bool a) = .returned (.bool b) := by rw [h]
theorem some_at {α : Type} {l : List α} {i : Nat} (h : i < l.length) : ∃ x, l[i]? = some x := ⟨l[i], List.getElem?_eq_getElem h⟩
end Go.Proofs.Ytkodblhompphjaa

namespace Go.Proofs.Ytkodblhompphjaa
open Go.ChangeShapes Go.WideShapes Go.ChangeAt Go.RowKit
set_option maxRecDepth 20000

section
variable {H : Type} {enc : TypeId × Value → H} {P : Program} {W : World} {base : Nat} {sp : Nat → Bool} {hd : Bool}
/-- A value of a struct's or an array's type: its cells. -/
theorem flat_agg {f : Nat} {t : TypeId} {ks : List Kd} {v : Value} {d : DataW H} {p : List MemPlace} {r : Reach} {b0 : Nat} (hf : flat P f t = some ks) (hd' : (match P.underlying t with | some (.struct _) => true | some (.array _ _) => true | _ => false) = true)
    (hv : Value.okWide P W r b0 t v) (h : DataW.Trod enc P W base sp hd t v d p) (hw : ∀ m ∈ d.weights P t, m ≤ reachBytes) : ∃ l, v = .agg ⟨l⟩ ∧ Oks W ks l := by
  have hc : ∃ cs, v = .agg cs := by
    unfold Value.okWide at hv
    split at hv
    · rename_i hu
      obtain ⟨cs, h1, _⟩ := hv
      exact ⟨cs, h1⟩
    · rename_i hu
      obtain ⟨cs, h1, _⟩ := hv
      exact ⟨cs, h1⟩
    · rename_i n1 n2
      exfalso
      split at hd'
      · rename_i fs hu
        exact n1 fs hu
      · rename_i n e hu
        exact n2 n e hu
      · cases hd'
  obtain ⟨⟨l⟩, rfl⟩ := hc
  obtain ⟨fuel, hf'⟩ := h
  exact ⟨l, rfl, flat_open f hf hf' hw⟩
/-- A value of one cell. -/
theorem flat_one {f : Nat} {t : TypeId} {k : Kd} {v : Value} {d : DataW H} {p : List MemPlace} (hf : flat P f t = some [k]) (hc : v.cells = #[v])
    (h : DataW.Trod enc P W base sp hd t v d p) (hw : ∀ m ∈ d.weights P t, m ≤ reachBytes) : Kd.ok W k v := by
  obtain ⟨fuel, hf'⟩ := h
  rw [hc] at hf'
  have := flat_open f hf hf' hw
  simp only [Oks] at this
  obtain ⟨u, r, e, h1, _⟩ := this
  injection e with e
  subst e
  exact h1
end
end Go.Proofs.Ytkodblhompphjaa

namespace Go.Proofs.Ytkodblhompphjaa
open Go.RowKit
set_option maxRecDepth 20000

structure Pd where
  n : Int
  g : Int
  deriving DecidableEq
def i64ok (n : Int) : Prop := -9223372036854775808 ≤ n ∧ n ≤ 9223372036854775807
def Pd.ok (x : Pd) : Prop := i64ok x.n ∧ i64ok x.g
abbrev Pd.cs (x : Pd) : Array Value := #[.int .i64 x.n, .int .i64 x.g]
def encP (x : Pd) : List Value := [.int .i64 x.n, .int .i64 x.g]
def kP : List Kd := [.i, .i]
theorem decP {w : World} (cs : List Value) (h : Oks w kP cs) : ∃ a : Pd, a.ok ∧ cs = encP a := by
  simp only [kP, Oks, Kd.ok] at h
  obtain ⟨_, _, rfl, ⟨n, rfl, hn⟩, _, _, rfl, ⟨g, rfl, hg⟩, rfl⟩ := h
  exact ⟨⟨n, g⟩, ⟨hn, hg⟩, rfl⟩
noncomputable def KP : Sk Pd where
  e := 32
  t := 49
  k := 2
  by' := 16
  i := (Try.prog.info? 32).getD default
  z := .agg #[.int .i64 0, .int .i64 0]
  enc := encP
  ht := Try.underlying49
  hi := by kernel_rfl
  hz := by kernel_rfl
  hk := by kernel_rfl
  hb := by kernel_rfl
  hzs := rfl
  h0 := by decide
  hb0 := by decide
  henc := fun _ => rfl
  hone := fun a u hu => by
    simp only [encP, List.mem_cons, List.not_mem_nil, or_false] at hu
    rcases hu with rfl | rfl <;> rfl

structure Te where
  r : Int
  a : Pd
  b : Pd
  deriving DecidableEq
def Te.ok (x : Te) : Prop := i64ok x.r ∧ x.a.ok ∧ x.b.ok
abbrev Te.cs (x : Te) : Array Value := #[.int .i64 x.r, .int .i64 x.a.n, .int .i64 x.a.g, .int .i64 x.b.n, .int .i64 x.b.g]
def encT (x : Te) : List Value := [.int .i64 x.r, .int .i64 x.a.n, .int .i64 x.a.g, .int .i64 x.b.n, .int .i64 x.b.g]
def kT : List Kd := [.i, .i, .i, .i, .i]
theorem decT {w : World} (cs : List Value) (h : Oks w kT cs) : ∃ a : Te, a.ok ∧ cs = encT a := by
  simp only [kT, Oks, Kd.ok] at h
  obtain ⟨_, _, rfl, ⟨r, rfl, hr⟩, _, _, rfl, ⟨n, rfl, hn⟩, _, _, rfl, ⟨g, rfl, hg⟩, _, _, rfl, ⟨n', rfl, hn'⟩, _, _, rfl, ⟨g', rfl, hg'⟩, rfl⟩ := h
  exact ⟨⟨r, ⟨n, g⟩, ⟨n', g'⟩⟩, ⟨hr, ⟨hn, hg⟩, hn', hg'⟩, rfl⟩
noncomputable def KT : Sk Te where
  e := 45
  t := 25
  k := 5
  by' := 40
  i := (Try.prog.info? 45).getD default
  z := .agg #[.int .i64 0, .int .i64 0, .int .i64 0, .int .i64 0, .int .i64 0]
  enc := encT
  ht := Try.underlying25
  hi := by kernel_rfl
  hz := by kernel_rfl
  hk := by kernel_rfl
  hb := by kernel_rfl
  hzs := rfl
  h0 := by decide
  hb0 := by decide
  henc := fun _ => rfl
  hone := fun a u hu => by
    simp only [encT, List.mem_cons, List.not_mem_nil, or_false] at hu
    rcases hu with rfl | rfl | rfl | rfl | rfl <;> rfl
theorem RdP.at2 {w : World} {A : Option Addr} {xs : List Pd} (h : RdS KP w A xs) (h0 : 0 < xs.length) : ∃ bl off, A = some ⟨bl, off, none⟩ ∧ bl < w.heap.size ∧ ∀ i x, xs[i]? = some x →
    w.cell? ⟨bl, off + i * 2, none⟩ = some (.int .i64 x.n) ∧ w.cell? ⟨bl, off + i * 2 + 1, none⟩ = some (.int .i64 x.g) := by
  obtain ⟨bl, off, e, hb, hc⟩ := h.form h0
  exact ⟨bl, off, e, hb, fun i x hx => ⟨hc i x hx 0 _ rfl, hc i x hx 1 _ rfl⟩⟩
theorem RdT.at5 {w : World} {A : Option Addr} {xs : List Te} (h : RdS KT w A xs) (h0 : 0 < xs.length) : ∃ bl off, A = some ⟨bl, off, none⟩ ∧ bl < w.heap.size ∧ ∀ i x, xs[i]? = some x →
    w.cell? ⟨bl, off + i * 5, none⟩ = some (.int .i64 x.r) ∧ w.cell? ⟨bl, off + i * 5 + 1, none⟩ = some (.int .i64 x.a.n) ∧ w.cell? ⟨bl, off + i * 5 + 2, none⟩ = some (.int .i64 x.a.g) ∧
    w.cell? ⟨bl, off + i * 5 + 3, none⟩ = some (.int .i64 x.b.n) ∧ w.cell? ⟨bl, off + i * 5 + 4, none⟩ = some (.int .i64 x.b.g) := by
  obtain ⟨bl, off, e, hb, hc⟩ := h.form h0
  exact ⟨bl, off, e, hb, fun i x hx => ⟨hc i x hx 0 _ rfl, hc i x hx 1 _ rfl, hc i x hx 2 _ rfl, hc i x hx 3 _ rfl, hc i x hx 4 _ rfl⟩⟩
/-- A tie's cells in a block of its own. -/
theorem Bk.tie {w : World} {g : Nat} {t : TypeId} {x : Te} (h : Bk w g t x.cs) : w.cell? ⟨g, 0, none⟩ = some (.int .i64 x.r) ∧ w.cell? ⟨g, 1, none⟩ = some (.int .i64 x.a.n) ∧ w.cell? ⟨g, 2, none⟩ = some (.int .i64 x.a.g) ∧ w.cell? ⟨g, 3, none⟩ = some (.int .i64 x.b.n) ∧ w.cell? ⟨g, 4, none⟩ = some (.int .i64 x.b.g) :=
  ⟨h.cell0 rfl, h.cell0 rfl, h.cell0 rfl, h.cell0 rfl, h.cell0 rfl⟩
theorem Bk.pid {w : World} {g : Nat} {t : TypeId} {x : Pd} (h : Bk w g t x.cs) : w.cell? ⟨g, 0, none⟩ = some (.int .i64 x.n) ∧ w.cell? ⟨g, 1, none⟩ = some (.int .i64 x.g) := ⟨h.cell0 rfl, h.cell0 rfl⟩
end Go.Proofs.Ytkodblhompphjaa
