/- Pids, places, numbers, truth values, texts in memory; a table as a list of places: what is asked of it, and answered. -/
import Derived.Test.YtlidnlcmnkagaaaS1
import Derived.Test.YtlidnlcmnkagaaaS2
import Derived.Test.YtlidnlcmnkagaaaTail
import Derived.Laws.StructEq
namespace Go.Proofs.Ytlidnlcmnkagaaa
open Go.RowKit
set_option maxRecDepth 20000

structure Pd where
  n : Int
  g : Int
  deriving DecidableEq
def i64ok (n : Int) : Prop := -9223372036854775808 ≤ n ∧ n ≤ 9223372036854775807
def Pd.ok (x : Pd) : Prop := i64ok x.n ∧ i64ok x.g
abbrev Pd.cs (x : Pd) : Array Value := #[.int .i64 x.n, .int .i64 x.g]
def encP (x : Pd) : List Value := [.int .i64 x.n, .int .i64 x.g]
def kP : List Kd := [.i, .i]
theorem decP {w : World} (cs : List Value) (h : Oks w kP cs) : ∃ a : Pd, a.ok ∧ cs = encP a := by
  simp only [kP, Oks, Kd.ok] at h
  obtain ⟨_, _, rfl, ⟨n, rfl, hn⟩, _, _, rfl, ⟨g, rfl, hg⟩, rfl⟩ := h
  exact ⟨⟨n, g⟩, ⟨hn, hg⟩, rfl⟩
noncomputable def KP : Sk Pd where
  e := 38
  t := 33
  k := 2
  by' := 16
  i := (Try.prog.info? 38).getD default
  z := .agg #[.int .i64 0, .int .i64 0]
  enc := encP
  ht := Try.underlying33
  hi := by kernel_rfl
  hz := by kernel_rfl
  hk := by kernel_rfl
  hb := by kernel_rfl
  hzs := rfl
  h0 := by decide
  hb0 := by decide
  henc := fun _ => rfl
  hone := fun a u hu => by
    simp only [encP, List.mem_cons, List.not_mem_nil, or_false] at hu
    rcases hu with rfl | rfl <;> rfl
theorem RdP.at2 {w : World} {A : Option Addr} {xs : List Pd} (h : RdS KP w A xs) (h0 : 0 < xs.length) : ∃ bl off, A = some ⟨bl, off, none⟩ ∧ bl < w.heap.size ∧ ∀ i x, xs[i]? = some x →
    w.cell? ⟨bl, off + i * 2, none⟩ = some (.int .i64 x.n) ∧ w.cell? ⟨bl, off + i * 2 + 1, none⟩ = some (.int .i64 x.g) := by
  obtain ⟨bl, off, e, hb, hc⟩ := h.form h0
  exact ⟨bl, off, e, hb, fun i x hx => ⟨hc i x hx 0 _ rfl, hc i x hx 1 _ rfl⟩⟩
theorem Bk.pid {w : World} {g : Nat} {t : TypeId} {x : Pd} (h : Bk w g t x.cs) : w.cell? ⟨g, 0, none⟩ = some (.int .i64 x.n) ∧ w.cell? ⟨g, 1, none⟩ = some (.int .i64 x.g) := ⟨h.cell0 rfl, h.cell0 rfl⟩
/-- The zero pid, and what is free. -/
abbrev P0 : Pd := ⟨0, 0⟩

/-- A place: how many actors it has had, whether the last one is alive, its name. -/
structure Pl where
  had : Int
  al : Bool
  nm : ByteArray
  deriving DecidableEq
abbrev Pl.cs (x : Pl) : Array Value := #[.int .i64 x.had, .bool x.al, .string x.nm]
def encL (x : Pl) : List Value := [.int .i64 x.had, .bool x.al, .string x.nm]
abbrev E0b : ByteArray := ⟨#[]⟩
noncomputable def KL : Sk Pl where
  e := 79
  t := 80
  k := 3
  by' := 32
  i := (Try.prog.info? 79).getD default
  z := .agg #[.int .i64 0, .bool false, .string E0b]
  enc := encL
  ht := Try.underlying80
  hi := by kernel_rfl
  hz := by kernel_rfl
  hk := by kernel_rfl
  hb := by kernel_rfl
  hzs := rfl
  h0 := by decide
  hb0 := by decide
  henc := fun _ => rfl
  hone := fun a u hu => by
    simp only [encL, List.mem_cons, List.not_mem_nil, or_false] at hu
    rcases hu with rfl | rfl | rfl <;> rfl
noncomputable def KI : Sk Int where
  e := 3
  t := 26
  k := 1
  by' := 8
  i := (Try.prog.info? 3).getD default
  z := .int .i64 0
  enc := fun x => [.int .i64 x]
  ht := Try.underlying26
  hi := by kernel_rfl
  hz := by kernel_rfl
  hk := by kernel_rfl
  hb := by kernel_rfl
  hzs := rfl
  h0 := by decide
  hb0 := by decide
  henc := fun _ => rfl
  hone := fun a u hu => by
    simp only [List.mem_cons, List.not_mem_nil, or_false] at hu
    rcases hu with rfl <;> rfl
noncomputable def KB : Sk Bool where
  e := 4
  t := 27
  k := 1
  by' := 1
  i := (Try.prog.info? 4).getD default
  z := .bool false
  enc := fun x => [.bool x]
  ht := Try.underlying27
  hi := by kernel_rfl
  hz := by kernel_rfl
  hk := by kernel_rfl
  hb := by kernel_rfl
  hzs := rfl
  h0 := by decide
  hb0 := by decide
  henc := fun _ => rfl
  hone := fun a u hu => by
    simp only [List.mem_cons, List.not_mem_nil, or_false] at hu
    rcases hu with rfl <;> rfl
noncomputable def KS : Sk ByteArray where
  e := 9
  t := 28
  k := 1
  by' := 16
  i := (Try.prog.info? 9).getD default
  z := .string E0b
  enc := fun x => [.string x]
  ht := Try.underlying28
  hi := by kernel_rfl
  hz := by kernel_rfl
  hk := by kernel_rfl
  hb := by kernel_rfl
  hzs := rfl
  h0 := by decide
  hb0 := by decide
  henc := fun _ => rfl
  hone := fun a u hu => by
    simp only [List.mem_cons, List.not_mem_nil, or_false] at hu
    rcases hu with rfl <;> rfl

/-! ### Are two pids the same? The operator's answer. -/
def eq2 (a b a' b' : Int) : Bool := a == a' && b == b'
abbrev eqP (x y : Pd) : Bool := eq2 x.n x.g y.n y.g
theorem eqP_iff {x y : Pd} : eqP x y = true ↔ x = y := by
  obtain ⟨a, b⟩ := x
  obtain ⟨c, d⟩ := y
  simp [eqP, eq2]
theorem eqP_no {x y : Pd} (h : x ≠ y) : eqP x y = false := by
  cases he : eqP x y with
  | true => exact absurd (eqP_iff.1 he) h
  | false => rfl
theorem pid_eq (d : Nat) (a b a' b' : Int) (w : World) : (Op.equalIn (d + 2) 38 (.agg #[.int .i64 a, .int .i64 b]) (.agg #[.int .i64 a', .int .i64 b'])).run Try.prog w = .ok (a == a' && b == b') w := by
  have hS : Try.prog.underlying 38 = some (.struct (Try.prog.fieldsOf 38)) := by kernel_rfl
  have hp : Try.prog.stoodInHeld 38 = false := by kernel_rfl
  rw [run_equalIn_agg w (d + 1) _ _ _ hS hp]
  simp only [Program.fieldsOf, Try.underlying38]
  go_simp
  by_cases h1 : a = a' <;> by_cases h2 : b = b' <;> simp [h1, h2]
@[go_sem high] theorem pid_eqV (a b a' b' : Int) (w : World) : (Op.equalIn 10000 38 (.agg #[.int .i64 a, .int .i64 b]) (.agg #[.int .i64 a', .int .i64 b'])).run Try.prog w = .ok (eq2 a b a' b') w := pid_eq 9998 a b a' b' w
@[go_sem] theorem pid_guard (op : BinOp) (x y : Operand) (xs ys : Array Value) (w : World) : (eqGuard op 38 x y (.agg xs) (.agg ys)).run Try.prog w = .ok () w := run_eqGuard_agg w op _ x y xs ys (by kernel_rfl)

/-! ### A table as a list of places -/
abbrev MX : Int := 4611686018427387903
def mayB (x : Pl) : Bool := !x.al && decide (x.had < MX)
def addI : Nat → List Pl → Option (Nat × Pl)
  | _, [] => none
  | i, x :: r => if mayB x = true then some (i, x) else addI (i + 1) r
def addF (T : List Pl) : List Pl × Pd × Int := match addI 0 T with
  | some (n, x) => (T.set n ⟨x.had + 1, true, x.nm⟩, ⟨n, x.had + 1⟩, 0)
  | none => (T, P0, 140)
def findF (T : List Pl) (p : Pd) : Option Pl := if 0 ≤ p.n then (match T[p.n.toNat]? with
  | some x => if x.al = true ∧ x.had = p.g then some x else none
  | none => none) else none
def isF (T : List Pl) (p : Pd) : Bool := (findF T p).isSome
def freeF (T : List Pl) (p : Pd) : List Pl × Int := match findF T p with
  | some x => (T.set p.n.toNat ⟨x.had, false, E0b⟩, 0)
  | none => (T, 3)
def nameOfF (T : List Pl) (p : Pd) : ByteArray := match findF T p with
  | some x => x.nm
  | none => E0b
def whereG : Nat → List Pl → ByteArray → Option Pd
  | _, [], _ => none
  | i, x :: r, s => if x.al = true ∧ s ≠ E0b ∧ x.nm = s then some ⟨i, x.had⟩ else whereG (i + 1) r s
abbrev whereF (T : List Pl) (s : ByteArray) : Option Pd := whereG 0 T s
def lowI (c : Int) : Bool := decide (97 ≤ c) && decide (c ≤ 122)
def goI (c : Int) : Bool := lowI c || (decide (65 ≤ c) && decide (c ≤ 90)) || (decide (48 ≤ c) && decide (c ≤ 57)) || c == 95
def lowB (b : UInt8) : Bool := lowI (b.toNat : Int)
def goB (b : UInt8) : Bool := goI (b.toNat : Int)
/-- Is a text an atom? -/
def atomF (s : ByteArray) : Bool := (decide (1 ≤ s.size) && decide (s.size ≤ 64)) && (match s.data.toList with | [] => false | b :: _ => lowB b) && !(s.toList == [110, 105, 108]) && !(s.toList == [116, 114, 117, 101]) && !(s.toList == [102, 97, 108, 115, 101]) && s.data.toList.all goB
def nameF (T : List Pl) (p : Pd) (s : ByteArray) : List Pl × Int :=
  if atomF s = false then (T, 1) else match findF T p with
    | none => (T, 3)
    | some x => if (whereF T s).isSome = true ∨ x.nm ≠ E0b then (T, 141) else (T.set p.n.toNat ⟨x.had, x.al, s⟩, 0)
def pidsG : Nat → List Pl → List Pd
  | _, [] => []
  | i, x :: r => if x.al = true then ⟨i, x.had⟩ :: pidsG (i + 1) r else pidsG (i + 1) r
abbrev pidsF (T : List Pl) : List Pd := pidsG 0 T
def zeroT (n : Nat) : List Pl := List.replicate n ⟨0, false, E0b⟩

/-- A list of places that is a table's. -/
structure TOk (T : List Pl) : Prop where
  len : 1 ≤ T.length ∧ T.length ≤ 256
  bd : ∀ (i : Nat) (x : Pl), T[i]? = some x → (0 ≤ x.had ∧ x.had ≤ MX) ∧ (x.al = true → 1 ≤ x.had) ∧ (x.al = false → x.nm = E0b) ∧ (x.nm = E0b ∨ atomF x.nm = true)
  un : ∀ (i j : Nat) (x y : Pl), T[i]? = some x → T[j]? = some y → x.nm ≠ E0b → x.nm = y.nm → i = j

theorem whereG_spec {s : ByteArray} : ∀ (T : List Pl) (i : Nat), (∀ p, whereG i T s = some p → s ≠ E0b ∧ ∃ (j : Nat) (x : Pl), T[j]? = some x ∧ x.al = true ∧ x.nm = s ∧ p = ⟨((i + j : Nat) : Int), x.had⟩) ∧
    (whereG i T s = none → s = E0b ∨ ∀ (j : Nat) (x : Pl), T[j]? = some x → x.al = true → x.nm ≠ s)
  | [], i => ⟨fun p h => (by cases h), fun _ => .inr fun j x h => (by simp at h)⟩
  | x :: r, i => by
    obtain ⟨h1, h2⟩ := whereG_spec (s := s) r (i + 1)
    unfold whereG
    split
    · rename_i hc
      refine ⟨fun p h => ⟨hc.2.1, 0, x, rfl, hc.1, hc.2.2, ?_⟩, fun h => by cases h⟩
      injection h with h
      exact h.symm
    · rename_i hc
      refine ⟨fun p h => ?_, fun h => ?_⟩
      · obtain ⟨a, j, y, b, c, d, e⟩ := h1 p h
        exact ⟨a, j + 1, y, by simpa using b, c, d, by rw [e, show i + 1 + j = i + (j + 1) by omega]⟩
      · rcases h2 h with h3 | h3
        · exact .inl h3
        · by_cases he : s = E0b
          · exact .inl he
          · refine .inr fun j y hy ha => ?_
            cases j with
            | zero =>
              simp at hy
              subst hy
              exact fun e => hc ⟨ha, he, e⟩
            | succ j => exact h3 j y (by simpa using hy) ha
/-- Who has a name, where no two have one. -/
theorem where_iff {T : List Pl} (ok : TOk T) {s : ByteArray} {p : Pd} : whereF T s = some p ↔ s ≠ E0b ∧ ∃ (j : Nat) (x : Pl), T[j]? = some x ∧ x.al = true ∧ x.nm = s ∧ p = ⟨(j : Nat), x.had⟩ := by
  obtain ⟨h1, h2⟩ := whereG_spec (s := s) T 0
  constructor
  · intro h
    obtain ⟨a, j, x, b, c, d, e⟩ := h1 p h
    exact ⟨a, j, x, b, c, d, by rw [e, Nat.zero_add]⟩
  · rintro ⟨a, j, x, b, c, d, e⟩
    cases hw : whereG 0 T s with
    | none =>
      rcases h2 hw with h3 | h3
      · exact absurd h3 a
      · exact absurd d (h3 j x b c)
    | some q =>
      obtain ⟨_, k, y, b', c', d', e'⟩ := h1 q hw
      have hjk := ok.un j k x y b b' (by rw [d]; exact a) (by rw [d, d'])
      subst hjk
      rw [b] at b'
      injection b' with b'
      subst b'
      show whereG 0 T s = _
      rw [hw, e, e', Nat.zero_add]
theorem addI_spec : ∀ (T : List Pl) (i : Nat), (∀ (n : Nat) (x : Pl), addI i T = some (n, x) → i ≤ n ∧ T[n - i]? = some x ∧ mayB x = true ∧ ∀ (j : Nat) (y : Pl), j < n - i → T[j]? = some y → mayB y = false) ∧ (addI i T = none → ∀ (j : Nat) (y : Pl), T[j]? = some y → mayB y = false)
  | [], i => ⟨fun n x h => (by cases h), fun _ j y h => (by simp at h)⟩
  | x :: r, i => by
    obtain ⟨h1, h2⟩ := addI_spec r (i + 1)
    unfold addI
    split
    · rename_i hc
      refine ⟨fun n y h => ?_, fun h => by cases h⟩
      simp only [Option.some.injEq, Prod.mk.injEq] at h
      obtain ⟨rfl, rfl⟩ := h
      exact ⟨Nat.le_refl _, by simp, hc, fun j y hj => by omega⟩
    · rename_i hc
      have hc' : mayB x = false := by simpa using hc
      refine ⟨fun n y h => ?_, fun h j y hy => ?_⟩
      · obtain ⟨a, b, c, d⟩ := h1 n y h
        refine ⟨by omega, ?_, c, fun j z hj hz => ?_⟩
        · rw [show n - i = (n - (i + 1)) + 1 by omega]
          simpa using b
        · cases j with
          | zero =>
            simp at hz
            subst hz
            exact hc'
          | succ j => exact d j z (by omega) (by simpa using hz)
      · cases j with
        | zero =>
          simp at hy
          subst hy
          exact hc'
        | succ j => exact h2 h j y (by simpa using hy)
theorem getElem?_set' {α : Type} {l : List α} {i j : Nat} {x y : α} (h : (l.set i x)[j]? = some y) : (i = j ∧ y = x) ∨ (i ≠ j ∧ l[j]? = some y) := by
  rw [List.getElem?_set] at h
  split at h
  · rename_i e
    split at h
    · injection h with h
      exact .inl ⟨e, h.symm⟩
    · cases h
  · rename_i e
    exact .inr ⟨e, h⟩
/-- One place turned: still a table's. -/
theorem TOk.set {T : List Pl} (ok : TOk T) {n : Nat} {y : Pl} (hb : (0 ≤ y.had ∧ y.had ≤ MX) ∧ (y.al = true → 1 ≤ y.had) ∧ (y.al = false → y.nm = E0b) ∧ (y.nm = E0b ∨ atomF y.nm = true))
    (hu : y.nm ≠ E0b → ∀ (j : Nat) (z : Pl), j ≠ n → T[j]? = some z → y.nm ≠ z.nm) : TOk (T.set n y) where
  len := by rw [List.length_set]; exact ok.len
  bd := fun i x h => by
    rcases getElem?_set' h with ⟨_, rfl⟩ | ⟨_, h⟩
    · exact hb
    · exact ok.bd i x h
  un := fun i j x z hi hj hne he => by
    rcases getElem?_set' hi with ⟨rfl, rfl⟩ | ⟨h1, hi2⟩
    · rcases getElem?_set' hj with ⟨rfl, rfl⟩ | ⟨h2, hj⟩
      · rfl
      · exact absurd he (hu hne j z (fun e => h2 e.symm) hj)
    · rcases getElem?_set' hj with ⟨rfl, rfl⟩ | ⟨h2, hj2⟩
      · exact absurd he.symm (hu (by rw [← he]; exact hne) i x (fun e => h1 e.symm) hi2)
      · exact ok.un i j x z hi2 hj2 hne he
theorem find_some {T : List Pl} {p : Pd} {x : Pl} (h : findF T p = some x) : 0 ≤ p.n ∧ T[p.n.toNat]? = some x ∧ x.al = true ∧ x.had = p.g := by
  unfold findF at h
  split at h
  · rename_i h0
    split at h
    · rename_i y hy
      split at h
      · rename_i hc
        injection h with h
        subst h
        exact ⟨h0, hy, hc⟩
      · cases h
    · cases h
  · cases h
theorem find_mk {T : List Pl} {p : Pd} {x : Pl} (h0 : 0 ≤ p.n) (h1 : T[p.n.toNat]? = some x) (h2 : x.al = true) (h3 : x.had = p.g) : findF T p = some x := by
  unfold findF
  rw [if_pos h0, h1]
  simp [h2, h3]
theorem find_none {T : List Pl} {p : Pd} (h : findF T p = none) : p.n < 0 ∨ T.length ≤ p.n.toNat ∨ ∃ x, T[p.n.toNat]? = some x ∧ (x.al = false ∨ x.had ≠ p.g) := by
  unfold findF at h
  split at h
  · split at h
    · rename_i y hy
      split at h
      · cases h
      · rename_i hc
        refine .inr (.inr ⟨y, hy, ?_⟩)
        cases ha : y.al with
        | false => exact .inl rfl
        | true => exact .inr fun e => hc ⟨ha, e⟩
    · rename_i hy
      exact .inr (.inl (by simpa using hy))
  · exact .inl (by omega)
/-! ### What each step does to a table, and to who has which name -/
theorem TOk.add {T : List Pl} (ok : TOk T) : TOk (addF T).1 := by
  unfold addF
  split
  · rename_i n x h
    obtain ⟨_, hx, hm, _⟩ := (addI_spec T 0).1 n x h
    rw [Nat.sub_zero] at hx
    have hb := ok.bd n x hx
    simp only [mayB, Bool.and_eq_true, Bool.not_eq_true', decide_eq_true_eq] at hm
    have he := hb.2.2.1 hm.1
    exact ok.set ⟨⟨by show (0 : Int) ≤ x.had + 1; omega, by show x.had + 1 ≤ MX; omega⟩, fun _ => (by show (1 : Int) ≤ x.had + 1; omega), fun h => (by cases h), .inl he⟩ (fun h => absurd he h)
  · exact ok
theorem where_add {T : List Pl} (ok : TOk T) (s : ByteArray) : whereF (addF T).1 s = whereF T s := by
  have ok2 := ok.add
  unfold addF at ok2 ⊢
  split
  · rename_i n x h
    rw [h] at ok2
    obtain ⟨_, hx, hm, _⟩ := (addI_spec T 0).1 n x h
    rw [Nat.sub_zero] at hx
    have hb := ok.bd n x hx
    simp only [mayB, Bool.and_eq_true, Bool.not_eq_true', decide_eq_true_eq] at hm
    have he := hb.2.2.1 hm.1
    apply Option.ext
    intro p
    show whereF (T.set n _) s = some p ↔ _
    rw [where_iff ok2, where_iff ok]
    refine and_congr_right fun hs => ⟨?_, ?_⟩
    · rintro ⟨j, y, h1, h2, h3, h4⟩
      rcases getElem?_set' h1 with ⟨_, rfl⟩ | ⟨_, h1⟩
      · exact absurd (h3.symm.trans he) hs
      · exact ⟨j, y, h1, h2, h3, h4⟩
    · rintro ⟨j, y, h1, h2, h3, h4⟩
      have : n ≠ j := fun e => by
        subst e
        rw [hx] at h1
        injection h1 with h1
        subst h1
        rw [hm.1] at h2
        cases h2
      exact ⟨j, y, by rw [List.getElem?_set_ne this]; exact h1, h2, h3, h4⟩
  · rfl
theorem TOk.free {T : List Pl} (ok : TOk T) (p : Pd) : TOk (freeF T p).1 := by
  unfold freeF
  split
  · rename_i x h
    obtain ⟨_, hx, ha, hh⟩ := find_some h
    have hb := ok.bd _ x hx
    exact ok.set ⟨hb.1, fun h => (by cases h), fun _ => rfl, .inl rfl⟩ (fun h => absurd rfl h)
  · exact ok
theorem where_free {T : List Pl} (ok : TOk T) {p : Pd} {x : Pl} (h : findF T p = some x) (s : ByteArray) : whereF (freeF T p).1 s = if s = x.nm then none else whereF T s := by
  have ok2 := ok.free p
  unfold freeF at ok2 ⊢
  rw [h] at ok2 ⊢
  obtain ⟨_, hx, ha, hh⟩ := find_some h
  apply Option.ext
  intro q
  show whereF (T.set _ _) s = some q ↔ _
  rw [where_iff ok2]
  by_cases e : s = x.nm
  · rw [if_pos e]
    refine ⟨?_, fun h => by cases h⟩
    rintro ⟨hs, j, y, h1, h2, h3, h4⟩
    rcases getElem?_set' h1 with ⟨_, rfl⟩ | ⟨hne, h1⟩
    · cases h2
    · exact absurd (ok.un _ _ x y hx h1 (by rw [← e]; exact hs) (by rw [h3, e])) hne
  · rw [if_neg e, where_iff ok]
    refine and_congr_right fun hs => ⟨?_, ?_⟩
    · rintro ⟨j, y, h1, h2, h3, h4⟩
      rcases getElem?_set' h1 with ⟨_, rfl⟩ | ⟨_, h1⟩
      · cases h2
      · exact ⟨j, y, h1, h2, h3, h4⟩
    · rintro ⟨j, y, h1, h2, h3, h4⟩
      have : p.n.toNat ≠ j := fun e' => by
        subst e'
        rw [hx] at h1
        injection h1 with h1
        subst h1
        exact e h3.symm
      exact ⟨j, y, by rw [List.getElem?_set_ne this]; exact h1, h2, h3, h4⟩
theorem TOk.nam {T : List Pl} (ok : TOk T) {n : Nat} {x : Pl} {s : ByteArray} (ha : atomF s = true) (hx : T[n]? = some x) (hl : x.al = true) (hw : whereF T s = none) : TOk (T.set n ⟨x.had, x.al, s⟩) := by
  have hb := ok.bd n x hx
  refine ok.set ⟨hb.1, hb.2.1, fun h => ?_, .inr ha⟩ (fun hne j z hj hz he => ?_)
  · rw [hl] at h; cases h
  · have hz2 := ok.bd j z hz
    have hal : z.al = true := by
      cases h : z.al with
      | true => rfl
      | false => exact absurd (he.trans (hz2.2.2.1 h)) hne
    have : whereF T s = some ⟨(j : Nat), z.had⟩ := (where_iff ok).2 ⟨hne, j, z, hz, hal, he.symm, rfl⟩
    rw [hw] at this
    cases this
theorem TOk.name {T : List Pl} (ok : TOk T) (p : Pd) (s : ByteArray) : TOk (nameF T p s).1 := by
  unfold nameF
  split
  · exact ok
  · rename_i ha
    split
    · exact ok
    · rename_i x h
      split
      · exact ok
      · rename_i hc
        obtain ⟨_, hx, hl, _⟩ := find_some h
        exact ok.nam (by simpa using ha) hx hl (by
          cases hw : whereF T s with
          | none => rfl
          | some q => exact absurd (.inl (by rw [hw]; rfl)) hc)
theorem where_nam {T : List Pl} (ok : TOk T) {n : Nat} {x : Pl} {s : ByteArray} (ha : atomF s = true) (hx : T[n]? = some x) (hl : x.al = true) (hn : x.nm = E0b) (hw : whereF T s = none) (t : ByteArray) :
    whereF (T.set n ⟨x.had, x.al, s⟩) t = if t = s then some ⟨(n : Nat), x.had⟩ else whereF T t := by
  have ok2 := ok.nam ha hx hl hw
  have hse : s ≠ E0b := fun e => by subst e; revert ha; decide
  have hlt := (List.getElem?_eq_some_iff.1 hx).1
  apply Option.ext
  intro q
  rw [where_iff ok2]
  by_cases e : t = s
  · rw [if_pos e]
    constructor
    · rintro ⟨ht, j, y, h1, h2, h3, h4⟩
      rcases getElem?_set' h1 with ⟨rfl, rfl⟩ | ⟨hne, h1⟩
      · rw [h4]
      · have : whereF T s = some ⟨(j : Nat), y.had⟩ := (where_iff ok).2 ⟨hse, j, y, h1, h2, h3.trans e, rfl⟩
        rw [hw] at this
        cases this
    · intro h
      injection h with h
      exact ⟨by rw [e]; exact hse, n, _, List.getElem?_set_self hlt, hl, e.symm, h.symm⟩
  · rw [if_neg e, where_iff ok]
    refine and_congr_right fun hs => ⟨?_, ?_⟩
    · rintro ⟨j, y, h1, h2, h3, h4⟩
      rcases getElem?_set' h1 with ⟨_, rfl⟩ | ⟨_, h1⟩
      · exact absurd h3.symm e
      · exact ⟨j, y, h1, h2, h3, h4⟩
    · rintro ⟨j, y, h1, h2, h3, h4⟩
      have : n ≠ j := fun e' => by
        subst e'
        rw [hx] at h1
        injection h1 with h1
        subst h1
        exact hs (h3.symm.trans hn)
      exact ⟨j, y, by rw [List.getElem?_set_ne this]; exact h1, h2, h3, h4⟩
theorem zero_at {n i : Nat} {x : Pl} (h : (zeroT n)[i]? = some x) : x = ⟨0, false, E0b⟩ := by
  unfold zeroT at h
  rw [List.getElem?_replicate] at h
  split at h
  · injection h with h
    exact h.symm
  · cases h
theorem TOk.zero {n : Nat} (h1 : 1 ≤ n) (h2 : n ≤ 256) : TOk (zeroT n) where
  len := by simp [zeroT]; omega
  bd := fun i x h => by
    rw [zero_at h]
    exact ⟨⟨Int.le_refl _, by show (0 : Int) ≤ MX; decide⟩, fun h => (by cases h), fun _ => rfl, .inl rfl⟩
  un := fun i j x y hi hj hne => by
    rw [zero_at hi] at hne
    exact absurd rfl hne
theorem where_zero (n : Nat) (s : ByteArray) : whereF (zeroT n) s = none := by
  show whereG 0 (zeroT n) s = none
  cases h : whereG 0 (zeroT n) s with
  | none => rfl
  | some p =>
    obtain ⟨_, j, x, hx, ha, _⟩ := (whereG_spec (zeroT n) 0).1 p h
    rw [zero_at hx] at ha
    cases ha
end Go.Proofs.Ytlidnlcmnkagaaa
