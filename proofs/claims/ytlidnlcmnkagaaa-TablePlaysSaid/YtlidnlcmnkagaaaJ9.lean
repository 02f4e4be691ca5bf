/- Load: which lists are a table's. -/
import Derived.Test.YtlidnlcmnkagaaaJ8
namespace Go.Proofs.Ytlidnlcmnkagaaa
open Go.RowKit
set_option maxRecDepth 20000

def okGen (g : Int) : Bool := decide (0 ≤ g) && decide (g ≤ MX)
abbrev genT (gens : List Int) : List Pl := gens.map fun g => ⟨g, false, E0b⟩
/-- One who is alive, and its name: the table behind it. -/
def loadS (gens : List Int) (ahead : Int) (T : List Pl) (p : Pd) (s : ByteArray) : Option (List Pl) :=
  if p.n ≤ ahead ∨ (gens.length : Int) ≤ p.n ∨ p.g < 1 ∨ gens[p.n.toNat]? ≠ some p.g then none
  else if s = E0b then some (T.set p.n.toNat ⟨p.g, true, E0b⟩)
  else if atomF s = true ∧ whereF T s = none then some (T.set p.n.toNat ⟨p.g, true, s⟩) else none
def loadGo (gens : List Int) : List (Pd × ByteArray) → Int → List Pl → Option (List Pl)
  | [], _, T => some T
  | (p, s) :: r, ahead, T => match loadS gens ahead T p s with
    | some T' => loadGo gens r p.n T'
    | none => none
def loadF (gens : List Int) (live : List Pd) (names : List ByteArray) : Option (List Pl) :=
  if (1 ≤ gens.length ∧ gens.length ≤ 256) ∧ names.length = live.length ∧ gens.all okGen = true then loadGo gens (live.zip names) (-1) (genT gens) else none
structure LInv (gens : List Int) (ahead : Int) (T : List Pl) : Prop where
  ok : TOk T
  len : T.length = gens.length
  had : ∀ (n : Nat) (x : Pl), T[n]? = some x → gens[n]? = some x.had
  top : ∀ (n : Nat) (x : Pl), ahead < (n : Int) → T[n]? = some x → x.al = false ∧ x.nm = E0b
  low : -1 ≤ ahead
theorem gen_at {gens : List Int} {n : Nat} {x : Pl} (h : (genT gens)[n]? = some x) : ∃ g, gens[n]? = some g ∧ x = ⟨g, false, E0b⟩ := by
  rw [List.getElem?_map] at h
  cases hg : gens[n]? with
  | none => rw [hg] at h; cases h
  | some g =>
    rw [hg] at h
    injection h with h
    exact ⟨g, rfl, h.symm⟩
theorem TOk.gen {gens : List Int} (hl : 1 ≤ gens.length ∧ gens.length ≤ 256) (ha : ∀ g ∈ gens, okGen g = true) : TOk (genT gens) where
  len := by simpa using hl
  bd := fun i x h => by
    obtain ⟨g, hg, rfl⟩ := gen_at h
    have := ha g (List.mem_of_getElem? hg)
    simp only [okGen, Bool.and_eq_true, decide_eq_true_eq] at this
    exact ⟨this, fun h => (by cases h), fun _ => rfl, .inl rfl⟩
  un := fun i j x y hi hj hne => by
    obtain ⟨g, hg, rfl⟩ := gen_at hi
    exact absurd rfl hne
theorem where_dead {T : List Pl} (h : ∀ (n : Nat) (x : Pl), T[n]? = some x → x.al = false) (s : ByteArray) : whereF T s = none := by
  show whereG 0 T s = none
  cases hw : whereG 0 T s with
  | none => rfl
  | some p =>
    obtain ⟨_, j, x, hx, ha, _⟩ := (whereG_spec T 0).1 p hw
    rw [h j x hx] at ha
    cases ha
theorem LInv.start {gens : List Int} (hl : 1 ≤ gens.length ∧ gens.length ≤ 256) (ha : gens.all okGen = true) : LInv gens (-1) (genT gens) where
  ok := TOk.gen hl (List.all_eq_true.1 ha)
  len := by simp
  had := fun n x h => by
    obtain ⟨g, hg, rfl⟩ := gen_at h
    exact hg
  top := fun n x _ h => by
    obtain ⟨g, hg, rfl⟩ := gen_at h
    exact ⟨rfl, rfl⟩
  low := Int.le_refl _
/-- The place of one who may be alive, ahead of its coming. -/
theorem LInv.place {gens : List Int} {ahead : Int} {T : List Pl} (h : LInv gens ahead T) {p : Pd} (hc : ¬ (p.n ≤ ahead ∨ (gens.length : Int) ≤ p.n ∨ p.g < 1 ∨ gens[p.n.toNat]? ≠ some p.g)) :
    ∃ k : Nat, p.n = (k : Int) ∧ T[k]? = some ⟨p.g, false, E0b⟩ ∧ 1 ≤ p.g ∧ gens[k]? = some p.g ∧ ahead < (k : Int) := by
  have hlow := h.low
  obtain ⟨k, hk⟩ := Int.eq_ofNat_of_zero_le (show 0 ≤ p.n by omega)
  have hkl : k < T.length := by rw [h.len]; omega
  obtain ⟨x, hx⟩ := some_at hkl
  have h1 := h.had k x hx
  have h2 := h.top k x (by omega) hx
  have h3 : gens[k]? = some p.g := by
    by_cases hg : gens[p.n.toNat]? = some p.g
    · rw [hk, Int.toNat_natCast] at hg
      exact hg
    · exact absurd (.inr (.inr (.inr hg))) hc
  rw [h1] at h3
  injection h3 with h3
  obtain ⟨xh, xa, xn⟩ := x
  simp only at h1 h2 h3
  refine ⟨k, hk, ?_, by omega, by rw [h1, h3], by omega⟩
  rw [hx, h3, h2.1, h2.2]
/-- He is alive: still a table's, the names as they were. -/
theorem LInv.alive {gens : List Int} {ahead : Int} {T : List Pl} (h : LInv gens ahead T) {g : Int} {k : Nat} (hx : T[k]? = some ⟨g, false, E0b⟩) (hg : 1 ≤ g) (hgk : gens[k]? = some g) (ha : ahead < (k : Int)) :
    LInv gens k (T.set k ⟨g, true, E0b⟩) ∧ ∀ s, whereF (T.set k ⟨g, true, E0b⟩) s = whereF T s := by
  have hb := h.ok.bd k _ hx
  have ok2 : TOk (T.set k ⟨g, true, E0b⟩) := h.ok.set ⟨hb.1, fun _ => hg, fun h => (by cases h), .inl rfl⟩ (fun h => absurd rfl h)
  refine ⟨⟨ok2, by rw [List.length_set]; exact h.len, fun n x hn => ?_, fun n x hlt hn => ?_, by omega⟩, fun s => ?_⟩
  · rcases getElem?_set' hn with ⟨rfl, rfl⟩ | ⟨_, hn⟩
    · exact hgk
    · exact h.had n x hn
  · rcases getElem?_set' hn with ⟨rfl, rfl⟩ | ⟨_, hn⟩
    · omega
    · exact h.top n x (by omega) hn
  · apply Option.ext
    intro p
    rw [where_iff ok2, where_iff h.ok]
    refine and_congr_right fun hs => ⟨?_, ?_⟩
    · rintro ⟨j, y, h1, h2, h3, h4⟩
      rcases getElem?_set' h1 with ⟨_, rfl⟩ | ⟨_, h1⟩
      · exact absurd h3.symm hs
      · exact ⟨j, y, h1, h2, h3, h4⟩
    · rintro ⟨j, y, h1, h2, h3, h4⟩
      have : k ≠ j := fun e => by
        subst e
        rw [hx] at h1
        injection h1 with h1
        subst h1
        cases h2
      exact ⟨j, y, by rw [List.getElem?_set_ne this]; exact h1, h2, h3, h4⟩
theorem LInv.named {gens : List Int} {T : List Pl} {k : Nat} {g : Int} {s : ByteArray} (h : LInv gens k T) (hx : T[k]? = some ⟨g, true, E0b⟩) (ha : atomF s = true) (hw : whereF T s = none) : LInv gens k (T.set k ⟨g, true, s⟩) where
  ok := h.ok.nam ha hx rfl hw
  len := by rw [List.length_set]; exact h.len
  had := fun n x hn => by
    rcases getElem?_set' hn with ⟨rfl, rfl⟩ | ⟨_, hn⟩
    · exact h.had _ ⟨g, true, E0b⟩ hx
    · exact h.had n x hn
  top := fun n x hlt hn => by
    rcases getElem?_set' hn with ⟨rfl, rfl⟩ | ⟨_, hn⟩
    · omega
    · exact h.top n x hlt hn
  low := h.low
theorem E0b_atom : atomF E0b = false := atomF_nil rfl
/-- The step as the program does it: alive, then named. -/
theorem loadS_no {gens : List Int} {ahead : Int} {T : List Pl} {p : Pd} (s : ByteArray) (hc : p.n ≤ ahead ∨ (gens.length : Int) ≤ p.n ∨ p.g < 1 ∨ gens[p.n.toNat]? ≠ some p.g) : loadS gens ahead T p s = none := if_pos hc
theorem loadS_plain {gens : List Int} {ahead : Int} {T : List Pl} {p : Pd} (hc : ¬ (p.n ≤ ahead ∨ (gens.length : Int) ≤ p.n ∨ p.g < 1 ∨ gens[p.n.toNat]? ≠ some p.g)) : loadS gens ahead T p E0b = some (T.set p.n.toNat ⟨p.g, true, E0b⟩) := by
  unfold loadS
  rw [if_neg hc, if_pos rfl]
/-- What Name answers of one who has just come. -/
theorem loadS_name {gens : List Int} {ahead : Int} {T : List Pl} {p : Pd} {k : Nat} (hk : p.n = (k : Int)) {s : ByteArray} (hs : s ≠ E0b) (hc : ¬ (p.n ≤ ahead ∨ (gens.length : Int) ≤ p.n ∨ p.g < 1 ∨ gens[p.n.toNat]? ≠ some p.g))
    (hx : T[k]? = some ⟨p.g, false, E0b⟩) (hw : ∀ s, whereF (T.set k ⟨p.g, true, E0b⟩) s = whereF T s) :
    ((nameF (T.set k ⟨p.g, true, E0b⟩) p s).2 ≠ 0 ∧ loadS gens ahead T p s = none) ∨ (nameF (T.set k ⟨p.g, true, E0b⟩) p s = (T.set k ⟨p.g, true, s⟩, 0) ∧ loadS gens ahead T p s = some (T.set k ⟨p.g, true, s⟩) ∧ atomF s = true ∧ whereF T s = none) := by
  have hlt := (List.getElem?_eq_some_iff.1 hx).1
  have hf : findF (T.set k ⟨p.g, true, E0b⟩) p = some ⟨p.g, true, E0b⟩ := find_mk (by omega) (by rw [hk, Int.toNat_natCast, List.getElem?_set_self hlt]) rfl rfl
  unfold loadS nameF
  rw [if_neg hc, if_neg hs, hf]
  have e : p.n.toNat = k := by rw [hk, Int.toNat_natCast]
  cases ha : atomF s with
  | false => exact .inl ⟨by simp, by simp⟩
  | true =>
    dsimp only
    rw [hw s]
    cases hq : whereF T s with
    | some q => exact .inl ⟨by simp, by simp⟩
    | none => exact .inr ⟨by simp [e, List.set_set], by simp [e], rfl, rfl⟩

def LoadE (w : World) (r : Option (List Pl)) (e : Ending) (w' : World) : Prop := match r with
  | some T => ∃ b, e = .returned (.tuple #[ptA b, .int .i64 0]) ∧ CopyOk w T b w'
  | none => e = .returned (.tuple #[.pointer none, .int .i64 1]) ∧ Only [] w w'
/-- The table under way: all its memory is new. -/
structure Und (w : World) (b g mb cap : Nat) (T : List Pl) (wr : World) : Prop where
  rep : TRep wr b g mb cap T
  nb : w.heap.size ≤ b
  ng : w.heap.size ≤ g
  nm : w.heap.size ≤ mb
  o : Only [] w wr
theorem Und.only {w wr w' : World} {b g mb cap : Nat} {T : List Pl} (h : Und w b g mb cap T wr) (o : Only [] wr w') : Und w b g mb cap T w' := ⟨h.rep.only o (by simp) (by simp) (by simp), h.nb, h.ng, h.nm, h.o.trans o (by simp)⟩
theorem Und.free_ {w wr w' : World} {b g mb cap : Nat} {T : List Pl} {r : List Pl × Int} {e : Ending} (h : Und w b g mb cap T wr) (f : FreeE wr b g mb cap r e w') : e = .returned (.int .i64 r.2) ∧ Und w b g mb cap r.1 w' :=
  ⟨f.1, f.2.1, h.nb, h.ng, h.nm, h.o.trans f.2.2 (fun i hi => by have h1 := h.ng; have h2 := h.nm; simp at hi; omega)⟩
/-- One cell of a place turned. -/
theorem Und.put {w wr : World} {b g mb cap : Nat} {T : List Pl} (h : Und w b g mb cap T wr) {k j : Nat} {x : Pl} (x' : Pl) (hx : T[k]? = some x) (u : Value) (hj : j < 3) (he : (encL x).set j u = encL x') {q : Nat} (hq : q = k * 3 + j) (ok : TOk (T.set k x')) (hw : ∀ s, whereF (T.set k x') s = whereF T s) :
    Und w b g mb cap (T.set k x') (wr.setCell ⟨g, q, none⟩ u) := by
  have W3 : Only [g] wr (wr.setCell ⟨g, q, none⟩ u) := (Only.refl [g] wr).set (.inl (by simp)) u
  have l1 : (T.set k x').length = T.length := List.length_set ..
  refine ⟨⟨?_, ?_, ?_, ok⟩, h.nb, h.ng, h.nm, h.o.trans W3 (fun i hi => by have := h.ng; simp at hi; omega)⟩
  · rw [l1]
    exact h.rep.blk.only W3 (by have := h.rep.gb; simp; omega)
  · rw [l1]
    exact h.rep.row.put x' hx u hj he hq
  · exact (h.rep.map.only W3 (by have := h.rep.mg; simp; omega)).ext fun s => (hw s).symm
theorem OwnS.take_ {α : Type} {K : Sk α} {w : World} {base : Nat} {v : Value} {xs : List α} (h : OwnS K w base v xs) : OwnS K w base v xs := h
/-- The places behind k rounds of the first loop. -/
abbrev mixT (gens : List Int) (k : Nat) : List Pl := genT (gens.take k) ++ zeroT (gens.length - k)
theorem mix_at {gens : List Int} {k : Nat} (h : k < gens.length) : (mixT gens k)[k]? = some ⟨0, false, E0b⟩ := by
  rw [List.getElem?_append_right (by simp; omega)]
  unfold zeroT
  rw [List.getElem?_replicate, if_pos (by simp; omega)]
theorem mix_set {gens : List Int} {k : Nat} {x : Int} (h : gens[k]? = some x) : (mixT gens k).set k ⟨x, false, E0b⟩ = mixT gens (k + 1) := by
  have hk := (List.getElem?_eq_some_iff.1 h).1
  unfold mixT zeroT
  rw [List.set_append_right _ _ (by simp; omega), List.take_add_one, h, show gens.length - k = (gens.length - (k + 1)) + 1 by omega, List.replicate_succ]
  simp only [genT, List.length_map, List.length_take, Option.toList_some, List.map_append, List.map_cons, List.map_nil]
  rw [show k - min k gens.length = 0 by omega]
  simp
theorem mix_get {gens : List Int} {k n : Nat} {x : Pl} (h : (mixT gens k)[n]? = some x) : x.al = false ∧ x.nm = E0b ∧ (x.had = 0 ∨ x.had ∈ gens.take k) := by
  rcases List.mem_append.1 (List.mem_of_getElem? h) with h | h
  · obtain ⟨g, hg, rfl⟩ := List.mem_map.1 h
    exact ⟨rfl, rfl, .inr hg⟩
  · have := List.eq_of_mem_replicate h
    rw [this]
    exact ⟨rfl, rfl, .inl rfl⟩
theorem mix_ok {gens : List Int} {k : Nat} (hl : 1 ≤ gens.length ∧ gens.length ≤ 256) (hk : k ≤ gens.length) (ha : ∀ g ∈ gens.take k, okGen g = true) : TOk (mixT gens k) where
  len := by simp [zeroT]; omega
  bd := fun i x h => by
    obtain ⟨h1, h2, h3⟩ := mix_get h
    refine ⟨?_, fun h => (by rw [h1] at h; cases h), fun _ => h2, .inl h2⟩
    rcases h3 with h3 | h3
    · rw [h3]; exact ⟨Int.le_refl _, by show (0 : Int) ≤ MX; decide⟩
    · have := ha _ h3
      simp only [okGen, Bool.and_eq_true, decide_eq_true_eq] at this
      exact this
  un := fun i j x y hi hj hne => absurd (mix_get hi).2.1 hne
theorem mix_where (gens : List Int) (k : Nat) (s : ByteArray) : whereF (mixT gens k) s = none := where_dead (fun _ _ h => (mix_get h).1) s
theorem mix_zero (gens : List Int) : mixT gens 0 = zeroT gens.length := by simp [mixT]
theorem mix_full (gens : List Int) : mixT gens gens.length = genT gens := by simp [mixT, zeroT]
end Go.Proofs.Ytlidnlcmnkagaaa
