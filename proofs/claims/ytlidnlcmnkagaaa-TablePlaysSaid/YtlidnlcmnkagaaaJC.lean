/- The law TableNames: its mathematics, its first loop. -/
import Derived.Test.YtlidnlcmnkagaaaJB
namespace Go.Proofs.Ytlidnlcmnkagaaa
open Go.RowKit
set_option maxRecDepth 20000

structure Nm where
  a : Int
  s : ByteArray
  e : Bool
def Nm.ok (x : Nm) : Prop := x.s.size ≤ 140737488351232
def encN (x : Nm) : List Value := [.int .i64 x.a, .string x.s, .bool x.e]
def kN : List Kd := [.i, .s, .b]
theorem decN {w : World} (cs : List Value) (h : Oks w kN cs) : ∃ a : Nm, a.ok ∧ cs = encN a := by
  simp only [kN, Oks, Kd.ok] at h
  obtain ⟨_, _, rfl, ⟨n, rfl, hn⟩, _, _, rfl, ⟨g, rfl, hg⟩, _, _, rfl, ⟨e, rfl⟩, rfl⟩ := h
  exact ⟨⟨n, g, e⟩, hg, rfl⟩
noncomputable def KN : Sk Nm where
  e := 67
  t := 64
  k := 3
  by' := 32
  i := (Try.prog.info? 67).getD default
  z := .agg #[.int .i64 0, .string E0b, .bool false]
  enc := encN
  ht := Try.underlying64
  hi := by kernel_rfl
  hz := by kernel_rfl
  hk := by kernel_rfl
  hb := by kernel_rfl
  hzs := rfl
  h0 := by decide
  hb0 := by decide
  henc := fun _ => rfl
  hone := fun a u hu => by
    simp only [encN, List.mem_cons, List.not_mem_nil, or_false] at hu
    rcases hu with rfl | rfl | rfl <;> rfl
theorem RdNm.at3 {w : World} {A : Option Addr} {xs : List Nm} (h : RdS KN w A xs) (h0 : 0 < xs.length) : ∃ bl off, A = some ⟨bl, off, none⟩ ∧ bl < w.heap.size ∧ ∀ (i : Nat) (x : Nm), xs[i]? = some x →
    w.cell? ⟨bl, off + i * 3, none⟩ = some (.int .i64 x.a) ∧ w.cell? ⟨bl, off + i * 3 + 1, none⟩ = some (.string x.s) ∧ w.cell? ⟨bl, off + i * 3 + 2, none⟩ = some (.bool x.e) := by
  obtain ⟨bl, off, e, hb, hc⟩ := h.form h0
  exact ⟨bl, off, e, hb, fun i x hx => ⟨hc i x hx 0 _ rfl, hc i x hx 1 _ rfl, hc i x hx 2 _ rfl⟩⟩

theorem u64_nonneg (x : Int) : 0 ≤ IntKind.u64.wrap x := by
  unfold IntKind.wrap
  simp [IntKind.signed, IntKind.bits]
  exact Int.emod_nonneg _ (by decide)
theorem uint_mod (n : Nat) (hn : 0 < n) (hn2 : n ≤ 1000) (x : Int) : ∃ k : Nat, k < n ∧ wrap64 ((IntKind.u64.wrap x).tmod n) = (k : Int) := by
  have h := u64_nonneg x
  rw [Int.tmod_eq_emod_of_nonneg h]
  have h1 := Int.emod_nonneg (IntKind.u64.wrap x) (show (n : Int) ≠ 0 by omega)
  have h2 := Int.emod_lt_of_pos (IntKind.u64.wrap x) (show (0 : Int) < (n : Int) by omega)
  rw [wrap64_in (by omega) (by omega)]
  exact ⟨(IntKind.u64.wrap x % (n : Int)).toNat, by omega, by omega⟩

/-- Rows of other things lie apart from a table. -/
theorem OwnS.apartB {α : Type} {K : Sk α} {w : World} {base : Nat} {v : Value} {xs : List α} (h : OwnS K w base v xs) {g : Nat} {t : TypeId} {cs : Array Value} (k : Bk w g t cs) (hne : K.e ≠ t) : g ∉ v.ownBlock.toList := by
  intro hm
  have hv : v.ownBlock = some g := by simpa using hm
  rcases h.2 with ⟨e, _⟩ | ⟨g', cap, cur, rfl, hb, hg', _⟩
  · rw [e] at hv; cases hv
  · injection hv with hv
    subst hv
    exact Bk.apart (t := K.e) (cs := cur) hg' k hne rfl
theorem OwnS.apartM {α : Type} {K : Sk α} {w : World} {base : Nat} {v : Value} {xs : List α} (h : OwnS K w base v xs) {m : Nat} {f : ByteArray → Option Pd} (k : MapIs w m f) : m ∉ v.ownBlock.toList := by
  intro hm
  have hv : v.ownBlock = some m := by simpa using hm
  rcases h.2 with ⟨e, _⟩ | ⟨g', cap, cur, rfl, hb, hg', _⟩
  · rw [e] at hv; cases hv
  · injection hv with hv
    subst hv
    exact k.apart (t := K.e) (cs := cur) hg' rfl
/-- A row beside a table: neither turns the other. -/
theorem TRep.beside {α : Type} {K : Sk α} {w : World} {b g mb cap base : Nat} {T : List Pl} {v : Value} {xs : List α} (h : TRep w b g mb cap T) (r : OwnS K w base v xs) (h1 : K.e ≠ 83) (h2 : K.e ≠ 79) :
    b ∉ v.ownBlock.toList ∧ g ∉ v.ownBlock.toList ∧ mb ∉ v.ownBlock.toList := by
  obtain ⟨cur, hc⟩ := h.row.obj
  exact ⟨r.apartB h.blk h1, r.apartB hc h2, r.apartM h.map⟩
theorem OwnS.byTable {α : Type} {K : Sk α} {w w' : World} {b g mb cap base : Nat} {T : List Pl} {v : Value} {xs : List α} (r : OwnS K w base v xs) (h : TRep w b g mb cap T) (h1 : K.e ≠ 83) (h2 : K.e ≠ 79) (o : Only [g, mb] w w') : OwnS K w' base v xs :=
  r.only o fun g' e hm => by
    obtain ⟨_, k2, k3⟩ := h.beside r h1 h2
    simp only [List.mem_cons, List.not_mem_nil, or_false] at hm
    rcases hm with rfl | rfl
    · exact k2 (by simp [e])
    · exact k3 (by simp [e])
theorem Und.byRow {α : Type} {K : Sk α} {w wr w' : World} {b g mb cap base : Nat} {T : List Pl} {v : Value} {xs : List α} (h : Und w b g mb cap T wr) (r : OwnS K wr base v xs) (h1 : K.e ≠ 83) (h2 : K.e ≠ 79) (hg : wr.grownBy w' v.ownBlock) (hb : w.heap.size ≤ base) : Und w b g mb cap T w' := by
  obtain ⟨k1, k2, k3⟩ := h.rep.beside r h1 h2
  exact ⟨h.rep.only (Only.of_grown hg) k1 k2 k3, h.nb, h.ng, h.nm, r.goes hg h.o hb⟩

/-! ### Eight actors -/
def A8 (i : Nat) : List Pl := List.replicate i ⟨1, true, E0b⟩ ++ List.replicate (8 - i) ⟨0, false, E0b⟩
def l8 : List Pd := (List.range 8).map fun (i : Nat) => ⟨(i : Int), 1⟩
theorem A8_add : ∀ i, i < 8 → addF (A8 i) = (A8 (i + 1), ⟨(i : Nat), 1⟩, 0) := by decide +kernel
theorem A8_zero : A8 0 = zeroT 8 := rfl
theorem l8_at {k : Nat} (h : k < 8) : l8[k]? = some ⟨(k : Nat), 1⟩ := by simp [l8, h]
theorem l8_take {k : Nat} (h : k < 8) : l8.take (k + 1) = l8.take k ++ [⟨(k : Nat), 1⟩] := by
  rw [List.take_add_one, l8_at h]
  rfl
structure N8 (T : List Pl) : Prop where
  ok : TOk T
  len : T.length = 8
  had : ∀ (n : Nat) (x : Pl), T[n]? = some x → x.had = 1
theorem N8.start : N8 (A8 8) where
  ok := by
    have h := TOk.zero (n := 8) (by omega) (by omega)
    have e : ∀ i, i ≤ 8 → TOk (A8 i) := fun i => by
      induction i with
      | zero => intro _; exact h
      | succ i ih =>
        intro hi
        have := (ih (by omega)).add
        rwa [A8_add i (by omega)] at this
    exact e 8 (Nat.le_refl _)
  len := rfl
  had := fun n x h => by
    have : x ∈ A8 8 := List.mem_of_getElem? h
    have h2 := List.eq_of_mem_replicate (show x ∈ List.replicate 8 (⟨1, true, E0b⟩ : Pl) by simpa [A8] using this)
    rw [h2]
theorem N8.free {T : List Pl} (h : N8 T) (p : Pd) : N8 (freeF T p).1 where
  ok := h.ok.free p
  len := by
    unfold freeF
    split
    · rw [List.length_set]; exact h.len
    · exact h.len
  had := fun n x hx => by
    unfold freeF at hx
    split at hx
    · rename_i y hy
      obtain ⟨_, hy2, _, _⟩ := find_some hy
      rcases getElem?_set' hx with ⟨_, rfl⟩ | ⟨_, hx⟩
      · exact h.had _ y hy2
      · exact h.had n x hx
    · exact h.had n x hx
theorem N8.name {T : List Pl} (h : N8 T) (p : Pd) (s : ByteArray) : N8 (nameF T p s).1 where
  ok := h.ok.name p s
  len := by
    unfold nameF
    split
    · exact h.len
    · split
      · exact h.len
      · split
        · exact h.len
        · rw [List.length_set]; exact h.len
  had := fun n x hx => by
    unfold nameF at hx
    split at hx
    · exact h.had n x hx
    · split at hx
      · exact h.had n x hx
      · rename_i y hy
        split at hx
        · exact h.had n x hx
        · obtain ⟨_, hy2, _, _⟩ := find_some hy
          rcases getElem?_set' hx with ⟨_, rfl⟩ | ⟨_, hx⟩
          · exact h.had _ y hy2
          · exact h.had n x hx
/-- What a naming does, as the law asks. -/
theorem name_yes {T : List Pl} {p : Pd} {s : ByteArray} (h : (nameF T p s).2 = 0) : nameOfF T p = E0b ∧ isF T p = true ∧ nameOfF (nameF T p s).1 p = s := by
  unfold nameF at h ⊢
  split at h
  · cases h
  · rename_i ha
    rw [if_neg ha]
    split at h
    · cases h
    · rename_i x hx
      split at h
      · cases h
      · rename_i hc
        rw [if_neg hc]
        obtain ⟨h0, hx2, hal, hg⟩ := find_some hx
        have hnm : x.nm = E0b := by
          by_cases e : x.nm = E0b
          · exact e
          · exact absurd (.inr e) hc
        refine ⟨by unfold nameOfF; rw [hx]; exact hnm, by unfold isF; rw [hx]; rfl, ?_⟩
        have hlt := (List.getElem?_eq_some_iff.1 hx2).1
        unfold nameOfF
        have e := find_mk (T := T.set p.n.toNat ⟨x.had, x.al, s⟩) (p := p) h0 (List.getElem?_set_self hlt) hal hg
        dsimp only
        rw [e]
theorem name_not {T : List Pl} {p : Pd} {s : ByteArray} (h : (nameF T p s).2 ≠ 0) : (nameF T p s).1 = T := by
  unfold nameF at h ⊢
  split at h
  · rename_i ha; rw [if_pos ha]
  · rename_i ha
    rw [if_neg ha]
    split at h
    · rfl
    · rename_i x hx
      split at h
      · rename_i hc; rw [if_pos hc]
      · exact absurd rfl h
/-- A name leads to whom it is of. -/
theorem N8.back {T : List Pl} (h : N8 T) {k : Nat} (hne : nameOfF T ⟨(k : Nat), 1⟩ ≠ E0b) : whereF T (nameOfF T ⟨(k : Nat), 1⟩) = some ⟨(k : Nat), 1⟩ ∧ isF T ⟨(k : Nat), 1⟩ = true := by
  cases hf : findF T ⟨(k : Nat), 1⟩ with
  | none => exact absurd (by unfold nameOfF; rw [hf]) hne
  | some x =>
    obtain ⟨h0, hx, hal, hg⟩ := find_some hf
    dsimp only at hx hg
    rw [Int.toNat_natCast] at hx
    have e : nameOfF T ⟨(k : Nat), 1⟩ = x.nm := by unfold nameOfF; rw [hf]
    refine ⟨?_, by unfold isF; rw [hf]; rfl⟩
    rw [e] at hne ⊢
    exact (where_iff h.ok).2 ⟨hne, k, x, hx, hal, rfl, by rw [hg]⟩
end Go.Proofs.Ytlidnlcmnkagaaa
