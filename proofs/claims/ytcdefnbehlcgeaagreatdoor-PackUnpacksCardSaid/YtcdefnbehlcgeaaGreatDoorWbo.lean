/- The document's reader: calls that answer a struct; rows of structs that grow, whatever the. -/
import Derived.Test.YtcdefnbehlcgeaaGreatDoorWbm
import Derived.Test.YtcdefnbehlcgeaaGreatDoorWbn
import Derived.Deep.RegionHeld3
set_option maxRecDepth 20000
set_option linter.unusedSimpArgs false
set_option linter.unusedVariables false
namespace Go.Proofs.YtcdefnbehlcgeaaGreatDoor
open Go.RowKit
def StOk {α : Type} (s : ByteArray) (ds : α → List D) (r : Rs α) (l : List D) (p : Nat) (bad : Int) : Prop :=
 match r with
 | .ok x q => l = ds x ∧ p = q ∧ bad = -1 ∧ q ≤ s.size
 | .bad q => bad = (q : Int)
def DS {α : Type} (b : Nat) (s : ByteArray) (k : Nat) (ds : α → List D) (r : Rs α) (w : World) (e : Ending) (w' : World) : Prop :=
 ∃ (us : Array Value) (l : List D) (p : Nat) (bad : Int), e = .returned (.agg us) ∧ us.size = k ∧ l.length = k ∧ (∀ d ∈ l, d.One) ∧ DVs w' (fun g => w.heap.size ≤ g) l us.toList ∧ Rdc w' b s p bad ∧ Only [b] w w' ∧ StOk s ds r l p bad
structure DSt (ty : TypeId) (zs : Array Value) (s : ByteArray) (b m : Nat) (w wr : World) (p : Nat) (bad : Int) (l : List D) (us : Array Value) : Prop where
 fr : Fr2 wr m ty zs us
 rd : Rdc wr b s p bad
 on : Only [b] w wr
 dv : DVs wr (fun g => m + 1 < g) l us.toList
section
variable {ty : TypeId} {zs us us' : Array Value} {s : ByteArray} {b m : Nat} {w wr w' : World} {p p' : Nat} {bad bad' : Int} {l l' : List D}
theorem DSt.call (h : DSt ty zs s b m w wr p bad l us) (o : Only [b] wr w') (r : Rdc w' b s p' bad') (hb : b < m) : DSt ty zs s b m w w' p' bad' l us :=
 ⟨h.fr.only o hb, r, h.on.trans o (fun i hi => .inl hi), DVs.only o (fun g hg hf => by simp at hg; omega) (fun _ h => h) h.dv⟩
theorem DSt.call0 (h : DSt ty zs s b m w wr p bad l us) (o : Only [] wr w') (hb : b < m) : DSt ty zs s b m w w' p bad l us := h.call (o.more (by simp)) (Bk.only h.rd o (by simp)) hb
theorem DSt.put (h : DSt ty zs s b m w wr p bad l us) (hm : w.heap.size = m) (hb : b < m) (i : Nat) (v : Value) (hu : us' = us.setIfInBounds i v) (hd : DVs wr (fun g => m + 1 < g) l' us'.toList) :
 DSt ty zs s b m w (wr.setCell ⟨m + 1, i, none⟩ v) p bad l' us' := by
 subst hu
 exact ⟨h.fr.set i v, Bk.away h.rd (by show b ≠ m + 1; omega) v, h.on.set (.inr (by show w.heap.size ≤ m + 1; omega)) v, DVs.only ((Only.refl [m + 1] wr).set (p := ⟨m + 1, i, none⟩) (.inl (by simp)) v) (fun g hg hf => by simp at hg; omega) (fun _ h => h) hd⟩
theorem DSt.puts (h : DSt ty zs s b m w wr p bad l us) (hm : w.heap.size = m) (hb : b < m) (i : Nat) (vs : List Value) (hu : us' = (vs.zipIdx i).foldl (fun c x => c.setIfInBounds x.2 x.1) us) (hd : DVs wr (fun g => m + 1 < g) l' us'.toList) :
 DSt ty zs s b m w (wr.setCells (m + 1) i vs) p bad l' us' := by
 subst hu
 have o2 : Only [m + 1] wr (wr.setCells (m + 1) i vs) := Only.sets (.inl (by simp)) _ _ (Only.refl _ _)
 exact ⟨Fr2.sets vs i h.fr, Bk.only h.rd o2 (by simp; omega), h.on.trans o2 (fun i hi => .inr (by simp at hi; omega)), DVs.only o2 (fun g hg hf => by simp at hg; omega) (fun _ h => h) hd⟩
theorem DSt.fin (h : DSt ty zs s b m w wr p bad l us) (hm : w.heap.size = m) (hb : b < m) (e : w' = wr.setRow m us) :
 Bk w' m ty us ∧ DVs w' (fun g => m ≤ g) l us.toList ∧ Rdc w' b s p bad ∧ Only [b] w w' := by
 obtain ⟨h1, h2⟩ := setRow_bk h.fr.o us
 subst e
 exact ⟨h1, DVs.only h2 (fun g hg hf => by simp at hg; omega) (fun g hf => by omega) h.dv, Bk.only h.rd h2 (by simp; omega), h.on.trans h2 (fun i hi => .inr (by simp at hi; omega))⟩
theorem DSt.made (hb : Rdc w b s p bad) (hd : DVs ((w.alloc (.cells zs ty)).alloc (.cells zs ty)) (fun g => w.heap.size + 1 < g) l zs.toList) : DSt ty zs s b w.heap.size w ((w.alloc (.cells zs ty)).alloc (.cells zs ty)) p bad l zs :=
 ⟨Fr2.made w ty zs, Bk.alloc (Bk.alloc hb _) _, ((Only.refl [b] w).alloc _).alloc _, hd⟩
end
theorem DVs.leaf (w : World) (F : Nat → Prop) : ∀ us : List Value, DVs w F (us.map D.v) us
 | [] => rfl
 | u :: us => ⟨u, us, rfl, DV.v.2 rfl, DVs.leaf w F us⟩
structure DK where
 e : TypeId
 t : TypeId
 k : Nat
 by' : Nat
 i : TypeInfo
 z : Value
 ht : Tryz.prog.underlying t = some (.slice e)
 hi : Tryz.prog.info? e = some i
 hz : i.zero = some z
 hk : i.size = k
 hb : i.bytes = by'
 hzs : z.cells.size = k
 h0 : 0 < k
 hb1 : by' ≤ 1024
abbrev Ck (k : Nat) : Type := {c : List D // c.length = k ∧ ∀ d ∈ c, d.One}
def OwnC (K : DK) (w : World) (base : Nat) (v : Value) (cs : List (Ck K.k)) : Prop := OwnD w base (Beh base w v) K.e K.k v cs.length (cs.flatMap fun c => c.1)
theorem OwnC.nil (K : DK) (w : World) (base : Nat) : OwnC K w base (.slice none 0 0) [] := OwnD.nil _ _ _ _ _
theorem OwnC.form {K : DK} {w : World} {base : Nat} {v : Value} {cs : List (Ck K.k)} (h : OwnC K w base v cs) : ∃ A cap, v = .slice A cs.length cap := by
 obtain ⟨us, h1, h2⟩ := OwnD.row h
 rcases h1.2 with ⟨hv, h0⟩ | ⟨g, cap, cur, hv, _⟩
 ·have h5 : cs.length = 0 := h0
  exact ⟨none, 0, by rw [hv, h5]⟩
 ·exact ⟨_, cap, hv⟩
theorem OwnC.block {K : DK} {w : World} {base : Nat} {v : Value} {cs : List (Ck K.k)} (h : OwnC K w base v cs) {g : Nat} (hg : v.ownBlock = some g) : base ≤ g ∧ g < w.heap.size := by
 obtain ⟨us, h1, h2⟩ := OwnD.row h
 exact Row.block h1 hg
theorem OwnC.only {K : DK} {w w' : World} {S : List Nat} {base : Nat} {v : Value} {cs : List (Ck K.k)} (h : OwnC K w base v cs) (o : Only S w w') (hS : ∀ b ∈ S, b < base) : OwnC K w' base v cs :=
 OwnD.only h o (fun b hb => ⟨fun hf => by have := hf.1; have := hS b hb; omega, fun hv => by have := (h.block hv).1; have := hS b hb; omega⟩) (fun b hf => ⟨hf.1, Nat.lt_of_lt_of_le hf.2.1 o.size, hf.2.2⟩) (fun g hg hf => hf.2.2 hg)
theorem flatC_len {k : Nat} (cs : List (Ck k)) : (cs.flatMap fun c => c.1).length = cs.length * k := flatD_len (fun c => c.2.1) cs
theorem OwnC.dv {K : DK} {w : World} {base : Nat} {v : Value} {cs : List (Ck K.k)} (h : OwnC K w base v cs) : DV w (fun g => base ≤ g) (.sl cs.length (cs.flatMap fun c => c.1)) v :=
 DV.more (fun g hg => by
  rcases hg with hg | hg
  ·exact hg.1
  ·exact (h.block hg).1) (OwnD.done h (flatC_len cs))
theorem step_appC (K : DK) {w : World} {ops : Array Oper} {o : Oper} {a : Act} {KK : Act → World → Prop} {Q : Exit → Act → World → Prop} {E : Prop} (hgd : o.guard = none) (s x : Operand)
 (ho : o.op = .call { callee := .builtin .append, args := #[s, x], argTypes := #[K.t, K.t] })
 {base : Nat} {v : Value} {cs : List (Ck K.k)} (hs : a.eval s = v) (hown : OwnC K w base v cs) (gb : Nat) (us : Array Value) (l : List D) (hx : a.eval x = .slice (some ⟨gb, 0, none⟩) 1 1) (hB : Bk w gb K.e us) (w1 : World) (o1 : w1.heap.size ≤ w.heap.size) (hv1 : ∀ g, v.ownBlock = some g → g < w1.heap.size) (hbase : base ≤ w1.heap.size) (hd : DVs w (fun g => w1.heap.size ≤ g) l us.toList)
 (hl : l.length = K.k) (hone : ∀ d ∈ l, d.One) (hlen : cs.length ≤ 262144) (H : Nat) (hH : w.heap.size = H)
 (h : ∀ g cap w', OwnC K w' base (.slice (some ⟨g, 0, none⟩) (cs.length + 1) cap) (cs ++ [⟨l, hl, hone⟩]) → w.grownBy w' v.ownBlock → KK (a.put o.dst (.slice (some ⟨g, 0, none⟩) (cs.length + 1) cap)) w') :
 if Region.wanted o (yielded ops a.tmps) = true then Oper.wp Tryz.prog o a w KK Q else E := by
 obtain ⟨xsC, hrow, hdv⟩ := OwnD.row hown
 have hul : us.toList.length = K.k := by rw [DVs.len hd, hl]
 have hb2 : (cs.length + 1) * K.by' ≤ 140737488355328 := Nat.le_trans (Nat.mul_le_mul (show cs.length + 1 ≤ 262145 by omega) K.hb1) (by decide)
 refine step_append_lies (P := Tryz.prog) w hgd s x K.t ho base K.e K.i K.z K.k K.by' K.ht K.hi K.hz K.hk K.hb K.hzs K.h0 v cs.length xsC hs hrow ⟨gb, 0, none⟩ 1 1 us.toList hx (by rw [hul]; omega) (row_at hB) (DVs.one hd hone) (by omega) (by unfold maxLen; omega) hb2 (Nat.le_trans hbase o1) H hH ?_
 intro g cap w' h1 h2 h3 h4
 refine h g cap w' ?_ h2
 have := own_step (ds := fun c : Ck K.k => c.1) (x := ⟨l, hl, hone⟩) (wr := w1) (w2 := w) (W4 := w) hd hbase (Only.refl _ _) hv1 hdv h1 h2 (by rcases h3 with h3 | h3; exact .inl h3; exact .inr (by omega))
 unfold OwnC
 simpa using this
theorem Fr2.onlyS {S : List Nat} {w w' : World} {m : Nat} {ty : TypeId} {zs cs : Array Value} (h : Fr2 w m ty zs cs) (o : Only S w w') (hS : ∀ i ∈ S, i < m ∨ m + 1 < i) : Fr2 w' m ty zs cs :=
 ⟨h.o.only o (fun hm => by have := hS _ hm; omega), h.t.only o (fun hm => by have := hS _ hm; omega)⟩
structure LW (K : DK) (ty : TypeId) (zs : Array Value) (f : Value → Array Value) (s : ByteArray) (b m : Nat) (w wr : World) (lv : Value) (cs : List (Ck K.k)) (p : Nat) (bad : Int) : Prop where
 fr : Fr2 wr m ty zs (f lv)
 rd : Rdc wr b s p bad
 on : Only [b] w wr
 own : OwnC K wr (m + 2) lv cs
section
variable {K : DK} {ty : TypeId} {zs : Array Value} {f : Value → Array Value} {s : ByteArray} {b m : Nat} {w wr w' : World} {lv lv' : Value} {cs cs' : List (Ck K.k)} {p p' : Nat} {bad bad' : Int}
theorem LW.call (h : LW K ty zs f s b m w wr lv cs p bad) (o : Only [b] wr w') (r : Rdc w' b s p' bad') (hb : b < m) : LW K ty zs f s b m w w' lv cs p' bad' :=
 ⟨h.fr.only o hb, r, h.on.trans o (fun i hi => .inl hi), h.own.only o (fun i hi => by simp at hi; omega)⟩
theorem LW.alloc (h : LW K ty zs f s b m w wr lv cs p bad) (o : Obj) : LW K ty zs f s b m w (wr.alloc o) lv cs p bad :=
 ⟨⟨Bk.alloc h.fr.o o, Bk.alloc h.fr.t o⟩, Bk.alloc h.rd o, h.on.alloc o, h.own.only ((Only.refl [] wr).alloc o) (by simp)⟩
theorem LW.gro (h : LW K ty zs f s b m w wr lv cs p bad) (hown : OwnC K w' (m + 2) lv' cs') (hgrow : wr.grownBy w' lv.ownBlock) (hm : w.heap.size = m) (hb : b < m) (i : Nat) (hf : (f lv).setIfInBounds i lv' = f lv') :
 Fr2 w' m ty zs (f lv) ∧ LW K ty zs f s b m w (w'.setCell ⟨m + 1, i, none⟩ lv') lv' cs' p bad := by
 have o := Only.of_grown hgrow
 have hk : ∀ i ∈ lv.ownBlock.toList, m + 2 ≤ i := fun i hi => (h.own.block (by simpa using hi)).1
 have h1 : Fr2 w' m ty zs (f lv) := h.fr.onlyS o (fun i hi => .inr (by have := hk i hi; omega))
 have o2 : Only [m + 1] w' (w'.setCell ⟨m + 1, i, none⟩ lv') := (Only.refl [m + 1] w').set (p := ⟨m + 1, i, none⟩) (.inl (by simp)) lv'
 have h2 := h1.set i lv'
 rw [hf] at h2
 exact ⟨h1, h2, Bk.only (Bk.only h.rd o (fun hm => by have := hk _ hm; omega)) o2 (by simp; omega), (h.on.trans o (fun i hi => .inr (by have := hk i hi; omega))).set (.inr (by show w.heap.size ≤ m + 1; omega)) lv', hown.only o2 (by simp)⟩
end
end Go.Proofs.YtcdefnbehlcgeaaGreatDoor
