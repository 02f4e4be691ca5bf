/- The document's reader of a module: what its walk keeps.. -/
import Derived.Test.YtcdefnbehlcgeaaGreatDoorWbs
import Derived.Test.YtcdefnbehlcgeaaGreatDoorWr
set_option maxRecDepth 20000
set_option linter.unusedSimpArgs false
set_option linter.unusedVariables false
namespace Go.Proofs.YtcdefnbehlcgeaaGreatDoor
open Go.RowKit
noncomputable def KIn : DK where
 e := 55
 t := 43
 k := 11
 by' := ((Tryz.prog.info? 55).getD default).bytes
 i := (Tryz.prog.info? 55).getD default
 z := .agg ZI
 ht := Tryz.underlying43
 hi := by kernel_rfl
 hz := by kernel_rfl
 hk := by kernel_rfl
 hb := rfl
 hzs := by kernel_rfl
 h0 := by decide
 hb1 := of_decide_eq_true (by kernel_rfl)
noncomputable def KFu : DK where
 e := 45
 t := 22
 k := 4
 by' := ((Tryz.prog.info? 45).getD default).bytes
 i := (Tryz.prog.info? 45).getD default
 z := .agg ZF
 ht := Tryz.underlying22
 hi := by kernel_rfl
 hz := by kernel_rfl
 hk := by kernel_rfl
 hb := rfl
 hzs := by kernel_rfl
 h0 := by decide
 hb1 := of_decide_eq_true (by kernel_rfl)
def frmS {β : Type} (g : Nat → Rs β) (p : Nat) (bd : Int) : Rs β := if bd = -1 then g p else .bad bd.toNat
theorem frm_ok {β : Type} (g : Nat → Rs β) (p : Nat) : frmS g p (-1) = g p := rfl
theorem frm_bad {β : Type} (g : Nat → Rs β) (p t : Nat) : frmS g p (t : Int) = .bad t := by
 unfold frmS
 rw [if_neg (by omega)]
 rfl
theorem Nx.frm {α β : Type} {s : ByteArray} {V : α → Int} {r : Nat → Rs α} {p p' : Nat} {bd n bd' : Int} (h : Nx s V r p bd n p' bd') (k : α → Nat → Rs β) (k' : Nat → Rs β) (hk : ∀ x, n = V x → ∀ q, k x q = k' q) : frmS (fun p => (r p).bind k) p bd = frmS k' p' bd' := by
 rcases h with ⟨rfl, h2⟩ | ⟨t, rfl, rfl, h3⟩
 ·rw [frm_ok]
  cases hr : r p with
  | ok x q =>
   rw [hr] at h2
   obtain ⟨h3, rfl, rfl, h4⟩ := h2
   exact hk x h3 _
  | bad t =>
   rw [hr] at h2
   obtain ⟨h3, rfl⟩ := h2
   rw [frm_bad]
   rfl
 ·rw [frm_bad, frm_bad]
theorem Nx.isNat {s : ByteArray} {r : Nat → Rs Nat} {p p' : Nat} {bd n bd' : Int} (h : Nx s (fun n : Nat => (n : Int)) r p bd n p' bd') : ∃ m : Nat, n = m := by
 rcases h with ⟨h1, h2⟩ | ⟨t, h1, h2, h3⟩
 ·cases hr : r p with
  | ok x q =>
   rw [hr] at h2
   exact ⟨x, h2.1⟩
  | bad t =>
   rw [hr] at h2
   exact ⟨0, h2.1⟩
 ·exact ⟨0, h3⟩
theorem Nx.someF {α β : Type} {one : Nat → Rs α} {s : ByteArray} {p p' m : Nat} {bd bd' : Int} (f : List α → β) (h : Nx s (fun n : Nat => (n : Int)) (rLen s) p bd (m : Int) p' bd') (hg : Gd s p bd) : frmS (fun p => (rSome one s p).map f) p bd = (rFrom one m p' bd').map f := by
 obtain ⟨h1, h2⟩ := Nx.some (one := one) h
 rcases hg with ⟨rfl, -⟩ | ⟨t, rfl⟩
 ·rw [frm_ok, h1 rfl]
 ·rw [frm_bad, h2 t rfl]
  rfl
def NN (s : ByteArray) (p : Nat) (nm : ByteArray) (p' : Nat) (bd' : Int) : Prop :=
 match rName s p with
 | .ok x q => nm = x ∧ p' = q ∧ bd' = -1 ∧ q ≤ s.size
 | .bad t => bd' = (t : Int)
theorem NN.gd {s : ByteArray} {p p' : Nat} {nm : ByteArray} {bd' : Int} (h : NN s p nm p' bd') : Gd s p' bd' := by
 unfold NN at h
 cases hr : rName s p with
 | ok x q =>
  rw [hr] at h
  obtain ⟨rfl, rfl, rfl, h4⟩ := h
  exact .inl ⟨rfl, h4⟩
 | bad t =>
  rw [hr] at h
  exact .inr ⟨t, h⟩
theorem NN.frm {β : Type} {s : ByteArray} {p p' : Nat} {nm : ByteArray} {bd' : Int} (h : NN s p nm p' bd') (k : ByteArray → Nat → Rs β) : (rName s p).bind k = frmS (k nm) p' bd' := by
 unfold NN at h
 cases hr : rName s p with
 | ok x q =>
  rw [hr] at h
  obtain ⟨rfl, rfl, rfl, h4⟩ := h
  rfl
 | bad t =>
  rw [hr] at h
  have h' : bd' = (t : Int) := h
  subst h'
  rw [frm_bad]
  rfl
theorem dname_x (b : Nat) (s : ByteArray) (p : Nat) (w : World) (hb : Rdc w b s p (-1)) (hp : p ≤ s.size) (hs : s.size ≤ 262144) :
 Calls Tryz.prog 28 #[.pointer (some ⟨b, 0, none⟩)] w fun e w' => ∃ nm p' bd', e = .returned (.string nm) ∧ Rdc w' b s p' bd' ∧ Only [b] w w' ∧ NN s p nm p' bd' :=
 (dname_any b s p w hb hp hs).mono fun e w' h => by
  unfold NN
  cases hr : rName s p with
  | ok x q =>
   rw [hr] at h
   obtain ⟨h1, h2, h3, h4⟩ := h
   exact ⟨x, q, -1, h1, h2, h3, rfl, rfl, rfl, h4⟩
  | bad t =>
   rw [hr] at h
   obtain ⟨h1, ⟨q, h2⟩, h3⟩ := h
   exact ⟨⟨#[]⟩, q, t, h1, h2, h3, rfl⟩
theorem fn_from {s : ByteArray} {p p1 p2 p3 p5 m : Nat} {nm : ByteArray} {a c : Nat} {bd1 bd2 bd3 bd5 : Int} (h0 : NN s p nm p1 bd1) (h1 : Nx s (fun n : Nat => (n : Int)) (rCnt s) p1 bd1 (a : Int) p2 bd2) (h2 : Nx s (fun n : Nat => (n : Int)) (rCnt s) p2 bd2 (c : Int) p3 bd3) (h3 : Nx s (fun n : Nat => (n : Int)) (rLen s) p3 bd3 (m : Int) p5 bd5) :
 rFn s p = (rFrom (rIn s) m p5 bd5).map fun l => ⟨nm, a, c, l⟩ := by
 unfold rFn
 rw [NN.frm h0]
 refine (Nx.frm h1 (fun (x : Nat) q => (rCnt s q).bind fun (y : Nat) q => (rSome (rIn s) s q).map fun l => (⟨nm, (x : Int), (y : Int), l⟩ : Fu)) (fun q => (rCnt s q).bind fun (y : Nat) q => (rSome (rIn s) s q).map fun l => (⟨nm, (a : Int), (y : Int), l⟩ : Fu)) (fun x hx q => by rw [hx])).trans ?_
 refine (Nx.frm h2 (fun (y : Nat) q => (rSome (rIn s) s q).map fun l => (⟨nm, (a : Int), (y : Int), l⟩ : Fu)) (fun q => (rSome (rIn s) s q).map fun l => (⟨nm, (a : Int), (c : Int), l⟩ : Fu)) (fun x hx q => by rw [hx])).trans ?_
 exact Nx.someF _ h3 (Nx.gd h2)
theorem md_from {s : ByteArray} {p1 p5 m : Nat} {nm : ByteArray} {bd1 bd5 : Int} (h0 : NN s 4 nm p1 bd1) (h3 : Nx s (fun n : Nat => (n : Int)) (rLen s) p1 bd1 (m : Int) p5 bd5) :
 rMd s 4 = (rFrom (rFn s) m p5 bd5).map fun l => ⟨nm, l⟩ := by
 unfold rMd
 rw [NN.frm h0]
 exact Nx.someF _ h3 (NN.gd h0)
structure FW (f : Value → Array Value) (s : ByteArray) (b : Nat) (w0 wr : World) (lv : Value) (cs : List (Ck 11)) (p : Nat) (bad : Int) : Prop where
 bk : Bk wr w0.heap.size 45 (f lv)
 rd : Rdc wr b s p bad
 on : Only [b] w0 wr
 own : OwnC KIn wr (w0.heap.size + 1) lv cs
section
variable {f : Value → Array Value} {s : ByteArray} {b : Nat} {w0 wr w' : World} {lv lv' : Value} {cs cs' : List (Ck 11)} {p p' : Nat} {bad bad' : Int}
theorem FW.call (h : FW f s b w0 wr lv cs p bad) (o : Only [b] wr w') (r : Rdc w' b s p' bad') (hb : b < w0.heap.size) : FW f s b w0 w' lv cs p' bad' :=
 ⟨Bk.only h.bk o (by simp; omega), r, h.on.trans o (fun i hi => .inl hi), h.own.only o (fun i hi => by simp at hi; omega)⟩
theorem FW.alloc (h : FW f s b w0 wr lv cs p bad) (o : Obj) : FW f s b w0 (wr.alloc o) lv cs p bad :=
 ⟨Bk.alloc h.bk o, Bk.alloc h.rd o, h.on.alloc o, h.own.only ((Only.refl [] wr).alloc o) (by simp)⟩
theorem FW.gro (h : FW f s b w0 wr lv cs p bad) (hown : OwnC KIn w' (w0.heap.size + 1) lv' cs') (hgrow : wr.grownBy w' lv.ownBlock) (hb : b < w0.heap.size) (i : Nat) (hf : (f lv).setIfInBounds i lv' = f lv') :
 Bk w' w0.heap.size 45 (f lv) ∧ FW f s b w0 (w'.setCell ⟨w0.heap.size, i, none⟩ lv') lv' cs' p bad := by
 have o := Only.of_grown hgrow
 have hk : ∀ i ∈ lv.ownBlock.toList, w0.heap.size + 1 ≤ i := fun i hi => (h.own.block (by simpa using hi)).1
 have h1 : Bk w' w0.heap.size 45 (f lv) := h.bk.only o (fun hm => by have := hk _ hm; omega)
 have o2 : Only [w0.heap.size] w' (w'.setCell ⟨w0.heap.size, i, none⟩ lv') := (Only.refl [w0.heap.size] w').set (p := ⟨w0.heap.size, i, none⟩) (.inl (by simp)) lv'
 have h2 := Bk.set h1 i lv'
 rw [hf] at h2
 exact ⟨h1, h2, Bk.only (Bk.only h.rd o (fun hm => by have := hk _ hm; omega)) o2 (by simp; omega), (h.on.trans o (fun i hi => .inr (by have := hk i hi; omega))).set (.inr (by show w0.heap.size ≤ w0.heap.size; omega)) lv', hown.only o2 (by simp)⟩
end
def DFLp (s : ByteArray) (b : Nat) (w0 : World) (nm : ByteArray) (a c : Int) (n : Nat) (R : Rs (List In)) (iv : Value) (wr : World) : Prop :=
 ∃ (cs : List (Ck 11)) (lv : Value) (p : Nat) (bad : Int), iv = .int .i64 cs.length ∧ cs.length ≤ n ∧ FW (fun lv => #[.string nm, .int .i64 a, .int .i64 c, lv]) s b w0 wr lv cs p bad ∧
  ((bad = -1 ∧ p ≤ s.size ∧ ∃ xs : List In, xs.length = cs.length ∧ cs.flatMap (fun c => c.1) = xs.flatMap In.ds ∧ (rMany (rIn s) (n - cs.length) p).map (fun l => xs ++ l) = R) ∨ ∃ t : Nat, bad = (t : Int) ∧ R = .bad t)
def DMLp (s : ByteArray) (b m : Nat) (w : World) (nm : ByteArray) (n : Nat) (R : Rs (List Fu)) (iv : Value) (wr : World) : Prop :=
 ∃ (cs : List (Ck 4)) (lv : Value) (p : Nat) (bad : Int), iv = .int .i64 cs.length ∧ cs.length ≤ n ∧ LW KFu 24 ZM (fun lv => #[.string nm, lv]) s b m w wr lv cs p bad ∧
  ((bad = -1 ∧ p ≤ s.size ∧ ∃ xs : List Fu, xs.length = cs.length ∧ cs.flatMap (fun c => c.1) = xs.flatMap Fu.ds ∧ (rMany (rFn s) (n - cs.length) p).map (fun l => xs ++ l) = R) ∨ ∃ t : Nat, bad = (t : Int) ∧ R = .bad t)
end Go.Proofs.YtcdefnbehlcgeaaGreatDoor
