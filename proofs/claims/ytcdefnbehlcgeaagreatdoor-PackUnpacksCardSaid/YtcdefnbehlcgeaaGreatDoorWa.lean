/- Own base: a block known whole (Bk), which blocks may have turned (Only), a slice that read. Reading bytes: what both readers of layer 8 do. Bits as numbers: what a count's bytes come to. Values in memory as trees: one that is looked at whole, a slice of such; whatever they are. A region that draws its order, whose first n operations only read (calls may draw), and wh. A scope whose gotos lead on, to one label behind: the run goes on at the label at once. The program's reader: a count.. -/
import Derived.Test.YtcdefnbehlcgeaaGreatDoorRows
import Derived.WalkKit
import Derived.WalkSpells
import Derived.WalkLawsBesides
import Derived.Deep.QuietTactic
import Derived.BigQuiet
import Derived.StillTailTactics
import Derived.Deep.RegionHeld3
import Derived.Deep.DeepCutAuto
import Derived.Lib.Hide
import Derived.IntWalk
import Derived.Deep.OwnRows
import Derived.KernelRfl
import Derived.Laws.BitsLemmas
import Derived.Laws.BitsAllLaws
import Derived.Deep.AppendLies
import Derived.StillTail
import Derived.WalkMore
import Derived.ScopeJumps
set_option maxHeartbeats 2000000
set_option maxRecDepth 20000
namespace Go.Proofs.YtcdefnbehlcgeaaGreatDoor
open Go.RowKit
def Bk (w : World) (g : Nat) (t : TypeId) (cs : Array Value) : Prop := w.heap[g]? = some (.cells cs t (0, 0))
theorem Bk.lt {w : World} {g : Nat} {t : TypeId} {cs : Array Value} (h : Bk w g t cs) : g < w.heap.size := by
 by_cases hg : g < w.heap.size
 ·exact hg
 ·unfold Bk at h
  rw [Array.getElem?_eq_none (by omega)] at h
  cases h
theorem Bk.cell {w : World} {g : Nat} {t : TypeId} {cs : Array Value} (h : Bk w g t cs) (i : Nat) : w.cell? ⟨g, i, none⟩ = cs[i]? := by
 unfold Bk at h
 simp [World.cell?, h]
theorem Bk.cell0 {w : World} {g : Nat} {t : TypeId} {cs : Array Value} {i : Nat} {v : Value} (h : Bk w g t cs) (hv : cs[i]? = some v) : w.cell? ⟨g, i, none⟩ = some v := (h.cell i).trans hv
theorem Bk.free {w : World} {g : Nat} {t : TypeId} {cs : Array Value} (h : Bk w g t cs) (i : Nat) : w.frozen? ⟨g, i, none⟩ = false := by
 unfold Bk at h
 simp [World.frozen?, h]
theorem Bk.uniq {w : World} {g : Nat} {t t' : TypeId} {cs cs' : Array Value} (h : Bk w g t cs) (h' : Bk w g t' cs') : t = t' ∧ cs = cs' := by
 unfold Bk at h h'
 rw [h] at h'
 injection h' with h'
 injection h' with h1 h2
 exact ⟨h2, h1⟩
theorem Bk.apart {w : World} {g g' : Nat} {t t' : TypeId} {cs cs' : Array Value} (h : Bk w g t cs) (h' : Bk w g' t' cs') (hne : t ≠ t') : g ≠ g' := by
 rintro rfl
 exact hne (h.uniq h').1
theorem Bk.made (w : World) (t : TypeId) (cs : Array Value) : Bk (w.alloc (.cells cs t)) w.heap.size t cs := by
 unfold Bk World.alloc
 simp
theorem Bk.alloc {w : World} {g : Nat} {t : TypeId} {cs : Array Value} (h : Bk w g t cs) (o : Obj) : Bk (w.alloc o) g t cs :=
 (Below.heap_alloc w o g h.lt).trans h
theorem Bk.drew {w : World} {g : Nat} {t : TypeId} {cs : Array Value} (h : Bk w g t cs) : Bk w.drew g t cs := h
theorem Bk.drewN {w : World} {g : Nat} {t : TypeId} {cs : Array Value} (h : Bk w g t cs) (n : Nat) : Bk (w.drewN n) g t cs := h
theorem Bk.set {w : World} {g : Nat} {t : TypeId} {cs : Array Value} (h : Bk w g t cs) (i : Nat) (u : Value) : Bk (w.setCell ⟨g, i, none⟩ u) g t (cs.setIfInBounds i u) := by
 unfold Bk at h ⊢
 simp [World.setCell, Array.getElem?_modify, h]
theorem Bk.away {w : World} {g : Nat} {t : TypeId} {cs : Array Value} (h : Bk w g t cs) {p : Addr} (hp : g ≠ p.block) (u : Value) : Bk (w.setCell p u) g t cs :=
 (Below.heap_setCell w p u g hp).trans h
theorem Bk.same {w w' : World} {g : Nat} {t : TypeId} {cs : Array Value} (h : Bk w g t cs) (e : w'.heap[g]? = w.heap[g]?) : Bk w' g t cs := e.trans h
structure Only (S : List Nat) (w w' : World) : Prop where
 os : w'.os = w.os
 tape : w'.tape = w.tape
 output : w'.output = w.output
 size : w.heap.size ≤ w'.heap.size
 block : ∀ k, k < w.heap.size → k ∉ S → w'.heap[k]? = w.heap[k]?
theorem Only.refl (S : List Nat) (w : World) : Only S w w := ⟨rfl, rfl, rfl, Nat.le_refl _, fun _ _ _ => rfl⟩
theorem Only.more {S T : List Nat} {w w' : World} (h : Only S w w') (hst : ∀ k ∈ S, k ∈ T ∨ w.heap.size ≤ k) : Only T w w' :=
 ⟨h.os, h.tape, h.output, h.size, fun k hk hn => h.block k hk fun hs => by
  rcases hst k hs with h1 | h1
  ·exact hn h1
  ·omega⟩
theorem Only.trans {S T : List Nat} {a b c : World} (h : Only S a b) (k : Only T b c) (hst : ∀ i ∈ T, i ∈ S ∨ a.heap.size ≤ i) : Only S a c :=
 ⟨k.os.trans h.os, k.tape.trans h.tape, k.output.trans h.output, Nat.le_trans h.size k.size, fun i hi hn =>
  (k.block i (Nat.lt_of_lt_of_le hi h.size) fun ht => by
    rcases hst i ht with h1 | h1
    ·exact hn h1
    ·omega).trans (h.block i hi hn)⟩
theorem Only.alloc {S : List Nat} {a w : World} (h : Only S a w) (o : Obj) : Only S a (w.alloc o) :=
 ⟨h.os, h.tape, h.output, Nat.le_trans h.size (by simp), fun k hk hn => (Below.heap_alloc w o k (Nat.lt_of_lt_of_le hk h.size)).trans (h.block k hk hn)⟩
theorem Only.drew {S : List Nat} {a w : World} (h : Only S a w) : Only S a w.drew := ⟨h.os, h.tape, h.output, h.size, h.block⟩
theorem Only.drewN {S : List Nat} {a w : World} (h : Only S a w) (n : Nat) : Only S a (w.drewN n) := ⟨h.os, h.tape, h.output, h.size, h.block⟩
theorem Only.set {S : List Nat} {a w : World} (h : Only S a w) {p : Addr} (hp : p.block ∈ S ∨ a.heap.size ≤ p.block) (u : Value) : Only S a (w.setCell p u) :=
 ⟨h.os, h.tape, h.output, by simpa [World.setCell] using h.size, fun k hk hn => (Below.heap_setCell w p u k (by
  rintro rfl
  rcases hp with hp | hp
  ·exact hn hp
  ·omega)).trans (h.block k hk hn)⟩
theorem Only.of_below {S : List Nat} {w w' : World} (h : Below w.heap.size w w') : Only S w w' := ⟨h.os, h.tape, h.output, h.size, fun k hk _ => h.block k hk⟩
theorem Only.below {w w' : World} (h : Only [] w w') : Below w.heap.size w w' := ⟨h.os, h.tape, h.output, h.size, fun k hk => h.block k hk (by simp)⟩
theorem Only.of_grown {w w' : World} {row : Option Nat} (h : w.grownBy w' row) : Only row.toList w w' :=
 ⟨h.os, h.tape, h.output, h.size, fun k hk hn => h.block k hk (by rintro rfl; simp at hn)⟩
theorem Bk.only {S : List Nat} {w w' : World} {g : Nat} {t : TypeId} {cs : Array Value} (h : Bk w g t cs) (ho : Only S w w') (hg : g ∉ S) : Bk w' g t cs :=
 (ho.block g h.lt hg).trans h
theorem Only.cell {S : List Nat} {w w' : World} (h : Only S w w') {p : Addr} (hp : p.block < w.heap.size) (hn : p.block ∉ S) : w'.cell? p = w.cell? p :=
 World.cell?_of_block (h.block _ hp hn)
theorem wrapEq (x : Int) : IntKind.i64.wrap x = wrap64 x := IntWalk.i64_left x
theorem wrap64_in {x : Int} (h1 : -9223372036854775808 ≤ x) (h2 : x ≤ 9223372036854775807) : wrap64 x = x := IntWalk.wrap64_in x ⟨h1, h2⟩
open Go
inductive Rs (α : Type) where
 | ok (x : α) (q : Nat) | bad (q : Nat)
def Rs.bind {α β : Type} (r : Rs α) (f : α → Nat → Rs β) : Rs β :=
 match r with
 | .ok x q => f x q
 | .bad q => .bad q
def Rs.map {α β : Type} (f : α → β) (r : Rs α) : Rs β := r.bind fun x q => .ok (f x) q
def cntGo (s : ByteArray) : Nat → Nat → Nat → Nat → Option (Nat × Nat)
 | 0, _, _, _ => none
 | f + 1, k, p, n =>
  if h : p < s.size then
   if (s[p]'h).toNat < 128 then
    if (s[p]'h).toNat = 0 ∧ 0 < k then none else some (n + (s[p]'h).toNat * 2 ^ (7 * k), p + 1)
   else cntGo s f (k + 1) (p + 1) (n + ((s[p]'h).toNat % 128) * 2 ^ (7 * k))
  else none
def cnt (s : ByteArray) (p : Nat) : Option (Nat × Nat) := cntGo s 9 0 p 0
theorem pow7 (k : Nat) : (2 : Nat) ^ (7 * (k + 1)) = 128 * 2 ^ (7 * k) := by rw [Nat.mul_succ, Nat.pow_add]; omega
theorem cntGo_bd {s : ByteArray} : ∀ {f k p n v q : Nat}, cntGo s f k p n = some (v, q) → n < 2 ^ (7 * k) → f + k = 9 → v < 9223372036854775808 ∧ p < q ∧ q ≤ s.size
 | 0, _, _, _, _, _, h, _, _ => by cases h
 | f + 1, k, p, n, v, q, h, hn, hf => by
  unfold cntGo at h
  split at h
  ·rename_i hp
   have hpos : 0 < 2 ^ (7 * k) := Nat.two_pow_pos _
   split at h
   ·rename_i hb
    split at h
    ·cases h
    ·injection h with h
     injection h with h1 h2
     subst h1 h2
     refine ⟨?_, by omega, by omega⟩
     have h9 : (2 : Nat) ^ (7 * (k + 1)) ≤ 2 ^ 63 := Nat.pow_le_pow_right (by omega) (by omega)
     rw [pow7] at h9
     have : (s[p]'hp).toNat * 2 ^ (7 * k) ≤ 127 * 2 ^ (7 * k) := Nat.mul_le_mul_right _ (by omega)
     omega
   ·have := cntGo_bd h (by
     rw [pow7]
     have : (s[p]'hp).toNat % 128 * 2 ^ (7 * k) ≤ 127 * 2 ^ (7 * k) := Nat.mul_le_mul_right _ (by omega)
     omega) (by omega)
    exact ⟨this.1, by omega, this.2.2⟩
  ·cases h
theorem cnt_bd {s : ByteArray} {p v q : Nat} (h : cnt s p = some (v, q)) : v < 9223372036854775808 ∧ p < q ∧ q ≤ s.size := cntGo_bd h (by simp) rfl
def rCnt (s : ByteArray) (p : Nat) : Rs Nat :=
 match cnt s p with
 | some (n, q) => .ok n q
 | none => .bad p
def rFit (fits : Nat → Nat → Bool) (s : ByteArray) (p : Nat) : Rs Nat :=
 match cnt s p with
 | some (n, q) => if fits n q = true then .ok n q else .bad p
 | none => .bad p
def rOne (most : Nat) (s : ByteArray) (p : Nat) : Rs Nat := rFit (fun n _ => decide (1 ≤ n ∧ n ≤ most)) s p
def rLen (s : ByteArray) (p : Nat) : Rs Nat := rFit (fun n q => decide (n ≤ s.size - q)) s p
def sgnd (n : Nat) : Int := if n % 2 = 0 then (n / 2 : Nat) else -((n / 2 : Nat) : Int) - 1
def rNum (s : ByteArray) (p : Nat) : Rs Int := (rCnt s p).map sgnd
def rPart (s : ByteArray) (p : Nat) : Rs Int := (rFit (fun n _ => decide (-1073741824 ≤ sgnd n ∧ sgnd n ≤ 1073741824)) s p).map sgnd
def rName (s : ByteArray) (p : Nat) : Rs ByteArray := (rLen s p).bind fun n q => .ok (s.extract q (q + n)) (q + n)
def rMany {α : Type} (one : Nat → Rs α) : Nat → Nat → Rs (List α)
 | 0, p => .ok [] p
 | n + 1, p => (one p).bind fun x q => (rMany one n q).bind fun l r => .ok (x :: l) r
def rSome {α : Type} (one : Nat → Rs α) (s : ByteArray) (p : Nat) : Rs (List α) := (rLen s p).bind fun n q => rMany one n q
open Go Go.RowKit
theorem and127 (c : Nat) (h : c < 256) : bits .and .u8 (c : Int) 127 = ((c % 128 : Nat) : Int) := by
 have := u8_and_nat c 127 h (by decide)
 rw [show ((127 : Nat) : Int) = 127 from rfl] at this
 rw [this]
 congr 1
 exact Nat.and_two_pow_sub_one_eq_mod c 7
theorem wrap_in {n : Int} (h : -9223372036854775808 ≤ n ∧ n ≤ 9223372036854775807) : wrap64 n = n := by unfold wrap64; omega
theorem cnt_val {c k n : Nat} (hc : c < 256) (hk : k < 9) (hn : n < 2 ^ (7 * k)) :
 bits .or .i64 (n : Int) (wrap64 (wrap64 (bits .and .u8 (c : Int) 127) * 2 ^ (7 * k))) = ((n + c % 128 * 2 ^ (7 * k) : Nat) : Int) := by
 have h9 : (2 : Nat) ^ (7 * (k + 1)) ≤ 2 ^ 63 := Nat.pow_le_pow_right (by omega) (by omega)
 have h7 : (2 : Nat) ^ (7 * (k + 1)) = 128 * 2 ^ (7 * k) := by rw [Nat.mul_succ, Nat.pow_add]; omega
 have hm : c % 128 * 2 ^ (7 * k) ≤ 127 * 2 ^ (7 * k) := Nat.mul_le_mul_right _ (by omega)
 have h63 : (2 : Nat) ^ 63 = 9223372036854775808 := by decide
 have e : wrap64 ((c % 128 : Nat) : Int) * 2 ^ (7 * k) = ((c % 128 * 2 ^ (7 * k) : Nat) : Int) := by
  rw [wrap_in (by omega)]
  push_cast
  rfl
 rw [and127 c hc, e, wrap_in (by omega)]
 rw [show bits .or .i64 (n : Int) ((c % 128 * 2 ^ (7 * k) : Nat) : Int) = bits .or .i64 ((c % 128 * 2 ^ (7 * k) : Nat) : Int) (n : Int) by simp only [bits, BitVec.or_comm]]
 rw [bits_join .i64 63 (by decide) (fun x h0 h1 => by rw [IntKind.wrap_i64]; omega) (7 * k) _ _ (by omega) ?_ ?_ (by omega) ?_ ?_]
 ·omega
 ·have : c % 128 * 2 ^ (7 * k) % 2 ^ (7 * k) = 0 := Nat.mul_mod_left _ _
  exact_mod_cast this
 ·have : c % 128 * 2 ^ (7 * k) < 2 ^ 63 := by omega
  exact_mod_cast this
 ·exact_mod_cast hn
 ·have : n < 2 ^ 63 := by omega
  exact_mod_cast this
open Go.RowKit
inductive D where
 | v (x : Value) | sl (n : Nat) (l : List D)
theorem D.ind {P : D → Prop} (leaf : ∀ x, P (.v x)) (sl : ∀ n l, (∀ d ∈ l, P d) → P (.sl n l)) (d : D) : P d :=
 D.rec (motive_1 := P) (motive_2 := fun l => ∀ d ∈ l, P d) leaf (fun n l h => sl n l h) (by simp) (fun d l h1 h2 => by
  intro u hu
  rcases List.mem_cons.1 hu with rfl | hu
  ·exact h1
  ·exact h2 u hu) d
mutual
def DV (w : World) (F : Nat → Prop) : D → Value → Prop
 | .v x, u => u = x
 | .sl n l, u => ∃ (A : Option Addr) (cap : Nat), u = .slice A n cap ∧ n ≤ cap ∧ cap ≤ 9223372036854775807 ∧ (n = 0 ∧ l = [] ∨ ∃ bl off, A = some ⟨bl, off, none⟩ ∧ bl < w.heap.size ∧ F bl ∧ DCs w F l bl off)
def DCs (w : World) (F : Nat → Prop) : List D → Nat → Nat → Prop
 | [], _, _ => True
 | d :: l, bl, off => (∃ u, DV w F d u ∧ w.cell? ⟨bl, off, none⟩ = some u) ∧ DCs w F l bl (off + 1)
end
def DVs (w : World) (F : Nat → Prop) : List D → List Value → Prop
 | [], us => us = []
 | d :: l, us => ∃ u r, us = u :: r ∧ DV w F d u ∧ DVs w F l r
theorem DV.v {w : World} {F : Nat → Prop} {x u : Value} : DV w F (.v x) u ↔ u = x := by simp only [DV]
theorem DCs.iff {w : World} {F : Nat → Prop} {l : List D} : ∀ {bl off : Nat}, DCs w F l bl off ↔ ∀ i d, l[i]? = some d → ∃ u, DV w F d u ∧ w.cell? ⟨bl, off + i, none⟩ = some u := by
 induction l with
 | nil => intro bl off; simp [DCs]
 | cons d l ih =>
  intro bl off
  simp only [DCs]
  rw [ih]
  constructor
  ·rintro ⟨h1, h2⟩ i u hu
   cases i with
   | zero =>
    simp at hu
    subst hu
    simpa using h1
   | succ i =>
    obtain ⟨u', h3, h4⟩ := h2 i u (by simpa using hu)
    exact ⟨u', h3, by rw [show off + (i + 1) = off + 1 + i by omega]; exact h4⟩
  ·intro h
   refine ⟨by simpa using h 0 d rfl, fun i u hu => ?_⟩
   obtain ⟨u', h3, h4⟩ := h (i + 1) u (by simpa using hu)
   exact ⟨u', h3, by rw [show off + 1 + i = off + (i + 1) by omega]; exact h4⟩
theorem DV.only {S : List Nat} {w w' : World} {F F' : Nat → Prop} (o : Only S w w') (hS : ∀ b ∈ S, ¬ F b) (hF : ∀ b, F b → F' b) (d : D) : ∀ u, DV w F d u → DV w' F' d u := by
 refine D.ind (P := fun d => ∀ u, DV w F d u → DV w' F' d u) (fun x u h => DV.v.2 (DV.v.1 h)) (fun n l ih u h => ?_) d
 simp only [DV] at h ⊢
 obtain ⟨A, cap, h1, h2, h3, h4⟩ := h
 refine ⟨A, cap, h1, h2, h3, ?_⟩
 rcases h4 with h4 | ⟨bl, off, h5, h6, h7, h8⟩
 ·exact .inl h4
 ·refine .inr ⟨bl, off, h5, Nat.lt_of_lt_of_le h6 o.size, hF _ h7, ?_⟩
  rw [DCs.iff] at h8 ⊢
  intro i u hu
  obtain ⟨u', h9, h10⟩ := h8 i u hu
  exact ⟨u', ih u (List.mem_of_getElem? hu) u' h9, (o.cell (p := ⟨bl, off + i, none⟩) h6 (fun hm => hS _ hm h7)).trans h10⟩
theorem DVs.only {S : List Nat} {w w' : World} {F F' : Nat → Prop} (o : Only S w w') (hS : ∀ b ∈ S, ¬ F b) (hF : ∀ b, F b → F' b) : ∀ {l : List D} {us : List Value}, DVs w F l us → DVs w' F' l us
 | [], _, h => h
 | d :: _, _, h => by
  obtain ⟨u, r, e, h1, h2⟩ := h
  exact ⟨u, r, e, DV.only o hS hF d u h1, DVs.only o hS hF h2⟩
theorem DV.more {w : World} {F F' : Nat → Prop} (hF : ∀ b, F b → F' b) {d : D} {u : Value} (h : DV w F d u) : DV w F' d u := DV.only (Only.refl [] w) (by simp) hF d u h
theorem DVs.more {w : World} {F F' : Nat → Prop} (hF : ∀ b, F b → F' b) {l : List D} {us : List Value} (h : DVs w F l us) : DVs w F' l us := DVs.only (Only.refl [] w) (by simp) hF h
theorem DVs.len {w : World} {F : Nat → Prop} : ∀ {l : List D} {us : List Value}, DVs w F l us → us.length = l.length
 | [], us, h => by simp only [DVs] at h; subst h; rfl
 | d :: l, us, h => by
  obtain ⟨u, r, rfl, h1, h2⟩ := h
  rw [List.length_cons, List.length_cons, DVs.len h2]
theorem DVs.app {w : World} {F : Nat → Prop} {l' : List D} {vs : List Value} (h' : DVs w F l' vs) : ∀ {l : List D} {us : List Value}, DVs w F l us → DVs w F (l ++ l') (us ++ vs)
 | [], us, h => by simp only [DVs] at h; subst h; exact h'
 | d :: l, us, h => by
  obtain ⟨u, r, rfl, h1, h2⟩ := h
  exact ⟨u, r ++ vs, rfl, h1, DVs.app h' h2⟩
theorem DVs.at_ {w : World} {F : Nat → Prop} : ∀ {l : List D} {us : List Value}, DVs w F l us → ∀ {i : Nat} {d : D}, l[i]? = some d → ∃ u, us[i]? = some u ∧ DV w F d u
 | [], _, _, i, d, hi => by simp at hi
 | d' :: l, us, h, i, d, hi => by
  obtain ⟨u, r, rfl, h1, h2⟩ := h
  cases i with
  | zero =>
   simp at hi
   subst hi
   exact ⟨u, rfl, h1⟩
  | succ i => simpa using DVs.at_ h2 (i := i) (by simpa using hi)
theorem DVs.dcs {w : World} {F : Nat → Prop} {bl : Nat} {l : List D} {us : List Value} {off : Nat} (h : DVs w F l us) (hc : ∀ j u, us[j]? = some u → w.cell? ⟨bl, off + j, none⟩ = some u) : DCs w F l bl off := by
 rw [DCs.iff]
 intro i d hi
 obtain ⟨u, hu, hd⟩ := h.at_ hi
 exact ⟨u, hd, hc i u hu⟩
theorem DCs.dvs {w : World} {F : Nat → Prop} {bl : Nat} : ∀ {l : List D} {off : Nat}, DCs w F l bl off → ∃ us, DVs w F l us ∧ ∀ j u, us[j]? = some u → w.cell? ⟨bl, off + j, none⟩ = some u
 | [], _, _ => ⟨[], rfl, by simp⟩
 | d :: l, off, h => by
  simp only [DCs] at h
  obtain ⟨⟨u, h1, h2⟩, h3⟩ := h
  obtain ⟨us, h4, h5⟩ := DCs.dvs h3
  refine ⟨u :: us, ⟨u, us, rfl, h1, h4⟩, fun j x hj => ?_⟩
  cases j with
  | zero =>
   simp at hj
   subst hj
   exact h2
  | succ j => rw [show off + (j + 1) = off + 1 + j by omega]; exact h5 j x (by simpa using hj)
def D.One : D → Prop
 | .v x => x.oneCell' = true
 | .sl _ _ => True
theorem DV.one {w : World} {F : Nat → Prop} {d : D} {u : Value} (h : DV w F d u) (h1 : d.One) : u.oneCell' = true := by
 cases d with
 | v x => rw [DV.v.1 h]; exact h1
 | sl n l =>
  simp only [DV] at h
  obtain ⟨A, cap, rfl, _⟩ := h
  rfl
theorem DVs.one {w : World} {F : Nat → Prop} : ∀ {l : List D} {us : List Value}, DVs w F l us → (∀ d ∈ l, d.One) → ∀ u ∈ us, u.oneCell' = true
 | [], us, h, _, u, hu => by simp only [DVs] at h; subst h; cases hu
 | d :: l, us, h, h1, u, hu => by
  obtain ⟨x, r, rfl, h2, h3⟩ := h
  rcases List.mem_cons.1 hu with rfl | hu
  ·exact h2.one (h1 d (by simp))
  ·exact DVs.one h3 (fun d hd => h1 d (by simp [hd])) u hu
/-! ### Rows of the call's own -/
theorem Row.only {S : List Nat} {w w' : World} {base : Nat} {e : TypeId} {size : Nat} {v : Value} {n : Nat} {xs : List Value} (h : w.ownsRow base e size v n xs) (o : Only S w w') (hS : ∀ g, v.ownBlock = some g → g ∉ S) : w'.ownsRow base e size v n xs := by
 refine ⟨h.1, ?_⟩
 rcases h.2 with h2 | ⟨g, cap, cur, hv, hb, hg, h3⟩
 ·exact .inl h2
 ·have hg' : Bk w g e cur := hg
  exact .inr ⟨g, cap, cur, hv, hb, hg'.only o (hS g (by rw [hv]; rfl)), h3⟩
theorem Row.block {w : World} {base : Nat} {e : TypeId} {size : Nat} {v : Value} {n : Nat} {xs : List Value} (h : w.ownsRow base e size v n xs) {g : Nat} (hg : v.ownBlock = some g) : base ≤ g ∧ g < w.heap.size := by
 rcases h.2 with ⟨hv, _⟩ | ⟨g', cap, cur, hv, hb, hg', _⟩
 ·rw [hv] at hg; cases hg
 ·rw [hv] at hg
  injection hg with hg
  subst hg
  exact ⟨hb, Bk.lt (t := e) (cs := cur) hg'⟩
theorem Row.cell {w : World} {base : Nat} {e : TypeId} {size : Nat} {g cap n : Nat} {xs : List Value} (h : w.ownsRow base e size (.slice (some ⟨g, 0, none⟩) n cap) n xs) (j : Nat) (u : Value) (hj : xs[j]? = some u) : w.cell? ⟨g, j, none⟩ = some u := by
 rcases h.2 with ⟨hv, _⟩ | ⟨g', cap', cur, hv, hb, hg', _, _, _, hx⟩
 ·cases hv
 ·injection hv with h1 h2 h3
  injection h1 with h1
  injection h1 with h1
  subst h1
  rw [Bk.cell (t := e) (cs := cur) hg']
  rw [← hx, List.getElem?_take] at hj
  split at hj
  ·rw [← Array.getElem?_toList]; exact hj
  ·cases hj
structure OwnD (w : World) (base : Nat) (F : Nat → Prop) (e : TypeId) (k : Nat) (v : Value) (n : Nat) (ds : List D) : Prop where
 row : ∃ us, w.ownsRow base e k v n us ∧ DVs w F ds us
 free : ∀ g, v.ownBlock = some g → ¬ F g
theorem OwnD.nil (w : World) (base : Nat) (F : Nat → Prop) (e : TypeId) (k : Nat) : OwnD w base F e k (.slice none 0 0) 0 [] := ⟨⟨[], World.ownsRow_nil _ _ _ _, rfl⟩, fun g h => by cases h⟩
theorem OwnD.only {S : List Nat} {w w' : World} {base : Nat} {F F' : Nat → Prop} {e : TypeId} {k : Nat} {v : Value} {n : Nat} {ds : List D} (h : OwnD w base F e k v n ds) (o : Only S w w') (hS : ∀ b ∈ S, ¬ F b ∧ v.ownBlock ≠ some b) (hF : ∀ b, F b → F' b) (hF' : ∀ g, v.ownBlock = some g → ¬ F' g) : OwnD w' base F' e k v n ds := by
 obtain ⟨us, h1, h2⟩ := h.row
 exact ⟨⟨us, Row.only h1 o (fun g hg hm => (hS g hm).2 hg), DVs.only o (fun b hb => (hS b hb).1) hF h2⟩, hF'⟩
theorem OwnD.done {w : World} {base : Nat} {F : Nat → Prop} {e : TypeId} {k : Nat} {v : Value} {n : Nat} {ds : List D} (h : OwnD w base F e k v n ds) (hl : ds.length = n * k) : DV w (fun b => F b ∨ v.ownBlock = some b) (.sl n ds) v := by
 obtain ⟨us, h1, h2⟩ := h.row
 simp only [DV]
 have hc := @Row.cell w base e k
 rcases h1.2 with ⟨hv, h0⟩ | ⟨g, cap, cur, hv, hb, hg, h3, h4, _⟩
 ·have h5 : n = 0 := h0
  subst h5
  refine ⟨none, 0, hv, Nat.le_refl _, by omega, .inl ⟨rfl, List.length_eq_zero_iff.1 (by rw [hl, Nat.zero_mul])⟩⟩
 ·subst hv
  refine ⟨some ⟨g, 0, none⟩, cap, rfl, h3, h4, .inr ⟨g, 0, rfl, Bk.lt (t := e) (cs := cur) hg, .inr rfl, DVs.dcs (h2.more fun _ h => .inl h) fun j u hj => ?_⟩⟩
  rw [Nat.zero_add]
  exact hc h1 j u hj
section
variable {P : Program} {ops : Array Oper} {md : Region.Mode} {C : World → Prop}
end
open Go
section
variable {P : Program} {a : Act} {w : World} {Q : Exit → Act → World → Prop} {J : Act → World → Prop} {l : Nat}
@[go_sem] theorem Exit.jump_normal : Exit.jump l J Q .normal a w = Q .normal a w := rfl
@[go_sem] theorem Exit.jump_exit (id : Nat) : Exit.jump l J Q (.exit id) a w = Q (.exit id) a w := rfl
@[go_sem] theorem Exit.jump_ret : Exit.jump l J Q .ret a w = Q .ret a w := rfl
@[go_sem] theorem Exit.jump_panic (ch : List PanicEntry) : Exit.jump l J Q (.panic ch) a w = Q (.panic ch) a w := rfl
def Exit.last (Q : Exit → Act → World → Prop) : Exit → Act → World → Prop
 | .goto _, _, _ => False
 | e, a, w => Q e a w
@[go_sem] theorem Exit.last_normal : Exit.last Q .normal a w = Q .normal a w := rfl
@[go_sem] theorem Exit.last_exit (id : Nat) : Exit.last Q (.exit id) a w = Q (.exit id) a w := rfl
@[go_sem] theorem Exit.last_ret : Exit.last Q .ret a w = Q .ret a w := rfl
@[go_sem] theorem Exit.last_panic (ch : List PanicEntry) : Exit.last Q (.panic ch) a w = Q (.panic ch) a w := rfl
theorem wp_scope_fwd {c rest : Code} (l : Nat) (hf : findLabel c l = some rest) (h : c.wp P (Exit.jump l (fun a w => rest.wp P (Exit.last Q) a w) Q) a w) : (Code.scope c).wp P Q a w := by
 refine wp_scope_jumps l (fun a w => rest.wp P (Exit.last Q) a w) (fun _ _ => 0) hf h fun a w hJ => Code.wp_mono ?_ hJ
 intro e a' w' hq
 cases e with
 | goto l' => exact hq.elim
 | _ => exact hq
end
open Go.RowKit
abbrev Rdb (w : World) (b : Nat) (s : ByteArray) (p : Nat) : Prop := Bk w b 32 #[.string s, .int .i64 p]
theorem Rdb.two {w : World} {b : Nat} {s : ByteArray} {p : Nat} (h : Rdb w b s p) : w.cell? ⟨b, 0, none⟩ = some (.string s) ∧ w.cell? ⟨b, 1, none⟩ = some (.int .i64 p) := ⟨h.cell0 rfl, h.cell0 rfl⟩
theorem cntGo_end {s : ByteArray} {k q n : Nat} (h : ¬ (k < 9 ∧ q < s.size)) (hk : k ≤ 9) : cntGo s (9 - k) k q n = none := by
 by_cases h9 : k = 9
 ·subst h9; rfl
 ·obtain ⟨f, hf⟩ : ∃ f, 9 - k = f + 1 := ⟨8 - k, by omega⟩
  rw [hf]
  unfold cntGo
  rw [dif_neg (by omega)]
theorem cntGo_last {s : ByteArray} {k q n : Nat} (hk : k < 9) (hq : q < s.size) (hb : (s[q]'hq).toNat < 128) : cntGo s (9 - k) k q n = if (s[q]'hq).toNat = 0 ∧ 0 < k then none else some (n + (s[q]'hq).toNat * 2 ^ (7 * k), q + 1) := by
 obtain ⟨f, hf⟩ : ∃ f, 9 - k = f + 1 := ⟨8 - k, by omega⟩
 rw [hf]
 conv => lhs; unfold cntGo
 rw [dif_pos hq, if_pos hb]
theorem cntGo_more {s : ByteArray} {k q n : Nat} (hk : k < 9) (hq : q < s.size) (hb : ¬ (s[q]'hq).toNat < 128) : cntGo s (9 - k) k q n = cntGo s (9 - (k + 1)) (k + 1) (q + 1) (n + ((s[q]'hq).toNat % 128) * 2 ^ (7 * k)) := by
 obtain ⟨f, hf⟩ : ∃ f, 9 - k = f + 1 := ⟨8 - k, by omega⟩
 rw [hf, show 9 - (k + 1) = f by omega]
 conv => lhs; unfold cntGo
 rw [dif_pos hq, if_neg hb]
def CntE (b : Nat) (s : ByteArray) (r : Option (Nat × Nat)) (w : World) (e : Ending) (w' : World) : Prop :=
 match r with
 | some (n, q) => e = .returned (.tuple #[.int .i64 n, .bool true]) ∧ Rdb w' b s q ∧ Only [b] w w'
 | none => e = .returned (.tuple #[.int .i64 0, .bool false]) ∧ Only [] w w'
theorem count_end {b : Nat} {s : ByteArray} {p q n : Nat} {v z : Int} {e : Ending} {w wr : World} (hB : Rdb wr b s p) (ho : Only [] w wr) (hv : v = n) (hz : z = (q : Int)) (he : e = .returned (.tuple #[.int .i64 v, .bool true])) : CntE b s (some (n, q)) w e (wr.setCell ⟨b, 1, none⟩ (.int .i64 z)) := by
 subst hv hz he
 exact ⟨rfl, Bk.set hB 1 _, (ho.more (by simp)).set (p := ⟨b, 1, none⟩) (.inl (by simp)) _⟩
theorem count_any (b : Nat) (s : ByteArray) (p : Nat) (w : World) (hb : Rdb w b s p) (hp : p ≤ s.size) (hs : s.size ≤ 262144) :
 Calls Tryz.prog 45 #[.pointer (some ⟨b, 0, none⟩)] w fun e w' => CntE b s (cnt s p) w e w' := by
 obtain ⟨c0, c1⟩ := hb.two
 have f1 := hb.free 1
 obtain ⟨r, hr⟩ : ∃ r, cnt s p = r := ⟨_, rfl⟩
 rw [hr]
 go_enter Tryz.func45, Tryz.ntmps45
 go_wp2_with fail
 refine wp_scope_fwd 0 rfl ?_
 go_wp2_with fail
 go_quiet (fail)
 go_wp2_with fail
 go_loopw [4, 5, 6] (fun nv av bv wr => ∃ k n q : Nat, nv = .int .i64 n ∧ av = .int .i64 q ∧ bv = .int .i64 ((7 * k : Nat) : Int) ∧ k ≤ 9 ∧ q ≤ s.size ∧ n < 2 ^ (7 * k) ∧ cntGo s (9 - k) k q n = r ∧ Only [] w wr) (fun nv av bv _ => 9 - (intOf bv).toNat / 7)
 case atStart => exact ⟨0, 0, p, rfl, rfl, rfl, by omega, hp, by simp, hr, (Only.refl _ _).drewN _⟩
 case round =>
  obtain ⟨k, n, q, rfl, rfl, rfl, hk, hq, hn, hkr, ho⟩ := hrel
  have hb1 := Bk.only hb ho (by simp)
  obtain ⟨c0, c1⟩ := Rdb.two hb1
  have f1 := Bk.free hb1 1
  have HO := Lib.hid ho
  have HB := Lib.hid hb1
  have HV := Lib.hid (fun (h2 : q < s.size) (h1 : k < 9) => cnt_val (c := (s[q]'h2).toNat) (UInt8.toNat_lt _) h1 hn)
  have HR := Lib.hid hkr
  have HN := Lib.hid hn
  clear ho hb1 hr hkr hn
  by_cases hlt : k < 9 ∧ q < s.size
  ·obtain ⟨h1, h2⟩ := hlt
   have h7 : ((7 * k : Nat) : Int) < 63 := by omega
   by_cases h128 : (s[q]'h2).toNat < 128
   ·have hE := Lib.hid (HR.out.symm.trans (cntGo_last (n := n) h1 h2 h128))
    have g1 : ((s[q]'h2).toNat : Int) < 128 := by omega
    by_cases h0 : (s[q]'h2).toNat = 0
    ·have g2 : ((s[q]'h2).toNat : Int) = 0 := by omega
     by_cases hk0 : 0 < k
     ·have g3 : (0 : Int) < 7 * (k : Int) := by omega
      go_wp2_with fail
      refine wp_goto (And.intro rfl ?_)
      go_wp2_with fail
      try rw [Exit.last_ret]
      go_ret2
      rw [hE.out, if_pos ⟨h0, hk0⟩]
      exact ⟨rfl, HO.out⟩
     ·have g3 : ¬ (0 : Int) < 7 * (k : Int) := by omega
      go_wp2_with fail
      try rw [Exit.jump_ret]
      go_ret2
      rw [hE.out, if_neg (fun h => hk0 h.2)]
      have hv := HV.out h2 h1
      rw [g2, h0] at hv
      rw [h0]
      exact count_end HB.out HO.out hv (by go_num) rfl
    ·have g2 : ¬ ((s[q]'h2).toNat : Int) = 0 := by omega
     go_wp2_with fail
     try rw [Exit.jump_ret]
     go_ret2
     rw [hE.out, if_neg (fun h => h0 h.1)]
     have hv := HV.out h2 h1
     rw [Nat.mod_eq_of_lt h128] at hv
     exact count_end HB.out HO.out hv (by go_num) rfl
   ·have hE := Lib.hid (HR.out.symm.trans (cntGo_more (n := n) h1 h2 h128))
    have g1 : ¬ ((s[q]'h2).toNat : Int) < 128 := by omega
    have g2 : ¬ ((s[q]'h2).toNat : Int) = 0 := by omega
    go_wp2_with fail
    go_roundw
    case rel =>
     have hp7 := pow7 k
     have hm : (s[q]'h2).toNat % 128 * 2 ^ (7 * k) ≤ 127 * 2 ^ (7 * k) := Nat.mul_le_mul_right _ (by omega)
     have hn := HN.out
     exact ⟨k + 1, n + (s[q]'h2).toNat % 128 * 2 ^ (7 * k), q + 1, by rw [HV.out h2 h1], rfl, by go_num, by omega, by omega, by omega, hE.out.symm, HO.out⟩
    case measure =>
     have : ((7 * (k : Int) + 7)).toNat = 7 * (k + 1) := by omega
     have h' : ((7 * k : Nat) : Int).toNat = 7 * k := by omega
     simp only [intOf, this, h']
     omega
  ·have hE := Lib.hid (HR.out.symm.trans (cntGo_end (n := n) hlt hk))
   by_cases h9 : k < 9
   ·have g1 : ((7 * k : Nat) : Int) < 63 := by omega
    have g2 : ¬ q < s.size := by omega
    go_wp2_with fail
    refine wp_label ?_
    go_wp2_with fail
    try rw [Exit.jump_ret]
    go_ret2
    rw [hE.out]
    exact ⟨rfl, HO.out⟩
   ·have g1 : ¬ ((7 * k : Nat) : Int) < 63 := by omega
    go_wp2_with fail
    refine wp_label ?_
    go_wp2_with fail
    try rw [Exit.jump_ret]
    go_ret2
    rw [hE.out]
    exact ⟨rfl, HO.out⟩
end Go.Proofs.YtcdefnbehlcgeaaGreatDoor
