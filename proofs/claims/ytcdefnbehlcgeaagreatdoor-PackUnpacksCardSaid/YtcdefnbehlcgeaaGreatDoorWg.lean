/- From a term's cells as data to a term in memory; which terms bytes give.. Rows made of one thing whose cells are not looked at; what reading answers where it makes . The program's reader: as many as the count ahead of them says (carousel/api.Pattern). The program's reader: as many as the count ahead of them says (carousel/api.Term). -/
import Derived.Test.YtcdefnbehlcgeaaGreatDoorWe
import Derived.Test.YtcdefnbehlcgeaaGreatDoorWf
import Derived.Test.YtcdefnbehlcgeaaGreatDoorWa
import Derived.Great.BuildSlice
import Derived.Laws.Rows
import Derived.Laws.Tables
set_option maxHeartbeats 4000000
set_option maxRecDepth 20000
namespace Go.Proofs.YtcdefnbehlcgeaaGreatDoor
open Go.RowKit
theorem DCs.split {w : World} {F : Nat → Prop} {bl : Nat} {b : List D} : ∀ {a : List D} {off : Nat}, DCs w F (a ++ b) bl off → DCs w F a bl off ∧ DCs w F b bl (off + a.length)
 | [], off, h => ⟨trivial, by simpa using h⟩
 | d :: a, off, h => by
  simp only [List.cons_append, DCs] at h ⊢
  obtain ⟨h1, h2⟩ := DCs.split h.2
  exact ⟨⟨h.1, h1⟩, by rw [List.length_cons, show off + (a.length + 1) = off + 1 + a.length by omega]; exact h2⟩
theorem DVs.seven {w : World} {F : Nat → Prop} {k n : Int} {x y : Nat} {S : ByteArray} {a b : Int} {d : D} {us : List Value} (h : DVs w F (tD k n x y S a b d) us) : ∃ u, DV w F d u ∧ us = [.int .i64 k, .int .i64 n, .complex .f64 x y, .string S, .int .i64 a, .int .i64 b, u] := by
 simp only [DVs] at h
 obtain ⟨_, _, rfl, h0, _, _, rfl, h1, _, _, rfl, h2, _, _, rfl, h3, _, _, rfl, h4, _, _, rfl, h5, u, _, rfl, h6, rfl⟩ := h
 exact ⟨u, h6, by rw [DV.v.1 h0, DV.v.1 h1, DV.v.1 h2, DV.v.1 h3, DV.v.1 h4, DV.v.1 h5]⟩
theorem tv_of {w : World} {F : Nat → Prop} (t : T) : ∀ us, DVs w F t.ds us → ∃ sl, us = (t.cs sl).toList ∧ TV w F t sl := by
 refine T.ind (P := fun t => ∀ us, DVs w F t.ds us → ∃ sl, us = (t.cs sl).toList ∧ TV w F t sl) (fun t ht us h => ?_) (fun k l ih us h => ?_) t
 ·cases t <;> first
   | exact absurd rfl (ht _ _)
   | (simp only [T.ds] at h
      obtain ⟨u, h6, rfl⟩ := DVs.seven h
      obtain rfl := DV.v.1 h6
      exact ⟨_, rfl, (TV.leaf ht).2 rfl⟩)
 ·simp only [T.ds] at h
  obtain ⟨u, h6, rfl⟩ := DVs.seven h
  refine ⟨u, rfl, ?_⟩
  simp only [DV] at h6
  obtain ⟨A, cap, h1, h2, h3, h4⟩ := h6
  simp only [TV]
  refine ⟨A, cap, h1, h2, h3, ?_⟩
  rcases h4 with ⟨h4, -⟩ | ⟨bl, off, h5, h7, h8, h9⟩
  ·exact .inl (List.length_eq_zero_iff.1 h4)
  ·refine .inr ⟨bl, off, h5, h7, h8, ?_⟩
   clear h1 h2 h3 h5 h
   induction l generalizing off with
   | nil => simp only [TVs]
   | cons t l ihl =>
    simp only [T.dss] at h9
    obtain ⟨g1, g2⟩ := DCs.split h9
    rw [ds_len] at g2
    obtain ⟨vs, g3, g4⟩ := DCs.dvs g1
    obtain ⟨sl, rfl, g5⟩ := ih t (by simp) vs g3
    simp only [TVs]
    exact ⟨⟨sl, g5, fun j v hj => g4 j v (by simpa using hj)⟩, ihl (fun u hu => ih u (by simp [hu])) (off + 7) g2⟩
theorem rMany_all {α : Type} {one : Nat → Rs α} {P : α → Prop} (h1 : ∀ p x q, one p = .ok x q → P x) : ∀ {n p : Nat} {l : List α} {q : Nat}, rMany one n p = .ok l q → ∀ x ∈ l, P x
 | 0, p, l, q, h, x, hx => by
  injection h with h2 h3
  subst h2
  cases hx
 | n + 1, p, l, q, h, x, hx => by
  simp only [rMany] at h
  cases ho : one p with
  | bad t => rw [ho] at h; cases h
  | ok y t =>
   rw [ho] at h
   simp only [Rs.bind] at h
   cases hr : rMany one n t with
   | bad u => rw [hr] at h; cases h
   | ok l2 q2 =>
    rw [hr] at h
    injection h with h2 h3
    subst h2
    rcases List.mem_cons.1 hx with rfl | hx
    ·exact h1 _ _ _ ho
    ·exact rMany_all h1 hr x hx
theorem rSome_all {α : Type} {one : Nat → Rs α} {P : α → Prop} {s : ByteArray} {p : Nat} {l : List α} {q : Nat} (h1 : ∀ p x q, one p = .ok x q → P x) (h : rSome one s p = .ok l q) : (∀ x ∈ l, P x) ∧ l.length ≤ s.size := by
 unfold rSome at h
 cases hr : rLen s p with
 | bad t => rw [hr] at h; cases h
 | ok n t =>
  rw [hr] at h
  have hb := rLen_bd hr
  refine ⟨rMany_all h1 h, ?_⟩
  have hl : ∀ {n p : Nat} {l : List α} {q : Nat}, rMany one n p = .ok l q → l.length = n := by
   intro n
   induction n with
   | zero => intro p l q h; injection h with h2 h3; subst h2; rfl
   | succ n ih =>
    intro p l q h
    simp only [rMany] at h
    cases ho : one p with
    | bad t => rw [ho] at h; cases h
    | ok y t =>
     rw [ho] at h
     simp only [Rs.bind] at h
     cases hr : rMany one n t with
     | bad u => rw [hr] at h; cases h
     | ok l2 q2 =>
      rw [hr] at h
      injection h with h2 h3
      subst h2
      rw [List.length_cons, ih hr]
  rw [hl h]
  omega
theorem map_ok {α β : Type} {r : Rs α} {f : α → β} {y : β} {q : Nat} (h : r.map f = .ok y q) : ∃ x, r = .ok x q ∧ y = f x := by
 cases r with
 | ok x t =>
  injection h with h1 h2
  exact ⟨x, by rw [h2], h1.symm⟩
 | bad t => cases h
theorem rName_sz {s x : ByteArray} {p q : Nat} (h : rName s p = .ok x q) : x.size ≤ s.size := by
 unfold rName at h
 cases hr : rLen s p with
 | bad t => rw [hr] at h; cases h
 | ok n t =>
  rw [hr] at h
  injection h with h1 h2
  subst h1
  have := rLen_bd hr
  rw [ByteArray.size_extract]
  omega
theorem rPart_in {s : ByteArray} {z : Int} {p q : Nat} (h : rPart s p = .ok z q) : okPart z = true := by
 unfold rPart at h
 obtain ⟨n, h1, rfl⟩ := map_ok h
 unfold rFit at h1
 split at h1
 ·split at h1
  ·rename_i hf
   injection h1 with h2 h3
   subst h2
   have := of_decide_eq_true hf
   simp only [okPart, Bool.and_eq_true, decide_eq_true_eq]
   exact this
  ·cases h1
 ·cases h1
theorem rTerm_good {s : ByteArray} (hs : s.size ≤ 262144) : ∀ {d p : Nat} {t : T} {q : Nat}, rTerm s d p = .ok t q → t.Good
 | 0, p, t, q, h => by cases h
 | d + 1, p, t, q, h => by
  simp only [rTerm] at h
  cases hk : rOne 9 s p with
  | bad u => rw [hk] at h; cases h
  | ok k u =>
   rw [hk] at h
   simp only [Rs.bind, rKind] at h
   split at h
   ·injection h with h1 h2; subst h1; trivial
   split at h
   ·obtain ⟨n, h1, rfl⟩ := map_ok h; trivial
   split at h
   ·obtain ⟨n, h1, rfl⟩ := map_ok h; trivial
   split at h
   ·obtain ⟨x, h1, rfl⟩ := map_ok h
    unfold rParts at h1
    cases h2 : rPart s u with
    | bad v => rw [h2] at h1; cases h1
    | ok a v =>
     rw [h2] at h1
     simp only [Rs.bind] at h1
     cases h3 : rPart s v with
     | bad v2 => rw [h3] at h1; cases h1
     | ok c v2 =>
      rw [h3] at h1
      injection h1 with h4 h5
      subst h4
      exact ⟨rPart_in h2, rPart_in h3⟩
   split at h
   ·obtain ⟨x, h1, rfl⟩ := map_ok h
    have := rName_sz h1
    show x.size ≤ 262144
    omega
   split at h
   ·obtain ⟨x, h1, rfl⟩ := map_ok h; trivial
   split at h
   ·obtain ⟨x, h1, rfl⟩ := map_ok h; trivial
   ·obtain ⟨l, h1, rfl⟩ := map_ok h
    have hk9 : 1 ≤ k ∧ k ≤ 9 := by
     unfold rOne rFit at hk
     split at hk
     ·split at hk
      ·rename_i hf
       injection hk with h2 h3
       subst h2
       exact of_decide_eq_true hf
      ·cases hk
     ·cases hk
    refine ⟨by omega, Goods.iff.2 (rSome_all (fun p x q h => rTerm_good hs h) h1).1⟩
open Go.RowKit
theorem fill_list : ∀ (l pre suf : List Value), suf.length = l.length → (l.zipIdx pre.length).foldl (fun (cs : Array Value) (x : Value × Nat) => cs.setIfInBounds (0 + x.2) x.1) (pre ++ suf).toArray = (pre ++ l).toArray
 | [], pre, suf, h => by
  have : suf = [] := List.length_eq_zero_iff.1 h
  subst this
  rfl
 | x :: l, pre, [], h => by simp at h
 | x :: l, pre, y :: suf, h => by
  have ih := fill_list l (pre ++ [x]) suf (by simpa using h)
  rw [List.zipIdx_cons, List.foldl_cons]
  have e : (pre ++ y :: suf).toArray.setIfInBounds (0 + pre.length) x = (pre ++ [x] ++ suf).toArray := by
   simp
  rw [e, show pre.length + 1 = (pre ++ [x]).length by simp, ih]
  simp
theorem fill_row {k : Nat} {zeros us : Array Value} (hz : zeros.size = k) (hu : us.size = k) : Instr.fill (fun i => some (i * k, k)) zeros [(0, .agg us)] = some us := by
 have h := fill_list us.toList [] zeros.toList (by rw [Array.length_toList, Array.length_toList, hz, hu])
 simp only [Instr.fill, Value.cells, Nat.zero_mul, Nat.zero_add, hu, hz]
 rw [if_neg (by simp)]
 congr 1
 simp only [List.length_nil, List.nil_append, Array.toArray_toList, Nat.zero_add] at h
 rw [← Array.foldl_toList, Array.toList_zipIdx]
 exact h
theorem setRow_made (w : World) (t : TypeId) (zs us : Array Value) : Bk ((w.alloc (.cells zs t)).setRow w.heap.size us) w.heap.size t us ∧ Only [] w ((w.alloc (.cells zs t)).setRow w.heap.size us) ∧ ((w.alloc (.cells zs t)).setRow w.heap.size us).heap.size = w.heap.size + 1 := by
 have hm : (w.alloc (.cells zs t)).heap[w.heap.size]? = some (.cells zs t (0, 0)) := Bk.made w t zs
 have o1 : Only [w.heap.size] (w.alloc (.cells zs t)) ((w.alloc (.cells zs t)).setRow w.heap.size us) := ⟨rfl, rfl, rfl, by simp [World.setRow], fun k _ hk => setRow_other _ _ _ _ (by simpa using hk)⟩
 refine ⟨setRow_heap _ _ zs _ t (0, 0) hm, ((Only.refl [] w).alloc _).trans o1 (fun i hi => .inr (by simp at hi; omega)), ?_⟩
 simp [World.setRow]
theorem row_at {W : World} {g : Nat} {t : TypeId} {us : Array Value} (h : Bk W g t us) : ∀ j u, us.toList[j]? = some u → W.cell? ((⟨g, 0, none⟩ : Addr).add j) = some u := fun j u hj => by
 rw [Go.WideShapes.add_plain, Nat.zero_add]
 exact h.cell0 (by rw [← Array.getElem?_toList]; exact hj)
def RD {α : Type} (ds : α → List D) (w w' : World) (x : α) (u : Value) : Prop := ∃ us : Array Value, u = .agg us ∧ DVs w' (fun g => w.heap.size ≤ g) (ds x) us.toList
def RL {α : Type} (ds : α → List D) (w w' : World) (l : List α) (u : Value) : Prop := DV w' (fun g => w.heap.size ≤ g) (.sl l.length (l.flatMap ds)) u
theorem RD.only {α : Type} {ds : α → List D} {w w1 w2 : World} {x : α} {u : Value} {S : List Nat} (h : RD ds w w1 x u) (o : Only S w1 w2) (hS : ∀ b ∈ S, b < w.heap.size) : RD ds w w2 x u := by
 obtain ⟨us, rfl, h⟩ := h
 exact ⟨us, rfl, DVs.only o (fun b hb hf => by have := hS b hb; omega) (fun _ h => h) h⟩
theorem flatD_len {α : Type} {ds : α → List D} {k : Nat} (hk : ∀ x, (ds x).length = k) (l : List α) : (l.flatMap ds).length = l.length * k := by
 induction l with
 | nil => simp
 | cons x r ih => rw [List.flatMap_cons, List.length_append, ih, hk, List.length_cons, Nat.succ_mul, Nat.add_comm]
theorem OwnD.snoc {α : Type} {ds : α → List D} {k : Nat} {w w1 : World} {base : Nat} {e : TypeId} {v v' : Value} {l : List α} {x : α} {xs : List Value} {us : Array Value} {F F' : Nat → Prop}
 (hx : DVs w F (l.flatMap ds) xs) (hu : DVs w F (ds x) us.toList) (hr : w1.ownsRow base e k v' (l.length + 1) (xs ++ us.toList)) (o : Only v.ownBlock.toList w w1) (hv : ∀ g, v.ownBlock = some g → ¬ F g) (hF : ∀ g, F g → F' g) (hv' : ∀ g, v'.ownBlock = some g → ¬ F' g) :
 OwnD w1 base F' e k v' (l ++ [x]).length ((l ++ [x]).flatMap ds) := by
 refine ⟨⟨xs ++ us.toList, by simpa using hr, ?_⟩, hv'⟩
 rw [List.flatMap_append]
 have hS : ∀ b ∈ v.ownBlock.toList, ¬ F b := fun b hb => hv b (by simpa using hb)
 refine DVs.app ?_ (DVs.only o hS hF hx)
 simpa using DVs.only o hS hF hu
theorem DV.lt {w : World} {F : Nat → Prop} (d : D) : ∀ u, DV w F d u → DV w (fun g => F g ∧ g < w.heap.size) d u := by
 refine D.ind (P := fun d => ∀ u, DV w F d u → DV w (fun g => F g ∧ g < w.heap.size) d u) (fun x u h => DV.v.2 (DV.v.1 h)) (fun n l ih u h => ?_) d
 simp only [DV] at h ⊢
 obtain ⟨A, cap, h1, h2, h3, h4⟩ := h
 refine ⟨A, cap, h1, h2, h3, ?_⟩
 rcases h4 with h4 | ⟨bl, off, h5, h6, h7, h8⟩
 ·exact .inl h4
 ·refine .inr ⟨bl, off, h5, h6, ⟨h7, h6⟩, ?_⟩
  rw [DCs.iff] at h8 ⊢
  intro i u hu
  obtain ⟨u', h9, h10⟩ := h8 i u hu
  exact ⟨u', ih u (List.mem_of_getElem? hu) u' h9, h10⟩
theorem DVs.lt {w : World} {F : Nat → Prop} : ∀ {l : List D} {us : List Value}, DVs w F l us → DVs w (fun g => F g ∧ g < w.heap.size) l us
 | [], _, h => h
 | d :: _, _, h => by
  obtain ⟨u, r, e, h1, h2⟩ := h
  exact ⟨u, r, e, DV.lt d u h1, DVs.lt h2⟩
abbrev Beh (base : Nat) (w : World) (v : Value) (g : Nat) : Prop := base ≤ g ∧ g < w.heap.size ∧ v.ownBlock ≠ some g
theorem Beh.cells {α : Type} {ds : α → List D} {k base b : Nat} {wr w2 : World} {e : TypeId} {v : Value} {xs : List α} (hbl : b < base) (hD : OwnD wr base (Beh base wr v) e k v xs.length (xs.flatMap ds)) (o2 : Only [b] wr w2) :
 ∃ xsC, DVs w2 (Beh base w2 v) (xs.flatMap ds) xsC ∧ w2.ownsRow base e k v xs.length xsC := by
 obtain ⟨xsC, hrow, hdv⟩ := hD.row
 refine ⟨xsC, DVs.only o2 (fun g hg hf => ?_) (fun g hf => ⟨hf.1, Nat.lt_of_lt_of_le hf.2.1 o2.size, hf.2.2⟩) hdv, Row.only hrow o2 fun g hg hm => ?_⟩
 ·rw [List.mem_singleton.1 hg] at hf
  have := hf.1
  omega
 ·have := (Row.block hrow hg).1
  rw [List.mem_singleton.1 hm] at this
  omega
theorem own_step {α : Type} {ds : α → List D} {k base g cap : Nat} {wr w2 W4 w5 : World} {e : TypeId} {v : Value} {xs : List α} {xsC : List Value} {x : α} {us : Array Value}
 (hd : DVs w2 (fun g => wr.heap.size ≤ g) (ds x) us.toList) (hbase : base ≤ wr.heap.size) (o4 : Only [] w2 W4) (hvr : ∀ g, v.ownBlock = some g → g < wr.heap.size)
 (hdv : DVs W4 (Beh base W4 v) (xs.flatMap ds) xsC) (hr : w5.ownsRow base e k (.slice (some ⟨g, 0, none⟩) (xs.length + 1) cap) (xs.length + 1) (xsC ++ us.toList)) (hgrow : W4.grownBy w5 v.ownBlock) (hat : v.ownBlock = some g ∨ g = W4.heap.size) :
 OwnD w5 base (Beh base w5 (.slice (some ⟨g, 0, none⟩) (xs.length + 1) cap)) e k (.slice (some ⟨g, 0, none⟩) (xs.length + 1) cap) (xs ++ [x]).length ((xs ++ [x]).flatMap ds) := by
 have o5 := Only.of_grown hgrow
 refine OwnD.snoc hdv (w := W4) ?_ hr o5 (fun g hg hf => hf.2.2 hg) (fun g' hf => ⟨hf.1, Nat.lt_of_lt_of_le hf.2.1 o5.size, fun h => ?_⟩) (fun g' hg hf => hf.2.2 hg)
 ·refine DVs.only o4 (by simp) (fun g' hf => ⟨Nat.le_trans hbase hf.1, Nat.lt_of_lt_of_le hf.2 o4.size, fun hv => ?_⟩) (DVs.lt hd)
  have := hvr g' hv
  have := hf.1
  omega
 ·injection h with h
  subst h
  rcases hat with hat | hat
  ·exact hf.2.2 hat
  ·have h2 : g < W4.heap.size := hf.2.1
   omega
open Go.RowKit
abbrev ZQ : Array Value := #[.int .i64 0, .int .i64 0, .int .i64 0, .int .i64 0, .complex .f64 0 0, .string ⟨#[]⟩, .int .i64 0, .int .i64 0, .slice none 0 0, .slice none 0 0, .slice none 0 0]
theorem infoQ : (Tryz.prog.info? 88).map (fun i => (i.size, i.zero)) = some (11, some (.agg ZQ)) := by kernel_rfl
theorem infoQb : ((Tryz.prog.info? 88).map (fun i => decide (i.bytes ≤ 1024 ∧ 0 < i.bytes))) = some true := by kernel_rfl
theorem someQ_any {α : Type} (ds : α → List D) (hds : ∀ x, (ds x).length = 11) (h1 : ∀ x, ∀ d ∈ ds x, d.One) (F : Nat) (fs cp : Array Value) (one : Nat → Rs α) (b : Nat) (s : ByteArray) (p : Nat) (w : World) (hb : Rdb w b s p) (hp : p ≤ s.size) (hs : s.size ≤ 262144)
 (hE : ∀ (args : Array Value) (w : World), (callFunc F args).run Tryz.prog w = .ok (.enter F args) w)
 (hF : ∀ q w1, q ≤ s.size → Rdb w1 b s q → Only [b] w w1 → Calls Tryz.prog F (fs ++ cp) w1 fun e w' => RdE b s (.agg ZQ) (RD ds) (one q) w1 e w') :
 Calls Tryz.prog 109 #[.pointer (some ⟨b, 0, none⟩), .func (.func F) fs cp] w fun e w' => RdE b s (.slice none 0 0) (RL ds) (rSome one s p) w e w' := by
 have HL := Lib.hid (length_any b s p w hb hp hs)
 have HF := Lib.hid hF
 have hbl := Bk.lt hb
 obtain ⟨i0, hi0, hik, hiz⟩ : ∃ i, Tryz.prog.info? 88 = some i ∧ i.size = 11 ∧ i.zero = some (.agg ZQ) := by
  have := infoQ
  cases h : Tryz.prog.info? 88 with
  | none => rw [h] at this; cases this
  | some i =>
   rw [h] at this
   simp only [Option.map_some, Option.some.injEq, Prod.mk.injEq] at this
   exact ⟨i, rfl, this.1, this.2⟩
 have hib : i0.bytes ≤ 1024 ∧ 0 < i0.bytes := by
  have := infoQb
  rw [hi0] at this
  simpa using this
 cases hr : rLen s p with
 | bad q =>
  have hn : rSome one s p = .bad q := by unfold rSome; rw [hr]; rfl
  rw [hn]
  rw [hr] at HL
  clear hr hn hF
  go_enter Tryz.func109, Tryz.ntmps109
  go_wp2_with fail
  refine wp_scope_fwd 0 rfl ?_
  go_wp2_with fail
  (with_reducible refine HL.out.mono ?_)
  rintro e w1 ⟨rfl, h3, h4⟩
  have H3 := Lib.hid h3
  have H4 := Lib.hid h4
  clear h3 h4
  go_wp2_with fail
  refine wp_goto (And.intro rfl ?_)
  go_wp2_with fail
  try rw [Exit.last_ret]
  go_ret2
  exact ⟨rfl, H3.out, H4.out⟩
 | ok n q0 =>
  obtain ⟨R, hR⟩ : ∃ R, rMany one n q0 = R := ⟨_, rfl⟩
  have hn : rSome one s p = R := by unfold rSome; rw [hr]; exact hR
  obtain ⟨hn1, hq0, -⟩ := rLen_bd hr
  rw [hn]
  rw [hr] at HL
  clear hr hn hF
  go_enter Tryz.func109, Tryz.ntmps109
  go_wp2_with fail
  refine wp_scope_fwd 0 rfl ?_
  go_wp2_with fail
  (with_reducible refine HL.out.mono ?_)
  rintro e w1 ⟨u, rfl, rfl, h3, h4, -⟩
  have H3 := Lib.hid h3
  have H4 := Lib.hid h4
  clear h3 h4
  go_wp2_with fail
  go_loopw [6, 19] (fun lv iv wr => ∃ (xs : List α) (q : Nat), iv = .int .i64 xs.length ∧ xs.length ≤ n ∧ q ≤ s.size ∧ (rMany one (n - xs.length) q).map (fun l => xs ++ l) = R ∧ Rdb wr b s q ∧ Only [b] w wr ∧ OwnD wr w.heap.size (Beh w.heap.size wr lv) 88 11 lv xs.length (xs.flatMap ds)) (fun lv iv _ => n - (intOf iv).toNat)
  case atStart => exact ⟨[], q0, rfl, Nat.zero_le _, hq0, by rw [← hR]; simp [Rs.map, Rs.bind]; cases rMany one n q0 <;> rfl, H3.out, H4.out, OwnD.nil _ _ _ _ _⟩
  case round =>
   obtain ⟨xs, q, rfl, hxn, hq, hRR, hRb, hO, hOwn⟩ := hrel
   have KR := Lib.hid hRR
   have KB := Lib.hid hRb
   have KO := Lib.hid hO
   have KD := Lib.hid hOwn
   clear hR hRR hRb hO hOwn
   by_cases hlt : xs.length < n
   ·have hl' : (xs.length : Int) < (n : Int) := by omega
    have hrm : rMany one (n - xs.length) q = (one q).bind fun x q => (rMany one (n - (xs.length + 1)) q).bind fun l r => .ok (x :: l) r := by
     rw [show n - xs.length = (n - (xs.length + 1)) + 1 by omega]
     rfl
    rw [hrm] at KR
    clear hrm
    go_wp2_with fail
    (with_reducible refine (HF.out q _ hq KB.out KO.out).mono ?_)
    intro e w2 h
    cases ho : one q with
    | bad t =>
     rw [ho] at h KR
     obtain ⟨rfl, h3, h4⟩ := h
     have K3 := Lib.hid h3
     have K4 := Lib.hid (KO.out.trans h4 (fun i hi => .inl hi))
     have hlt2 := Bk.lt h3
     have hz1 : (ZQ).all (·.oneCell') = true := by simp [Value.oneCell']
     have HM := Lib.hid (setRow_made w2 88 ZQ ZQ)
     clear h3 h4 ho
     go_wp2_with (refine wpList_store_row (by rfl) _ _ _ (by rfl) w2.heap.size ZQ (by rfl) (by rfl) 88 ZQ (Bk.made w2 _ _) (by rw [hi0]; simp [hik]) (by rfl) hz1 ?_; have HM2 := HM.out; generalize World.setRow _ _ _ = W3 at HM2 ⊢; clear HM; obtain ⟨B3, O3, S3⟩ := HM2)
     refine wp_goto (And.intro rfl ?_)
     go_wp2_with fail
     try rw [Exit.last_ret]
     go_ret2
     have hre : R = .bad t := by rw [← KR.out]; rfl
     rw [hre]
     exact ⟨rfl, Bk.only K3.out O3 (by simp), K4.out.trans O3 (by simp)⟩
    | ok x t =>
     rw [ho] at h KR
     obtain ⟨u, rfl, ⟨us, rfl, hd⟩, h3, h4, h5⟩ := h
     have husz : us.size = 11 := by rw [← Array.length_toList, DVs.len hd, hds]
     have hu1 : us.all (·.oneCell') = true := by
      rw [Array.all_eq_true']
      intro v hv
      exact DVs.one hd (h1 x) v (Array.mem_toList_iff.2 hv)
     have K3 := Lib.hid h3
     have K4 := Lib.hid (KO.out.trans h4 (fun i hi => .inl hi))
     have KU := Lib.hid hd
     have HM := Lib.hid (setRow_made w2 88 ZQ us)
     have K42 := Lib.hid h4
     have hus1 : ∀ u ∈ us.toList, u.oneCell' = true := DVs.one hd (h1 x)
     have hsz2 := h4.size
     have hsz1 := KO.out.size
     have hvr : ∀ g, u6.ownBlock = some g → g < wr.heap.size := by
      obtain ⟨xsC, hrow, -⟩ := KD.out.row
      exact fun g hg => (Row.block hrow hg).2
     have hfill : ∀ (k : Nat) (zs : Array Value) (ps : List (Nat × Value)), k = 11 → zs.size = k → ps = [(0, .agg us)] → Instr.fill (fun i => some (i * k, k)) zs ps = some us := fun k zs ps hk hz hp => by subst hk hp; exact fill_row hz husz
     clear h3 h4 ho hd
     go_wp2_with (first
      | (refine wpList_store_row (by rfl) _ _ _ (by rfl) w2.heap.size us (by rfl) (by rfl) 88 ZQ (Bk.made w2 _ _) (by rw [hi0, husz]; simp [hik]) (by rw [husz]; rfl) hu1 ?_; have HM2 := HM.out; generalize World.setRow _ _ _ = W3 at HM2 ⊢; clear HM; obtain ⟨B3, O3, -⟩ := HM2)
      | (refine wpList_load_row (by rfl) 88 _ (by rfl) w2.heap.size (by rfl) 88 us (0, 0) _ B3 Tryz.underlying88 (by rfl) (by rw [hi0, husz]; simp [hik]) ?_)
      | (refine wpList_buildSlice (by rfl) 86 88 1 _ (by rfl) us i0 (.agg ZQ) Tryz.underlying86 hi0 hiz (by rw [hik]; decide) (by rw [hik]; decide) (hfill _ _ _ hik (by simp) (by simp only [List.map_toArray, List.map_cons, List.map_nil]; rfl)) ?_)
      | (have o4 : Only [] w2 (W3.alloc (.cells us 88)) := O3.alloc _
         have hsz4 := o4.size
         have hnews := row_at (Bk.made W3 88 us)
         obtain ⟨xsC, hdv, hrow⟩ := Beh.cells hbl KD.out (K42.out.trans o4 (by simp))
         refine wpList_append_lies _ (by rfl) _ _ 86 (by rfl) w.heap.size 88 i0 (.agg ZQ) 11 i0.bytes Tryz.underlying86 hi0 hiz hik rfl (by rfl) (by decide) u6 xs.length xsC (by rfl) hrow ⟨W3.heap.size, 0, none⟩ 1 1 us.toList (by rfl) (by rw [Array.length_toList, husz]) hnews hus1 (by decide) (by unfold maxLen; omega) (Nat.le_trans (Nat.mul_le_mul (show xs.length + 1 ≤ 262144 by omega) hib.1) (by decide)) (by omega) _ rfl (fun g cap w5 hr hgrow hat hlt5 => ?_)
         have OD := Lib.hid (own_step (ds := ds) (x := x) KU.out hsz1 o4 hvr hdv hr hgrow hat)
         have o5 : Only u6.ownBlock.toList w2 w5 := (o4.more (by simp)).trans (Only.of_grown hgrow) (fun i hi => .inl hi)
         have hne : u6.ownBlock ≠ some b := fun hv => by
          obtain ⟨xs1, hrow1, -⟩ := KD.out.row
          have := (Row.block hrow1 hv).1
          omega
         have K5 := Lib.hid (Bk.only K3.out o5 (by simpa using hne))
         have K6 := Lib.hid (K4.out.trans o5 (fun i hi => .inr (by
          obtain ⟨xs1, hrow1, -⟩ := KD.out.row
          exact (Row.block hrow1 (by simpa using hi)).1)))
         clear o4 hnews hdv hrow hr hgrow hat o5))
     go_roundw
     case rel =>
      refine ⟨xs ++ [x], t, by simp, by simp; omega, h5, ?_, K5.out, K6.out, by simpa using OD.out⟩
      rw [← KR.out]
      simp only [Rs.map, Rs.bind, List.length_append, List.length_cons, List.length_nil]
      cases rMany one (n - (xs.length + 1)) t <;> simp
     case measure =>
      simp [intOf]
      omega
   ·have hl' : ¬ (xs.length : Int) < (n : Int) := by omega
    have hre : R = .ok xs q := by rw [← KR.out, show n - xs.length = 0 by omega]; simp [rMany, Rs.map, Rs.bind]
    go_wp2_with fail
    try rw [Exit.jump_ret]
    go_ret2
    rw [hre]
    refine ⟨_, rfl, DV.more ?_ (KD.out.done (flatD_len hds xs)), KB.out, KO.out, hq⟩
    intro g hg
    rcases hg with hg | hg
    ·exact hg.1
    ·obtain ⟨us, hrw, -⟩ := KD.out.row
     exact (Row.block hrw hg).1
open Go.RowKit
abbrev ZT : Array Value := #[.int .i64 0, .int .i64 0, .complex .f64 0 0, .string ⟨#[]⟩, .int .i64 0, .int .i64 0, .slice none 0 0]
theorem infoT : (Tryz.prog.info? 52).map (fun i => (i.size, i.zero)) = some (7, some (.agg ZT)) := by kernel_rfl
theorem infoTb : ((Tryz.prog.info? 52).map (fun i => decide (i.bytes ≤ 1024 ∧ 0 < i.bytes))) = some true := by kernel_rfl
theorem someT_any {α : Type} (ds : α → List D) (hds : ∀ x, (ds x).length = 7) (h1 : ∀ x, ∀ d ∈ ds x, d.One) (F : Nat) (fs cp : Array Value) (one : Nat → Rs α) (b : Nat) (s : ByteArray) (p : Nat) (w : World) (hb : Rdb w b s p) (hp : p ≤ s.size) (hs : s.size ≤ 262144)
 (hE : ∀ (args : Array Value) (w : World), (callFunc F args).run Tryz.prog w = .ok (.enter F args) w)
 (hF : ∀ q w1, q ≤ s.size → Rdb w1 b s q → Only [b] w w1 → Calls Tryz.prog F (fs ++ cp) w1 fun e w' => RdE b s (.agg ZT) (RD ds) (one q) w1 e w') :
 Calls Tryz.prog 74 #[.pointer (some ⟨b, 0, none⟩), .func (.func F) fs cp] w fun e w' => RdE b s (.slice none 0 0) (RL ds) (rSome one s p) w e w' := by
 have HL := Lib.hid (length_any b s p w hb hp hs)
 have HF := Lib.hid hF
 have hbl := Bk.lt hb
 obtain ⟨i0, hi0, hik, hiz⟩ : ∃ i, Tryz.prog.info? 52 = some i ∧ i.size = 7 ∧ i.zero = some (.agg ZT) := by
  have := infoT
  cases h : Tryz.prog.info? 52 with
  | none => rw [h] at this; cases this
  | some i =>
   rw [h] at this
   simp only [Option.map_some, Option.some.injEq, Prod.mk.injEq] at this
   exact ⟨i, rfl, this.1, this.2⟩
 have hib : i0.bytes ≤ 1024 ∧ 0 < i0.bytes := by
  have := infoTb
  rw [hi0] at this
  simpa using this
 cases hr : rLen s p with
 | bad q =>
  have hn : rSome one s p = .bad q := by unfold rSome; rw [hr]; rfl
  rw [hn]
  rw [hr] at HL
  clear hr hn hF
  go_enter Tryz.func74, Tryz.ntmps74
  go_wp2_with fail
  refine wp_scope_fwd 0 rfl ?_
  go_wp2_with fail
  (with_reducible refine HL.out.mono ?_)
  rintro e w1 ⟨rfl, h3, h4⟩
  have H3 := Lib.hid h3
  have H4 := Lib.hid h4
  clear h3 h4
  go_wp2_with fail
  refine wp_goto (And.intro rfl ?_)
  go_wp2_with fail
  try rw [Exit.last_ret]
  go_ret2
  exact ⟨rfl, H3.out, H4.out⟩
 | ok n q0 =>
  obtain ⟨R, hR⟩ : ∃ R, rMany one n q0 = R := ⟨_, rfl⟩
  have hn : rSome one s p = R := by unfold rSome; rw [hr]; exact hR
  obtain ⟨hn1, hq0, -⟩ := rLen_bd hr
  rw [hn]
  rw [hr] at HL
  clear hr hn hF
  go_enter Tryz.func74, Tryz.ntmps74
  go_wp2_with fail
  refine wp_scope_fwd 0 rfl ?_
  go_wp2_with fail
  (with_reducible refine HL.out.mono ?_)
  rintro e w1 ⟨u, rfl, rfl, h3, h4, -⟩
  have H3 := Lib.hid h3
  have H4 := Lib.hid h4
  clear h3 h4
  go_wp2_with fail
  go_loopw [6, 19] (fun lv iv wr => ∃ (xs : List α) (q : Nat), iv = .int .i64 xs.length ∧ xs.length ≤ n ∧ q ≤ s.size ∧ (rMany one (n - xs.length) q).map (fun l => xs ++ l) = R ∧ Rdb wr b s q ∧ Only [b] w wr ∧ OwnD wr w.heap.size (Beh w.heap.size wr lv) 52 7 lv xs.length (xs.flatMap ds)) (fun lv iv _ => n - (intOf iv).toNat)
  case atStart => exact ⟨[], q0, rfl, Nat.zero_le _, hq0, by rw [← hR]; simp [Rs.map, Rs.bind]; cases rMany one n q0 <;> rfl, H3.out, H4.out, OwnD.nil _ _ _ _ _⟩
  case round =>
   obtain ⟨xs, q, rfl, hxn, hq, hRR, hRb, hO, hOwn⟩ := hrel
   have KR := Lib.hid hRR
   have KB := Lib.hid hRb
   have KO := Lib.hid hO
   have KD := Lib.hid hOwn
   clear hR hRR hRb hO hOwn
   by_cases hlt : xs.length < n
   ·have hl' : (xs.length : Int) < (n : Int) := by omega
    have hrm : rMany one (n - xs.length) q = (one q).bind fun x q => (rMany one (n - (xs.length + 1)) q).bind fun l r => .ok (x :: l) r := by
     rw [show n - xs.length = (n - (xs.length + 1)) + 1 by omega]
     rfl
    rw [hrm] at KR
    clear hrm
    go_wp2_with fail
    (with_reducible refine (HF.out q _ hq KB.out KO.out).mono ?_)
    intro e w2 h
    cases ho : one q with
    | bad t =>
     rw [ho] at h KR
     obtain ⟨rfl, h3, h4⟩ := h
     have K3 := Lib.hid h3
     have K4 := Lib.hid (KO.out.trans h4 (fun i hi => .inl hi))
     have hlt2 := Bk.lt h3
     have hz1 : (ZT).all (·.oneCell') = true := by simp [Value.oneCell']
     have HM := Lib.hid (setRow_made w2 52 ZT ZT)
     clear h3 h4 ho
     go_wp2_with (refine wpList_store_row (by rfl) _ _ _ (by rfl) w2.heap.size ZT (by rfl) (by rfl) 52 ZT (Bk.made w2 _ _) (by rw [hi0]; simp [hik]) (by rfl) hz1 ?_; have HM2 := HM.out; generalize World.setRow _ _ _ = W3 at HM2 ⊢; clear HM; obtain ⟨B3, O3, S3⟩ := HM2)
     refine wp_goto (And.intro rfl ?_)
     go_wp2_with fail
     try rw [Exit.last_ret]
     go_ret2
     have hre : R = .bad t := by rw [← KR.out]; rfl
     rw [hre]
     exact ⟨rfl, Bk.only K3.out O3 (by simp), K4.out.trans O3 (by simp)⟩
    | ok x t =>
     rw [ho] at h KR
     obtain ⟨u, rfl, ⟨us, rfl, hd⟩, h3, h4, h5⟩ := h
     have husz : us.size = 7 := by rw [← Array.length_toList, DVs.len hd, hds]
     have hu1 : us.all (·.oneCell') = true := by
      rw [Array.all_eq_true']
      intro v hv
      exact DVs.one hd (h1 x) v (Array.mem_toList_iff.2 hv)
     have K3 := Lib.hid h3
     have K4 := Lib.hid (KO.out.trans h4 (fun i hi => .inl hi))
     have KU := Lib.hid hd
     have HM := Lib.hid (setRow_made w2 52 ZT us)
     have K42 := Lib.hid h4
     have hus1 : ∀ u ∈ us.toList, u.oneCell' = true := DVs.one hd (h1 x)
     have hsz2 := h4.size
     have hsz1 := KO.out.size
     have hvr : ∀ g, u6.ownBlock = some g → g < wr.heap.size := by
      obtain ⟨xsC, hrow, -⟩ := KD.out.row
      exact fun g hg => (Row.block hrow hg).2
     have hfill : ∀ (k : Nat) (zs : Array Value) (ps : List (Nat × Value)), k = 7 → zs.size = k → ps = [(0, .agg us)] → Instr.fill (fun i => some (i * k, k)) zs ps = some us := fun k zs ps hk hz hp => by subst hk hp; exact fill_row hz husz
     clear h3 h4 ho hd
     go_wp2_with (first
      | (refine wpList_store_row (by rfl) _ _ _ (by rfl) w2.heap.size us (by rfl) (by rfl) 52 ZT (Bk.made w2 _ _) (by rw [hi0, husz]; simp [hik]) (by rw [husz]; rfl) hu1 ?_; have HM2 := HM.out; generalize World.setRow _ _ _ = W3 at HM2 ⊢; clear HM; obtain ⟨B3, O3, -⟩ := HM2)
      | (refine wpList_load_row (by rfl) 52 _ (by rfl) w2.heap.size (by rfl) 52 us (0, 0) _ B3 Tryz.underlying52 (by rfl) (by rw [hi0, husz]; simp [hik]) ?_)
      | (refine wpList_buildSlice (by rfl) 50 52 1 _ (by rfl) us i0 (.agg ZT) Tryz.underlying50 hi0 hiz (by rw [hik]; decide) (by rw [hik]; decide) (hfill _ _ _ hik (by simp) (by simp only [List.map_toArray, List.map_cons, List.map_nil]; rfl)) ?_)
      | (have o4 : Only [] w2 (W3.alloc (.cells us 52)) := O3.alloc _
         have hsz4 := o4.size
         have hnews := row_at (Bk.made W3 52 us)
         obtain ⟨xsC, hdv, hrow⟩ := Beh.cells hbl KD.out (K42.out.trans o4 (by simp))
         refine wpList_append_lies _ (by rfl) _ _ 50 (by rfl) w.heap.size 52 i0 (.agg ZT) 7 i0.bytes Tryz.underlying50 hi0 hiz hik rfl (by rfl) (by decide) u6 xs.length xsC (by rfl) hrow ⟨W3.heap.size, 0, none⟩ 1 1 us.toList (by rfl) (by rw [Array.length_toList, husz]) hnews hus1 (by decide) (by unfold maxLen; omega) (Nat.le_trans (Nat.mul_le_mul (show xs.length + 1 ≤ 262144 by omega) hib.1) (by decide)) (by omega) _ rfl (fun g cap w5 hr hgrow hat hlt5 => ?_)
         have OD := Lib.hid (own_step (ds := ds) (x := x) KU.out hsz1 o4 hvr hdv hr hgrow hat)
         have o5 : Only u6.ownBlock.toList w2 w5 := (o4.more (by simp)).trans (Only.of_grown hgrow) (fun i hi => .inl hi)
         have hne : u6.ownBlock ≠ some b := fun hv => by
          obtain ⟨xs1, hrow1, -⟩ := KD.out.row
          have := (Row.block hrow1 hv).1
          omega
         have K5 := Lib.hid (Bk.only K3.out o5 (by simpa using hne))
         have K6 := Lib.hid (K4.out.trans o5 (fun i hi => .inr (by
          obtain ⟨xs1, hrow1, -⟩ := KD.out.row
          exact (Row.block hrow1 (by simpa using hi)).1)))
         clear o4 hnews hdv hrow hr hgrow hat o5))
     go_roundw
     case rel =>
      refine ⟨xs ++ [x], t, by simp, by simp; omega, h5, ?_, K5.out, K6.out, by simpa using OD.out⟩
      rw [← KR.out]
      simp only [Rs.map, Rs.bind, List.length_append, List.length_cons, List.length_nil]
      cases rMany one (n - (xs.length + 1)) t <;> simp
     case measure =>
      simp [intOf]
      omega
   ·have hl' : ¬ (xs.length : Int) < (n : Int) := by omega
    have hre : R = .ok xs q := by rw [← KR.out, show n - xs.length = 0 by omega]; simp [rMany, Rs.map, Rs.bind]
    go_wp2_with fail
    try rw [Exit.jump_ret]
    go_ret2
    rw [hre]
    refine ⟨_, rfl, DV.more ?_ (KD.out.done (flatD_len hds xs)), KB.out, KO.out, hq⟩
    intro g hg
    rcases hg with hg | hg
    ·exact hg.1
    ·obtain ⟨us, hrw, -⟩ := KD.out.row
     exact (Row.block hrw hg).1
end Go.Proofs.YtcdefnbehlcgeaaGreatDoor
