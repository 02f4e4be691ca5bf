/- The document: kids. The document's walk: what it tells; where it stops at once. -/
import Derived.Test.YtlilfmpikampgaaGreatDoorPH8
import Derived.Test.YtlilfmpikampgaaGreatDoorPKa
namespace Go.Proofs.YtlilfmpikampgaaGreatDoor
open Go.RowKit

set_option maxRecDepth 20000 in
set_option maxHeartbeats 4000000 in
theorem kids_any (k n : Int) (tt : T) (A B : Option Addr) (m c m2 c2 : Nat) (l r : List QT) (F : Nat → Prop) (w : World) (hl : QL w F l (.slice A m c)) (hr : QL w F r (.slice B m2 c2)) (hs : l.length + r.length ≤ 524288) :
    Calls Tryz.prog 42 #[.agg (pcs k n tt (.slice A m c) (.slice B m2 c2))] w fun e w' => (∃ A' c' F', e = .returned (.slice A' (l.length + r.length) c') ∧ QL w' F' (l ++ r) (.slice A' (l.length + r.length) c') ∧ (∀ b, F' b → F b ∨ (w.heap.size ≤ b ∧ b < w'.heap.size))) ∧ Only [] w w' := by
  have rs := store_com
  obtain ⟨rfl, xs, hx, hxn⟩ := ql_news hl
  obtain ⟨rfl, ys, hy, hyn⟩ := ql_news hr
  obtain ⟨i, hi, hz, hz1, hz2⟩ := qinfo info_pat
  have o0 : Only [] w (w.alloc (.cells (pcs k n tt (.slice A l.length c) (.slice B r.length c2)) 30)) := (Only.refl [] w).alloc _
  have ol : ∀ {X : Option Addr} {zs : List Value} {q : Nat} {w' : World}, (q ≠ 0 → ∃ ad, X = some ad ∧ ∀ j u, zs[j]? = some u → w.cell? (ad.add j) = some u) → Only [] w w' → (q ≠ 0 → ∃ ad, X = some ad ∧ ∀ j u, zs[j]? = some u → w'.cell? (ad.add j) = some u) := fun h o hq => by
    obtain ⟨ad, h1, h2⟩ := h hq
    refine ⟨ad, h1, fun j u hj => ?_⟩
    have := h2 j u hj
    refine (o.cell (p := ad.add j) ?_ (by simp)).trans this
    apply Nat.lt_of_not_le
    intro hle
    unfold World.cell? at this
    rw [Array.getElem?_eq_none hle] at this
    simp at this
  have B0 := Lib.hid (Bk.made w 30 (pcs k n tt (.slice A l.length c) (.slice B r.length c2)))
  have O0 := Lib.hid o0
  have HX := Lib.hid hx
  have HY := Lib.hid hy
  have XN := Lib.hid (ol hxn o0)
  have YN := Lib.hid (fun w' (o : Only [] w w') => ol hyn o)
  have hlx := PIts.len hx
  have hly := PIts.len hy
  have h63 : 0 + l.length ≤ maxLen := by unfold maxLen; omega
  have h64 : l.length + r.length ≤ maxLen := by unfold maxLen; omega
  clear hl hr hx hy hxn hyn ol o0
  go_enter Tryz.func42, Tryz.ntmps42
  go_wp2_with (at_builtin; first
    | (refine wpList_appAny (by rfl) _ _ _ (by rfl) (w.heap.size + 1) 30 i _ 11 152 Tryz.underlying28 hi hz hz1 hz2 rfl (by omega) none 0 0 [] (by rfl) ⟨rfl, .inl ⟨rfl, rfl⟩⟩ A l.length c xs (by rfl) hlx XN.out (pits_one HX.out) h63 (by omega) (by simp) ?_; intro A1 c1 w1 h1 o1 g1; have H1 := Lib.hid (show w1.ownsRow (w.heap.size + 1) 30 11 (.slice A1 l.length c1) l.length xs from by simpa using h1); have O1 := Lib.hid (O0.out.trans o1 (by simp [Value.ownBlock])); have B1 := Lib.hid (B0.out.only o1 (by simp [Value.ownBlock])); have d10 := B1.out.cell0 (i := 10) rfl; have G1 := Lib.hid g1; clear h1 o1 g1)
    | (refine wpList_appAny (by rfl) _ _ _ (by rfl) (w.heap.size + 1) 30 i _ 11 152 Tryz.underlying28 hi hz hz1 hz2 rfl (by omega) A1 l.length c1 xs (by rfl) H1.out B r.length c2 ys (by rfl) hly (YN.out _ O1.out) (pits_one HY.out) h64 (by omega) (by have := B1.out.lt; omega) ?_; intro A2 c3 w2 h2 o2 g2; have H2 := Lib.hid h2; have O2 := Lib.hid o2; clear h2 o2 g2))
  have og := O1.out.trans O2.out (fun i hi => .inr (by
    have := (Row.block H1.out (g := i) (by simpa using hi)).1
    omega))
  have O12 : Only (Value.slice A1 l.length c1).ownBlock.toList w w2 := (O1.out.more (by simp)).trans O2.out (fun i hi => .inl hi)
  have mv : ∀ t sl sr, QV w F t sl sr → QV w2 F t sl sr := fun t sl sr h => QV.same og h
  have hp := pits_app (PIts.move mv HY.out) (PIts.move mv HX.out)
  have hq := ql_of_row (l := l ++ r) (by rw [List.length_append]; exact H2.out) hp
  rw [List.length_append] at hq
  have HQ := Lib.hid hq
  have OG := Lib.hid og
  have HFb := Lib.hid (show ∀ b, (Value.slice A2 (l.length + r.length) c3).ownBlock = some b → w.heap.size ≤ b ∧ b < w2.heap.size from fun b hb => by
    have := Row.block H2.out (g := b) hb
    omega)
  clear hq hp og O12 mv
  go_ret
  exact ⟨⟨A2, c3, _, rfl, HQ.out, fun b hb => hb.imp id (HFb.out b)⟩, OG.out⟩
end Go.Proofs.YtlilfmpikampgaaGreatDoor

namespace Go.Proofs.YtlilfmpikampgaaGreatDoor
open Go.RowKit

mutual
/-- No list of more than so many. -/
def QT.Sz : QT → Prop
  | .seq _ l r => l.length ≤ 262144 ∧ r.length ≤ 1 ∧ QSzs l ∧ QSzs r
  | _ => True
def QSzs : List QT → Prop
  | [] => True
  | t :: l => t.Sz ∧ QSzs l
end
theorem QSzs.iff {l : List QT} : QSzs l ↔ ∀ t ∈ l, t.Sz := by
  induction l with
  | nil => simp [QSzs]
  | cons t l ih => simp [QSzs, ih]
def RWE (w : World) (q : Nat × List Int × Int) (e : Ending) (w' : World) : Prop := ∃ A' cap', e = .returned (.tuple #[.agg #[.int .i64 q.1, .slice A' q.2.1.length cap'], .int .i64 q.2.2]) ∧ Lies w' A' q.2.1 ∧ Only [] w w'
def RWOk (t : QT) : Prop := ∀ (sl sr : Value) (F : Nat → Prop) (met : Nat) (bs : List Int) (deep : Nat) (A : Option Addr) (cap : Nat) (w : World), QV w F t sl sr → (∀ b, F b → b < w.heap.size) → Lies w A bs → bs.length ≤ met → met ≤ 1024 → deep ≤ 64 →
  Calls Tryz.prog 25 #[.agg (pcs t.k t.n t.t sl sr), .int .i64 32, .agg #[.int .i64 met, .slice A bs.length cap], .int .i64 deep] w fun e w' => RWE w (qthr t met bs deep) e w'
theorem RWOk.use {t : QT} (h : RWOk t) {sl sr : Value} {F : Nat → Prop} {met : Nat} {bs : List Int} {deep : Nat} {A : Option Addr} {cap : Nat} {D : Int} {w : World} {q : Nat × List Int × Int} (h1 : QV w F t sl sr) (h2 : ∀ b, F b → b < w.heap.size) (h3 : Lies w A bs) (h6 : bs.length ≤ met) (h7 : met ≤ 1024) (h8 : deep ≤ 64) (hD : D = (deep : Int)) (hq : qthr t met bs deep = q) :
    Calls Tryz.prog 25 #[.agg #[.int .i64 t.k, .int .i64 t.n, .int .i64 t.t.k, .int .i64 t.t.n, .complex .f64 t.t.x t.t.y, .string t.t.S, .int .i64 t.t.a, .int .i64 t.t.b, .slice none 0 0, sl, sr], .int .i64 32, .agg #[.int .i64 met, .slice A bs.length cap], .int .i64 D] w fun e w' => RWE w q e w' := by
  subst hD hq
  exact h sl sr F met bs deep A cap w h1 h2 h3 h6 h7 h8
set_option maxRecDepth 20000 in
set_option maxHeartbeats 4000000 in
theorem rw_full (k n : Int) (tt : T) (sl sr : Value) (met : Nat) (bs : List Int) (deep : Nat) (A : Option Addr) (cap : Nat) (w : World) (hA : Lies w A bs) (hm : met ≤ 1024) (hd : deep ≤ 64) (hc : 1024 ≤ met ∨ 64 ≤ deep) :
    Calls Tryz.prog 25 #[.agg (pcs k n tt sl sr), .int .i64 32, .agg #[.int .i64 met, .slice A bs.length cap], .int .i64 deep] w fun e w' => RWE w (met, bs, 34) e w' := by
  have HA := Lib.hid hA
  clear hA
  by_cases h1 : 1024 ≤ met
  · have p1 : (1024 : Int) ≤ (met : Int) := by omega
    clear hc
    go_enter Tryz.func25, Tryz.ntmps25
    go_wp2_with fail
    exact bodyPost_ret (v := .tuple #[.agg #[.int .i64 met, .slice A bs.length cap], .int .i64 34]) (by simp [results, Tryz.results25, go_sem]) rfl ⟨A, cap, rfl, HA.out.same ((((Only.refl [] w).alloc _).alloc _).alloc _), (((Only.refl [] w).alloc _).alloc _).alloc _⟩
  · have p1 : ¬ (1024 : Int) ≤ (met : Int) := by omega
    have p2 : (64 : Int) ≤ (deep : Int) := by omega
    clear hc h1
    go_enter Tryz.func25, Tryz.ntmps25
    go_wp2_with fail
    exact bodyPost_ret (v := .tuple #[.agg #[.int .i64 met, .slice A bs.length cap], .int .i64 34]) (by simp [results, Tryz.results25, go_sem]) rfl ⟨A, cap, rfl, HA.out.same ((((Only.refl [] w).alloc _).alloc _).alloc _), (((Only.refl [] w).alloc _).alloc _).alloc _⟩
theorem Lies.own {w : World} {A : Option Addr} {bs : List Int} {c base : Nat} (h : w.ownsRow base 3 1 (.slice A bs.length c) bs.length (bs.map fun z => Value.int .i64 z)) : Lies w A bs := fun k z hz => by
  rcases h.2 with ⟨hv, h0⟩ | ⟨g, cap, cur, hv, _, hg, _⟩
  · rw [List.length_eq_zero_iff.1 h0] at hz
    simp at hz
  · injection hv with hA _ hc
    subst hA hc
    exact ⟨g, rfl, Row.cell h k _ (by rw [List.getElem?_map, hz]; rfl), cur, hg⟩
end Go.Proofs.YtlilfmpikampgaaGreatDoor
