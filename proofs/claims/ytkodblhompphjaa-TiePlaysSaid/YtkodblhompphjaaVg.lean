/- The law TieLoads, given what the program's ties answer. More of what is asked of the program's ties; is a pid one of some; scripts of calls. The program's: may a pid be, may two be linked, the pair of two, may a tie be. -/
import Derived.Test.YtkodblhompphjaaVf
import Derived.Test.YtkodblhompphjaaVd
namespace Go.Proofs.Ytkodblhompphjaa
open Go.RowKit

/-- What is asked of the program's Load. -/
def LoadOk (R : TiesRep) : Prop := ∀ (A : Option Addr) (xs : List Te) (cap : Nat) (w : World), RdS KT w A xs → xs.length * 40 + 4096 ≤ 140737488355328 → Calls Try.prog 13 #[.slice A xs.length cap] w fun e w' =>
  (loadE xs = 0 ∧ ∃ b F, e = .returned (.tuple #[ptB b, .int .i64 0]) ∧ R.rep w' b F xs ∧ (∀ g ∈ F, w.heap.size ≤ g) ∧ Only [] w w') ∨ (loadE xs ≠ 0 ∧ e = .returned (.tuple #[.pointer none, .int .i64 (loadE xs)]) ∧ Only [] w w')
def AwakeOk15 : Prop := ∀ w : World, Calls Try.prog 12 #[] w fun e w' => e = .returned (.bool true) ∧ Only [] w w'

set_option maxHeartbeats 8000000 in
theorem loads_any (R : TiesRep) (hL : LoadOk R) (hA : AwakeOk15) (A : Option Addr) (xs : List Te) (cap : Nat) (w : World) (h : RdS KT w A xs) (hl : xs.length * 40 + 4096 ≤ 140737488355328) :
    Calls Try.prog 4 #[.slice A xs.length cap] w fun e w' => e = .returned (.bool true) ∧ Only [] w w' := by
  have H := Lib.hid h
  have hl1 : xs.length ≤ 17592186044416 := by omega
  have LL : (([] : List Te).length + xs.length) * KT.by' ≤ 140737488355328 := by show (0 + xs.length) * 40 ≤ _; omega
  clear h
  go_enter Try.func4, Try.ntmps4
  go_wp2_with (at_builtin; refine wpList_appS KT w (by rfl) (.tmp 9) (.tmp 10) (by rfl) (base := w.heap.size) (v := .slice none 0 0) (xs := []) (by rfl) (OwnS.nil _ _ _) A xs xs.length cap (by rfl) rfl H.out (Nat.le_refl _) LL ?_; intro v' w1 hown hgrow hat; have O1 : Hid (Only [] w w1) := Lib.hid (Only.of_grown hgrow); obtain ⟨A1, c1, e1, -, -, -, -⟩ := hown.form; subst e1; have V1 : Hid (OwnS KT w1 w.heap.size (.slice A1 xs.length c1) xs) := Lib.hid (by simpa using hown); clear hgrow hown hat)
  have rdw : ∀ {α : Type} {K : Sk α} {W : World} {base : Nat} {B : Option Addr} {n c : Nat} {l : List α}, OwnS K W base (.slice B n c) l → RdS K W B l := fun {α K W base B n c l} ho => by
    obtain ⟨B', c', e, -, -, r, -⟩ := ho.form
    injection e with e
    subst e
    exact r
  have K2 := Lib.hid (hL A1 xs c1 w1 (rdw V1.out) hl)
  clear LL
  (with_reducible refine K2.out.mono ?_)
  rintro e w2 (⟨he0, b, F, rfl, hrep, hF, o2⟩ | ⟨he0, rfl, o2⟩)
  · have O2 := Lib.hid (O1.out.trans o2 (by simp))
    have V2 := Lib.hid (V1.out.only o2 (by simp))
    have Z2 := Lib.hid (show w1.heap.size ≤ w2.heap.size from o2.size)
    have D1 := Lib.hid V1.out.own_ge
    have HF := Lib.hid hF
    have HR2 := Lib.hid hrep
    have HFl := Lib.hid (R.lt hrep)
    clear hF hrep
    have K3 := Lib.hid (rload_any A xs cap w2 (H.out.only O2.out (by simp)) hl1)
    have HE := Lib.hid he0
    clear o2 he0 K2
    go_wp2_with fail
    (with_reducible refine K3.out.mono ?_)
    rintro e w3 ⟨f3, v3, l3, rfl, hv3, hy3, hn3, o3⟩
    obtain ⟨A3, c3, e3, -, -, -, -⟩ := hv3.form
    subst e3
    obtain ⟨rfl, el⟩ := hy3 HE.out
    have el' := el.symm
    subst el'
    have he := HE.out
    rw [he]
    have O3 := Lib.hid (O2.out.trans o3 (by simp))
    have V3 := Lib.hid (V2.out.only o3 (by simp))
    have Z3 := Lib.hid (show w2.heap.size ≤ w3.heap.size from o3.size)
    have W3 := Lib.hid hv3
    have R3 := Lib.hid (R.only HR2.out o3 (by simp))
    clear o3 hv3 hy3 hn3 K3
    go_upto_region 5 with fail
    have o4 := O3.out.alloc (.cells (tiC true (.slice A3 xs.length c3)) 27)
    have V4 := Lib.hid (V3.out.alloc (.cells (tiC true (.slice A3 xs.length c3)) 27))
    have W4 := Lib.hid (W3.out.alloc (.cells (tiC true (.slice A3 xs.length c3)) 27))
    have R4 := Lib.hid (R.only R3.out ((Only.refl [] w3).alloc (.cells (tiC true (.slice A3 xs.length c3)) 27)) (by simp))
    have BT := Lib.hid (Bk.made w3 27 (tiC true (.slice A3 xs.length c3)))
    have Z4 := Lib.hid (show w3.heap.size ≤ (w3.alloc (.cells (tiC true (.slice A3 xs.length c3)) 27)).heap.size by simp)
    have S4 := rsame_any A1 A xs xs c1 cap _ (rdw V4.out) (H.out.only o4 (by simp)) hl1 hl1
    rw [decide_eq_true rfl] at S4
    have S4 := Lib.hid S4
    have O4 := Lib.hid o4
    clear o4
    generalize hw4 : w3.alloc (.cells (tiC true (.slice A3 xs.length c3)) 27) = w4 at *
    clear hw4
    go_wp2_with fail
    (with_reducible refine S4.out.mono ?_)
    rintro e w5 ⟨rfl, k5, rfl⟩
    have Y5 : Hid (RwS (w4.drewN k5) w.heap.size 45 5 (.slice A1 xs.length c1) xs.length) := Lib.hid (V4.out.drewN k5).rw_
    have R5 := Lib.hid (R.only R4.out ((Only.refl [] w4).drewN k5) (by simp))
    have W5 := Lib.hid (W4.out.drewN k5)
    have B5 := Lib.hid (BT.out.drewN k5)
    have O5 := Lib.hid (O4.out.drewN k5)
    have Z5 := Lib.hid (show w3.heap.size ≤ (w4.drewN k5).heap.size from Z4.out)
    clear S4 V4 R4 W4 BT O4 Z4
    generalize hw5 : w4.drewN k5 = w6 at *
    clear hw5
    go_wp2_with fail
    go_loopw [8] (fun iv wr => ∃ i : Nat, iv = .int .i64 i ∧ i ≤ xs.length ∧ RwS wr w.heap.size 45 5 (.slice A1 xs.length c1) xs.length ∧ Only (Value.ownBlock (.slice A1 xs.length c1)).toList w6 wr) (fun iv _ => xs.length - (intOf iv).toNat)
    case atStart => exact ⟨0, rfl, Nat.zero_le _, Y5.out, Only.refl _ _⟩
    case round =>
      obtain ⟨i, rfl, hi, hr, ho⟩ := hrel
      by_cases hlt : i < xs.length
      · obtain ⟨g, cap', eg, hg1, hg2⟩ := hr.form (by omega)
        injection eg with eA _ eC
        subst eA eC
        have hm : i * 5 + 5 ≤ xs.length * 5 := by have := Nat.mul_le_mul_right 5 (show i + 1 ≤ xs.length from hlt); rw [Nat.succ_mul] at this; exact this
        obtain ⟨u0, hu0⟩ := hr.cell (i * 5) (by omega)
        obtain ⟨u1, hu1⟩ := hr.cell (i * 5 + 1) (by omega)
        obtain ⟨u2, hu2⟩ := hr.cell (i * 5 + 2) (by omega)
        obtain ⟨u3, hu3⟩ := hr.cell (i * 5 + 3) (by omega)
        obtain ⟨u4, hu4⟩ := hr.cell (i * 5 + 4) (by omega)
        have fr := hr.free
        have HR := Lib.hid hr
        have HO := Lib.hid ho
        clear hr ho hm
        go_wp2_with fail
        go_roundw
        case rel => exact ⟨i + 1, by go_num, by omega, (((((HR.out).set (i * 5) _).set (i * 5 + 1) _).set (i * 5 + 2) _).set (i * 5 + 3) _).set (i * 5 + 4) _, (((((HO.out).set (.inl (by simp [Value.ownBlock])) _).set (.inl (by simp [Value.ownBlock])) _).set (.inl (by simp [Value.ownBlock])) _).set (.inl (by simp [Value.ownBlock])) _).set (.inl (by simp [Value.ownBlock])) _⟩
        case measure => simp [intOf]; omega
      · have HR := Lib.hid hr
        have HO := Lib.hid ho
        clear hr ho
        have OX := Lib.hid (O5.out.trans HO.out (fun i hi => .inr (D1.out i hi).1))
        have RX := Lib.hid (R.only R5.out HO.out (fun g hg hm => by have h1 := D1.out g hm; have h2 := HF.out g hg; omega))
        have WX := Lib.hid (W5.out.only HO.out (fun g hg hm => by have h1 := D1.out g hm; have h2 := (W5.out.block hg).1; have := Z2.out; omega))
        have BX := Lib.hid (B5.out.only HO.out (fun hm => by have h1 := D1.out _ hm; have := Z2.out; have := Z3.out; omega))
        clear HO HR
        generalize hgw : wr = w7 at *
        clear hgw
        have b0 := BX.out.cell0 (i := 0) rfl
        have b1 := BX.out.cell0 (i := 1) rfl
        have K7 := Lib.hid (is_any R RX.out true A3 c3 ⟨1, 1⟩ (rdw WX.out) hl)
        go_wp2_with fail
        (with_reducible refine K7.out.mono ?_)
        rintro e w8 ⟨rfl, o8⟩
        have O8 := Lib.hid (OX.out.trans o8 (by simp))
        have K8 := Lib.hid (hA w8)
        clear o8
        go_wp2_with fail
        (with_reducible refine K8.out.mono ?_)
        rintro e w9 ⟨rfl, o9⟩
        go_wp2_with fail
        go_ret
        exact ⟨rfl, O8.out.trans o9 (by simp)⟩
  · have O2 := Lib.hid (O1.out.trans o2 (by simp))
    have V2 := Lib.hid (V1.out.only o2 (by simp))
    have Z2 := Lib.hid (show w1.heap.size ≤ w2.heap.size from o2.size)
    have D1 := Lib.hid V1.out.own_ge
    have K3 := Lib.hid (rload_any A xs cap w2 (H.out.only O2.out (by simp)) hl1)
    have HE := Lib.hid he0
    clear o2 he0 K2
    go_wp2_with fail
    (with_reducible refine K3.out.mono ?_)
    rintro e w3 ⟨f3, v3, l3, rfl, hv3, hy3, hn3, o3⟩
    obtain ⟨A3, c3, e3, -, -, -, -⟩ := hv3.form
    subst e3
    obtain ⟨rfl, el⟩ := hn3 HE.out
    subst el
    have he := HE.out
    generalize loadE xs = ec at *
    have O3 := Lib.hid (O2.out.trans o3 (by simp))
    have V3 := Lib.hid (V2.out.only o3 (by simp))
    have Z3 := Lib.hid (show w2.heap.size ≤ w3.heap.size from o3.size)
    have W3 := Lib.hid hv3
    clear o3 hv3 hy3 hn3 K3
    go_upto_region 5 with fail
    have o4 := O3.out.alloc (.cells (tiC false (.slice A3 ([] : List Te).length c3)) 27)
    have V4 := Lib.hid (V3.out.alloc (.cells (tiC false (.slice A3 ([] : List Te).length c3)) 27))
    have S4 := rsame_any A1 A xs xs c1 cap _ (rdw V4.out) (H.out.only o4 (by simp)) hl1 hl1
    rw [decide_eq_true rfl] at S4
    have S4 := Lib.hid S4
    have O4 := Lib.hid o4
    have t0 : (ec == 0) = false := by simpa using he
    have t1 : (ec != 0) = true := by simpa using he
    have t2 : (ec != ec) = false := bne_self_eq_false _
    clear o4
    simp only [List.length_nil] at *
    generalize hw4 : w3.alloc (.cells (tiC false (.slice A3 0 c3)) 27) = w4 at *
    clear hw4
    go_wp2_with fail
    (with_reducible refine S4.out.mono ?_)
    rintro e w5 ⟨rfl, k5, rfl⟩
    have Y5 : Hid (RwS (w4.drewN k5) w.heap.size 45 5 (.slice A1 xs.length c1) xs.length) := Lib.hid (V4.out.drewN k5).rw_
    have O5 := Lib.hid (O4.out.drewN k5)
    clear S4 V4 O4
    generalize hw5 : w4.drewN k5 = w6 at *
    clear hw5
    go_wp2_with fail
    go_loopw [8] (fun iv wr => ∃ i : Nat, iv = .int .i64 i ∧ i ≤ xs.length ∧ RwS wr w.heap.size 45 5 (.slice A1 xs.length c1) xs.length ∧ Only (Value.ownBlock (.slice A1 xs.length c1)).toList w6 wr) (fun iv _ => xs.length - (intOf iv).toNat)
    case atStart => exact ⟨0, rfl, Nat.zero_le _, Y5.out, Only.refl _ _⟩
    case round =>
      obtain ⟨i, rfl, hi, hr, ho⟩ := hrel
      by_cases hlt : i < xs.length
      · obtain ⟨g, cap', eg, hg1, hg2⟩ := hr.form (by omega)
        injection eg with eA _ eC
        subst eA eC
        have hm : i * 5 + 5 ≤ xs.length * 5 := by have := Nat.mul_le_mul_right 5 (show i + 1 ≤ xs.length from hlt); rw [Nat.succ_mul] at this; exact this
        obtain ⟨u0, hu0⟩ := hr.cell (i * 5) (by omega)
        obtain ⟨u1, hu1⟩ := hr.cell (i * 5 + 1) (by omega)
        obtain ⟨u2, hu2⟩ := hr.cell (i * 5 + 2) (by omega)
        obtain ⟨u3, hu3⟩ := hr.cell (i * 5 + 3) (by omega)
        obtain ⟨u4, hu4⟩ := hr.cell (i * 5 + 4) (by omega)
        have fr := hr.free
        have HR := Lib.hid hr
        have HO := Lib.hid ho
        clear hr ho hm
        go_wp2_with fail
        go_roundw
        case rel => exact ⟨i + 1, by go_num, by omega, (((((HR.out).set (i * 5) _).set (i * 5 + 1) _).set (i * 5 + 2) _).set (i * 5 + 3) _).set (i * 5 + 4) _, (((((HO.out).set (.inl (by simp [Value.ownBlock])) _).set (.inl (by simp [Value.ownBlock])) _).set (.inl (by simp [Value.ownBlock])) _).set (.inl (by simp [Value.ownBlock])) _).set (.inl (by simp [Value.ownBlock])) _⟩
        case measure => simp [intOf]; omega
      · have HR := Lib.hid hr
        have HO := Lib.hid ho
        clear hr ho
        have OX := Lib.hid (O5.out.trans HO.out (fun i hi => .inr (D1.out i hi).1))
        clear HO HR
        generalize hgw : wr = w7 at *
        clear hgw
        have K8 := Lib.hid (hA w7)
        go_wp2_with fail
        (with_reducible refine K8.out.mono ?_)
        rintro e w9 ⟨rfl, o9⟩
        go_wp2_with fail
        go_ret
        exact ⟨rfl, OX.out.trans o9 (by simp)⟩
end Go.Proofs.Ytkodblhompphjaa

namespace Go.Proofs.Ytkodblhompphjaa
open Go.RowKit
set_option maxRecDepth 20000

/-- A call of the script. -/
structure TOp where
  kd : Int
  rf : Int
  an : Int
  ag : Int
  bn : Int
  bg : Int
abbrev TOp.cs (x : TOp) : Array Value := #[.int .i64 x.kd, .int .i64 x.rf, .int .i64 x.an, .int .i64 x.ag, .int .i64 x.bn, .int .i64 x.bg]
def encO (x : TOp) : List Value := [.int .i64 x.kd, .int .i64 x.rf, .int .i64 x.an, .int .i64 x.ag, .int .i64 x.bn, .int .i64 x.bg]
def kO : List Kd := [.i, .i, .i, .i, .i, .i]
theorem decO {w : World} (cs : List Value) (h : Oks w kO cs) : ∃ a : TOp, True ∧ cs = encO a := by
  simp only [kO, Oks, Kd.ok] at h
  obtain ⟨_, _, rfl, ⟨k, rfl, -⟩, _, _, rfl, ⟨c, rfl, -⟩, _, _, rfl, ⟨n, rfl, -⟩, _, _, rfl, ⟨g, rfl, -⟩, _, _, rfl, ⟨a, rfl, -⟩, _, _, rfl, ⟨b, rfl, -⟩, rfl⟩ := h
  exact ⟨⟨k, c, n, g, a, b⟩, trivial, rfl⟩
noncomputable def KO : Sk TOp where
  e := 34
  t := 22
  k := 6
  by' := 48
  i := (Try.prog.info? 34).getD default
  z := .agg #[.int .i64 0, .int .i64 0, .int .i64 0, .int .i64 0, .int .i64 0, .int .i64 0]
  enc := encO
  ht := Try.underlying22
  hi := by kernel_rfl
  hz := by kernel_rfl
  hk := by kernel_rfl
  hb := by kernel_rfl
  hzs := rfl
  h0 := by decide
  hb0 := by decide
  henc := fun _ => rfl
  hone := fun a u hu => by
    simp only [encO, List.mem_cons, List.not_mem_nil, or_false] at hu
    rcases hu with rfl | rfl | rfl | rfl | rfl | rfl <;> rfl
theorem RdO.at6 {w : World} {A : Option Addr} {xs : List TOp} (h : RdS KO w A xs) (h0 : 0 < xs.length) : ∃ bl off, A = some ⟨bl, off, none⟩ ∧ bl < w.heap.size ∧ ∀ i x, xs[i]? = some x →
    w.cell? ⟨bl, off + i * 6, none⟩ = some (.int .i64 x.kd) ∧ w.cell? ⟨bl, off + i * 6 + 1, none⟩ = some (.int .i64 x.rf) ∧ w.cell? ⟨bl, off + i * 6 + 2, none⟩ = some (.int .i64 x.an) ∧
    w.cell? ⟨bl, off + i * 6 + 3, none⟩ = some (.int .i64 x.ag) ∧ w.cell? ⟨bl, off + i * 6 + 4, none⟩ = some (.int .i64 x.bn) ∧ w.cell? ⟨bl, off + i * 6 + 5, none⟩ = some (.int .i64 x.bg) := by
  obtain ⟨bl, off, e, hb, hc⟩ := h.form h0
  exact ⟨bl, off, e, hb, fun i x hx => ⟨hc i x hx 0 _ rfl, hc i x hx 1 _ rfl, hc i x hx 2 _ rfl, hc i x hx 3 _ rfl, hc i x hx 4 _ rfl, hc i x hx 5 _ rfl⟩⟩

def pairT (a p : Pd) : Bool := okP a && okP p && !eqP a p
noncomputable def linkF (l : List Te) (a p : Pd) : List Te × Int := if pairT a p = true then (if linkT a p ∈ l then (l, 0) else if 1024 ≤ l.length then (l, 150) else (putT l (linkT a p), 0)) else (l, 1)
noncomputable def unlinkF (l : List Te) (a p : Pd) : List Te × Int := if pairT a p = true then (if linkT a p ∈ l then (lessT l (linkT a p), 0) else (l, 3)) else (l, 1)
def monF (l : List Te) (r : Int) (a p : Pd) : List Te × Int := if (okP a && okP p && decide (1 ≤ r ∧ r ≤ 4611686018427387903) && (findT l r).isNone) = true then (if 1024 ≤ l.length then (l, 150) else (putT l ⟨r, a, p⟩, 0)) else (l, 1)
def goneT (l : List Te) (p : Pd) : List Te := l.filter (fun x => !eqP x.a p && !eqP x.b p)
def toldT (l : List Te) (p : Pd) : List Te := l.filter (fun x => decide (0 < x.r) && eqP x.b p && !eqP x.a p)
theorem pairT_iff {a p : Pd} : pairT a p = true ↔ okP a = true ∧ okP p = true ∧ a ≠ p := by
  unfold pairT
  simp only [Bool.and_eq_true]
  constructor
  · rintro ⟨⟨h1, h2⟩, h3⟩
    exact ⟨h1, h2, (fun e => by rw [eqP_iff.2 e] at h3; cases h3)⟩
  · rintro ⟨h1, h2, h3⟩
    refine ⟨⟨h1, h2⟩, ?_⟩
    cases he : eqP a p with
    | false => rfl
    | true => exact absurd (eqP_iff.1 he) h3
theorem linkF_may {l : List Te} (h : MayT l) (a p : Pd) : MayT (linkF l a p).1 := by
  unfold linkF
  split
  · rename_i hp
    obtain ⟨h1, h2, h3⟩ := pairT_iff.1 hp
    split
    · exact h
    · rename_i hn
      split
      · exact h
      · exact mayT_link h h1 h2 h3 hn
  · exact h
theorem unlinkF_may {l : List Te} (h : MayT l) (a p : Pd) : MayT (unlinkF l a p).1 := by
  unfold unlinkF
  split
  · split
    · exact mayT_less h _
    · exact h
  · exact h
theorem monF_may {l : List Te} (h : MayT l) (r : Int) (a p : Pd) : MayT (monF l r a p).1 := by
  unfold monF
  split
  · rename_i hc
    simp only [Bool.and_eq_true, decide_eq_true_eq, Option.isNone_iff_eq_none] at hc
    split
    · exact h
    · exact mayT_monitor h hc.1.1.1 hc.1.1.2 hc.1.2 hc.2
  · exact h
/-- Behind a Link that is OK the two are linked, from both sides. -/
theorem linkF_ok {l : List Te} (h : MayT l) {a p : Pd} (h0 : (linkF l a p).2 = 0) : p ∈ linksT (linkF l a p).1 a ∧ a ∈ linksT (linkF l a p).1 p := by
  have hm := linkF_may h a p
  have key : linkT a p ∈ (linkF l a p).1 ∧ a ≠ p := by
    unfold linkF at h0 ⊢
    split
    · rename_i hp
      rw [if_pos hp] at h0
      refine ⟨?_, (pairT_iff.1 hp).2.2⟩
      split
      · assumption
      · rename_i hn
        rw [if_neg hn] at h0
        split
        · rename_i hl
          rw [if_pos hl] at h0
          cases h0
        · exact putT_mem.2 (.inl rfl)
    · rename_i hp
      rw [if_neg hp] at h0
      cases h0
  refine ⟨(linked_iff hm).2 key, (linked_iff hm).2 ⟨?_, key.2.symm⟩⟩
  rw [← linkT_comm key.2]
  exact key.1
/-- Behind an Unlink that is OK they are not. -/
theorem unlinkF_ok {l : List Te} (h : MayT l) {a p : Pd} (h0 : (unlinkF l a p).2 = 0) : p ∉ linksT (unlinkF l a p).1 a ∧ a ∉ linksT (unlinkF l a p).1 p := by
  have hm := unlinkF_may h a p
  have key : linkT a p ∉ (unlinkF l a p).1 ∧ a ≠ p := by
    unfold unlinkF at h0 ⊢
    split
    · rename_i hp
      rw [if_pos hp] at h0
      refine ⟨?_, (pairT_iff.1 hp).2.2⟩
      split
      · exact fun hx => (lessT_mem.1 hx).2 rfl
      · assumption
    · rename_i hp
      rw [if_neg hp] at h0
      cases h0
  refine ⟨fun hx => key.1 ((linked_iff hm).1 hx).1, fun hx => key.1 ?_⟩
  rw [linkT_comm key.2]
  exact ((linked_iff hm).1 hx).1
theorem goneT_mem {l : List Te} {p : Pd} {x : Te} : x ∈ goneT l p ↔ x ∈ l ∧ x.a ≠ p ∧ x.b ≠ p := by
  unfold goneT
  rw [List.mem_filter]
  simp only [Bool.and_eq_true, Bool.not_eq_true']
  constructor
  · rintro ⟨h1, h2, h3⟩
    exact ⟨h1, (fun e => by rw [eqP_iff.2 e] at h2; cases h2), (fun e => by rw [eqP_iff.2 e] at h3; cases h3)⟩
  · rintro ⟨h1, h2, h3⟩
    refine ⟨h1, ?_, ?_⟩
    · cases he : eqP x.a p with
      | false => rfl
      | true => exact absurd (eqP_iff.1 he) h2
    · cases he : eqP x.b p with
      | false => rfl
      | true => exact absurd (eqP_iff.1 he) h3
/-- Who is gone has nothing to do with anybody. -/
theorem gone_links (l : List Te) (p : Pd) : linksT (goneT l p) p = [] ∧ waT (goneT l p) p = [] := by
  constructor
  · apply List.eq_nil_iff_forall_not_mem.2
    intro q hq
    obtain ⟨x, hx, -, (⟨h, -⟩ | ⟨h, -⟩)⟩ := linksT_mem.1 hq
    · exact (goneT_mem.1 hx).2.2 h
    · exact (goneT_mem.1 hx).2.1 h
  · apply List.eq_nil_iff_forall_not_mem.2
    intro q hq
    unfold waT at hq
    obtain ⟨x, hx, h⟩ := List.mem_flatMap.1 hq
    split at h
    · rename_i hc
      simp only [Bool.and_eq_true] at hc
      exact (goneT_mem.1 hx).2.2 (eqP_iff.1 hc.2)
    · cases h
/-- What is told of who is gone: its watchers, others all, their refs rising. -/
theorem told_at {l : List Te} (h : MayT l) {p : Pd} {i : Nat} {x : Te} (hx : (toldT l p)[i]? = some x) : (eqP x.b p = true ∧ eqP x.a p = false) ∧ ∀ y, 0 < i → (toldT l p)[i - 1]? = some y → y.r < x.r := by
  have hm : ∀ {z : Te}, z ∈ toldT l p → z ∈ l ∧ 0 < z.r ∧ eqP z.b p = true ∧ eqP z.a p = false := fun {z} hz => by
    unfold toldT at hz
    rw [List.mem_filter] at hz
    simp only [Bool.and_eq_true, decide_eq_true_eq, Bool.not_eq_true'] at hz
    exact ⟨hz.1, hz.2.1.1, hz.2.1.2, hz.2.2⟩
  have hxm := hm (List.mem_of_getElem? hx)
  refine ⟨hxm.2.2, fun y h0 hy => ?_⟩
  have hym := hm (List.mem_of_getElem? hy)
  have hs : SrtT (toldT l p) := (mayT_srt h).filter _
  have hi := (List.getElem?_eq_some_iff.1 hx).1
  have := List.pairwise_iff_getElem.1 hs (i - 1) i (by omega) hi (by omega)
  rw [(List.getElem?_eq_some_iff.1 hx).2, (List.getElem?_eq_some_iff.1 hy).2] at this
  rw [aheadT_iff (by omega) (by omega)] at this
  omega
/-- The program's ties, what changes them. -/
structure TiesDoes (R : TiesRep) : Prop where
  new : ∀ w : World, Calls Try.prog 7 #[] w fun e w' => ∃ b F, e = .returned (ptB b) ∧ R.rep w' b F [] ∧ (∀ g ∈ F, w.heap.size ≤ g) ∧ Only [] w w'
  may : ∀ {w b F l}, R.rep w b F l → MayT l ∧ l.length ≤ 1024
  link : ∀ {w b F l} (a p : Pd), R.rep w b F l → Calls Try.prog 16 #[ptB b, .agg a.cs, .agg p.cs] w fun e w' => e = .returned (.int .i64 (linkF l a p).2) ∧ ∃ F', R.rep w' b F' (linkF l a p).1 ∧ (∀ g ∈ F', g ∈ F ∨ w.heap.size ≤ g) ∧ Only F w w'
  unlink : ∀ {w b F l} (a p : Pd), R.rep w b F l → Calls Try.prog 19 #[ptB b, .agg a.cs, .agg p.cs] w fun e w' => e = .returned (.int .i64 (unlinkF l a p).2) ∧ ∃ F', R.rep w' b F' (unlinkF l a p).1 ∧ (∀ g ∈ F', g ∈ F ∨ w.heap.size ≤ g) ∧ Only F w w'
  monitor : ∀ {w b F l} (r : Int) (a p : Pd), R.rep w b F l → Calls Try.prog 20 #[ptB b, .int .i64 r, .agg a.cs, .agg p.cs] w fun e w' => e = .returned (.int .i64 (monF l r a p).2) ∧ ∃ F', R.rep w' b F' (monF l r a p).1 ∧ (∀ g ∈ F', g ∈ F ∨ w.heap.size ≤ g) ∧ Only F w w'
  gone : ∀ {w b F l} (p : Pd), R.rep w b F l → Calls Try.prog 21 #[ptB b, .agg p.cs] w fun e w' => ∃ v1 v2 F', e = .returned (.tuple #[v1, v2]) ∧ OwnS KP w' w.heap.size v1 (linksT l p) ∧ OwnS KT w' w.heap.size v2 (toldT l p) ∧
    R.rep w' b F' (goneT l p) ∧ (∀ g ∈ F', g ∈ F ∨ w.heap.size ≤ g) ∧ (∀ g ∈ F', v1.ownBlock ≠ some g ∧ v2.ownBlock ≠ some g) ∧ Only F w w'
end Go.Proofs.Ytkodblhompphjaa

namespace Go.Proofs.Ytkodblhompphjaa
open Go.RowKit
set_option maxRecDepth 20000

theorem pokp_any (p : Pd) (w : World) : Calls Try.prog 45 #[.agg p.cs] w fun e w' => e = .returned (.bool (okP p)) ∧ Only [] w w' := by
  go_enter Try.func45, Try.ntmps45
  go_wp2_with fail
  all_goals
    go_ret
    exact ⟨retB (by rw [Bool.eq_iff_iff]; simp [okP]; omega), (Only.refl _ _).alloc _⟩
set_option maxHeartbeats 2000000 in
theorem mayLink_any (a b : Pd) (w : World) : Calls Try.prog 40 #[.agg a.cs, .agg b.cs] w fun e w' => e = .returned (.bool (pairT a b)) ∧ Only [] w w' := by
  have KP := fun p w => pokp_any p w
  have ep : pairT a b = (okP a && okP b && !eqP a b) := rfl
  generalize pairT a b = r at ep ⊢
  have BA := Lib.hid ((Bk.made w 32 a.cs).alloc (.cells b.cs 32))
  have BB := Lib.hid (Bk.newAt (w := w.alloc (.cells a.cs 32)) (t := 32) (cs := b.cs) (b := w.heap.size + 1) (by simp))
  have O := Lib.hid (((Only.refl [] w).alloc (.cells a.cs 32)).alloc (.cells b.cs 32))
  have hE : (!eqP a b) = !eq2 a.n a.g b.n b.g := rfl
  cases ha : okP a with
  | false =>
    have K1 : Hid (∀ w, Calls Try.prog 45 #[.agg a.cs] w fun e w' => e = .returned (.bool false) ∧ Only [] w w') := Lib.hid (fun w => ha ▸ KP a w)
    rw [ha, Bool.false_and, Bool.false_and] at ep
    have EP := Lib.hid ep
    clear KP ep hE
    go_enter Try.func40, Try.ntmps40
    go_wp2_with fail
    (with_reducible refine (K1.out _).mono ?_)
    rintro e w1 ⟨rfl, o1⟩
    go_wp2_with fail
    go_ret
    exact ⟨retB EP.out.symm, O.out.trans o1 (by simp)⟩
  | true =>
    have K1 : Hid (∀ w, Calls Try.prog 45 #[.agg a.cs] w fun e w' => e = .returned (.bool true) ∧ Only [] w w') := Lib.hid (fun w => ha ▸ KP a w)
    cases hb : okP b with
    | false =>
      have K2 : Hid (∀ w, Calls Try.prog 45 #[.agg b.cs] w fun e w' => e = .returned (.bool false) ∧ Only [] w w') := Lib.hid (fun w => hb ▸ KP b w)
      rw [ha, hb, Bool.true_and, Bool.false_and] at ep
      have EP := Lib.hid ep
      clear KP ep hE
      go_enter Try.func40, Try.ntmps40
      go_wp2_with fail
      (with_reducible refine (K1.out _).mono ?_)
      rintro e w1 ⟨rfl, o1⟩
      obtain ⟨x0, x1⟩ := (BB.out.only o1 (by simp)).pid
      have O1 := Lib.hid (O.out.trans o1 (by simp))
      clear o1
      go_wp2_with fail
      (with_reducible refine (K2.out _).mono ?_)
      rintro e w2 ⟨rfl, o2⟩
      go_wp2_with fail
      go_ret
      exact ⟨retB EP.out.symm, O1.out.trans o2 (by simp)⟩
    | true =>
      have K2 : Hid (∀ w, Calls Try.prog 45 #[.agg b.cs] w fun e w' => e = .returned (.bool true) ∧ Only [] w w') := Lib.hid (fun w => hb ▸ KP b w)
      rw [ha, hb, Bool.true_and, Bool.true_and, hE] at ep
      have EP := Lib.hid ep
      clear KP ep hE
      go_enter Try.func40, Try.ntmps40
      go_wp2_with fail
      (with_reducible refine (K1.out _).mono ?_)
      rintro e w1 ⟨rfl, o1⟩
      have BA1 := Lib.hid (BA.out.only o1 (by simp))
      have BB1 := Lib.hid (BB.out.only o1 (by simp))
      obtain ⟨x0, x1⟩ := BB1.out.pid
      have O1 := Lib.hid (O.out.trans o1 (by simp))
      clear o1 BA BB O
      go_wp2_with fail
      (with_reducible refine (K2.out _).mono ?_)
      rintro e w2 ⟨rfl, o2⟩
      clear x0 x1
      obtain ⟨x0, x1⟩ := (BB1.out.only o2 (by simp)).pid
      obtain ⟨y0, y1⟩ := (BA1.out.only o2 (by simp)).pid
      have O2 := Lib.hid (O1.out.trans o2 (by simp))
      clear o2 BA1 BB1 O1
      go_wp2_with fail
      go_ret
      exact ⟨retB EP.out.symm, O2.out⟩
/-- A pair's cells. -/
abbrev prC (x : Te) : Array Value := #[.int .i64 x.a.n, .int .i64 x.a.g, .int .i64 x.b.n, .int .i64 x.b.g]
theorem linkT_gt {a b : Pd} : linkT a b = if decide (0 < cfP a b) = true then ⟨0, b, a⟩ else ⟨0, a, b⟩ := by
  have e : decide (0 < cfP a b) = befP b a := by
    unfold cfP orI cmpI befP
    by_cases h1 : a.n < b.n
    · simp [h1]; omega
    · by_cases h2 : b.n < a.n
      · simp [h1, h2]
      · have h3 : a.n = b.n := by omega
        by_cases h4 : a.g < b.g
        · simp [h3, h4]; omega
        · by_cases h5 : b.g < a.g <;> simp [h3, h4, h5]
  rw [e]
  unfold linkT
  cases h1 : befP a b with
  | true =>
    cases h2 : befP b a with
    | true => have := befP_trans h1 h2; rw [befP_irr] at this; cases this
    | false => simp
  | false =>
    cases h2 : befP b a with
    | true => simp
    | false => obtain rfl := befP_tri h1 h2; simp
set_option maxHeartbeats 2000000 in
theorem pairOf_any (a b : Pd) (w : World) : Calls Try.prog 41 #[.agg a.cs, .agg b.cs] w fun e w' => e = .returned (.agg (prC (linkT a b))) ∧ Only [] w w' := by
  have K := Lib.hid (fun w => cmpPids_any a b w)
  have hl := linkT_gt (a := a) (b := b)
  generalize linkT a b = l at hl ⊢
  generalize cfP a b = r at K hl
  obtain ⟨an, ag⟩ := a
  obtain ⟨bn, bg⟩ := b
  have BA := Lib.hid (((Bk.made w 32 #[.int .i64 an, .int .i64 ag]).alloc (.cells #[.int .i64 bn, .int .i64 bg] 32)).alloc (.cells #[.int .i64 0, .int .i64 0, .int .i64 0, .int .i64 0] 75))
  have BB := Lib.hid ((Bk.newAt (w := w.alloc (.cells #[.int .i64 an, .int .i64 ag] 32)) (t := 32) (cs := #[.int .i64 bn, .int .i64 bg]) (b := w.heap.size + 1) (by simp)).alloc (.cells #[.int .i64 0, .int .i64 0, .int .i64 0, .int .i64 0] 75))
  have BT := Lib.hid (Bk.newAt (w := (w.alloc (.cells #[.int .i64 an, .int .i64 ag] 32)).alloc (.cells #[.int .i64 bn, .int .i64 bg] 32)) (t := 75) (cs := #[.int .i64 0, .int .i64 0, .int .i64 0, .int .i64 0]) (b := w.heap.size + 1 + 1) (by simp))
  have O := Lib.hid ((((Only.refl [] w).alloc (.cells #[.int .i64 an, .int .i64 ag] 32)).alloc (.cells #[.int .i64 bn, .int .i64 bg] 32)).alloc (.cells #[.int .i64 0, .int .i64 0, .int .i64 0, .int .i64 0] 75))

  cases hr : decide (0 < r) with
  | false =>
    rw [hr, if_neg (by simp)] at hl
    subst hl
    go_enter Try.func41, Try.ntmps41
    go_wp2_with fail
    (with_reducible refine (K.out _).mono ?_)
    rintro e w1 ⟨rfl, o1⟩
    obtain ⟨a0, a1⟩ := Bk.pid (x := ⟨an, ag⟩) (BA.out.only o1.o (by simp))
    obtain ⟨b0, b1⟩ := Bk.pid (x := ⟨bn, bg⟩) (BB.out.only o1.o (by simp))
    have bt := BT.out.only o1.o (by simp)
    have t0 := bt.cell0 (i := 0) rfl
    have t1 := bt.cell0 (i := 1) rfl
    have t2 := bt.cell0 (i := 2) rfl
    have t3 := bt.cell0 (i := 3) rfl
    have tf := bt.free
    have O1 := Lib.hid (O.out.trans o1.o (by simp))
    clear o1 bt
    go_wp2_with fail
    have L : w.heap.size ≤ w.heap.size + 1 + 1 := by omega
    exact bodyPost_ret (v := .agg #[.int .i64 an, .int .i64 ag, .int .i64 bn, .int .i64 bg]) (by simp [results, Try.results41, go_sem, t0, t1, t2, t3]) rfl ⟨rfl, (((O1.out.set (.inr L) _).set (.inr L) _).set (.inr L) _).set (.inr L) _⟩
  | true =>
    rw [hr, if_pos rfl] at hl
    subst hl
    go_enter Try.func41, Try.ntmps41
    go_wp2_with fail
    (with_reducible refine (K.out _).mono ?_)
    rintro e w1 ⟨rfl, o1⟩
    have ba := BA.out.only o1.o (by simp)
    have bb := BB.out.only o1.o (by simp)
    obtain ⟨a0, a1⟩ := Bk.pid (x := ⟨an, ag⟩) ba
    obtain ⟨b0, b1⟩ := Bk.pid (x := ⟨bn, bg⟩) bb
    have af := ba.free
    have bf := bb.free
    have bt := BT.out.only o1.o (by simp)
    have t0 := bt.cell0 (i := 0) rfl
    have t1 := bt.cell0 (i := 1) rfl
    have t2 := bt.cell0 (i := 2) rfl
    have t3 := bt.cell0 (i := 3) rfl
    have tf := bt.free
    have O1 := Lib.hid (O.out.trans o1.o (by simp))
    clear o1 bt ba bb
    go_wp2_with fail
    have L : w.heap.size ≤ w.heap.size + 1 + 1 := by omega
    have L1 : w.heap.size ≤ w.heap.size + 1 := by omega
    have L0 : w.heap.size ≤ w.heap.size := by omega
    exact bodyPost_ret (v := .agg #[.int .i64 bn, .int .i64 bg, .int .i64 an, .int .i64 ag]) (by simp [results, Try.results41, go_sem, t0, t1, t2, t3]) rfl ⟨rfl, (((((((O1.out.set (.inr L0) _).set (.inr L0) _).set (.inr L1) _).set (.inr L1) _).set (.inr L) _).set (.inr L) _).set (.inr L) _).set (.inr L) _⟩
theorem befP_not {a b : Pd} (h : befP a b = false) : ¬ cfP a b < 0 := by
  rw [← cfP_lt, decide_eq_false_iff_not] at h
  exact h
set_option maxHeartbeats 4000000 in
theorem tieMay_any (x : Te) (w : World) : Calls Try.prog 37 #[.agg x.cs] w fun e w' => e = .returned (.bool (okTie x)) ∧ Only [] w w' := by
  have KP := fun p w => pokp_any p w
  have ep : okTie x = (okP x.a && (okP x.b && (decide (0 ≤ x.r) && (decide (x.r ≤ 4611686018427387903) && !(x.r == 0 && !befP x.a x.b))))) := rfl
  generalize okTie x = r at ep ⊢
  have BX := Lib.hid (Bk.made w 45 x.cs)
  have O := Lib.hid ((Only.refl [] w).alloc (.cells x.cs 45))
  by_cases h1 : x.r < 0
  · have d1 : decide (x.r < 0) = true := decide_eq_true h1
    have EP := Lib.hid (ep.trans (by rw [decide_eq_false (show ¬ 0 ≤ x.r by omega)]; simp : _ = false))
    clear ep h1 KP
    go_enter Try.func37, Try.ntmps37
    go_wp2_with fail
    go_ret
    exact ⟨retB EP.out.symm, O.out⟩
  · have d1 : decide (x.r < 0) = false := decide_eq_false h1
    rw [decide_eq_true (show 0 ≤ x.r by omega), Bool.true_and] at ep
    by_cases h2 : 4611686018427387903 < x.r
    · have d2 : decide (4611686018427387903 < x.r) = true := decide_eq_true h2
      have EP := Lib.hid (ep.trans (by rw [decide_eq_false (show ¬ x.r ≤ 4611686018427387903 by omega)]; simp : _ = false))
      clear ep h1 h2 KP
      go_enter Try.func37, Try.ntmps37
      go_wp2_with fail
      go_ret
      exact ⟨retB EP.out.symm, O.out⟩
    · have d2 : decide (4611686018427387903 < x.r) = false := decide_eq_false h2
      rw [decide_eq_true (show x.r ≤ 4611686018427387903 by omega), Bool.true_and] at ep
      cases ha : okP x.a with
      | false =>
        have K1 : Hid (∀ w, Calls Try.prog 45 #[.agg x.a.cs] w fun e w' => e = .returned (.bool false) ∧ Only [] w w') := Lib.hid (fun w => ha ▸ KP x.a w)
        rw [ha, Bool.false_and] at ep
        have EP := Lib.hid ep
        clear ep h1 h2 KP
        go_enter Try.func37, Try.ntmps37
        go_wp2_with fail
        (with_reducible refine (K1.out _).mono ?_)
        rintro e w1 ⟨rfl, o1⟩
        go_wp2_with fail
        go_ret
        exact ⟨retB EP.out.symm, O.out.trans o1 (by simp)⟩
      | true =>
        have K1 : Hid (∀ w, Calls Try.prog 45 #[.agg x.a.cs] w fun e w' => e = .returned (.bool true) ∧ Only [] w w') := Lib.hid (fun w => ha ▸ KP x.a w)
        rw [ha, Bool.true_and] at ep
        cases hb : okP x.b with
        | false =>
          have K2 : Hid (∀ w, Calls Try.prog 45 #[.agg x.b.cs] w fun e w' => e = .returned (.bool false) ∧ Only [] w w') := Lib.hid (fun w => hb ▸ KP x.b w)
          rw [hb, Bool.false_and] at ep
          have EP := Lib.hid ep
          clear ep h1 h2 KP
          go_enter Try.func37, Try.ntmps37
          go_wp2_with fail
          (with_reducible refine (K1.out _).mono ?_)
          rintro e w1 ⟨rfl, o1⟩
          obtain ⟨x0, x1, x2, x3, x4⟩ := (BX.out.only o1 (by simp)).tie
          have O1 := Lib.hid (O.out.trans o1 (by simp))
          clear o1
          go_wp2_with fail
          (with_reducible refine (K2.out _).mono ?_)
          rintro e w2 ⟨rfl, o2⟩
          go_wp2_with fail
          go_ret
          exact ⟨retB EP.out.symm, O1.out.trans o2 (by simp)⟩
        | true =>
          have K2 : Hid (∀ w, Calls Try.prog 45 #[.agg x.b.cs] w fun e w' => e = .returned (.bool true) ∧ Only [] w w') := Lib.hid (fun w => hb ▸ KP x.b w)
          rw [hb, Bool.true_and] at ep
          have K3 := Lib.hid (fun w => cmpPids_any x.a x.b w)
          by_cases h3 : 0 < x.r
          · have d3 : decide (0 < x.r) = true := decide_eq_true h3
            have hz : (x.r == 0) = false := by simp; omega
            rw [hz, Bool.false_and, Bool.not_false] at ep
            have EP := Lib.hid ep
            clear ep h1 h2 h3 hz KP K3
            go_enter Try.func37, Try.ntmps37
            go_wp2_with fail
            (with_reducible refine (K1.out _).mono ?_)
            rintro e w1 ⟨rfl, o1⟩
            have bx := BX.out.only o1 (by simp)
            obtain ⟨x0, x1, x2, x3, x4⟩ := bx.tie
            have BX1 := Lib.hid bx
            have O1 := Lib.hid (O.out.trans o1 (by simp))
            clear o1 bx BX O
            go_wp2_with fail
            (with_reducible refine (K2.out _).mono ?_)
            rintro e w2 ⟨rfl, o2⟩
            clear x0 x1 x2 x3 x4
            obtain ⟨x0, x1, x2, x3, x4⟩ := (BX1.out.only o2 (by simp)).tie
            have O2 := Lib.hid (O1.out.trans o2 (by simp))
            clear o2 O1 BX1
            go_wp2_with fail
            go_ret
            exact ⟨retB EP.out.symm, O2.out⟩
          · have d3 : decide (0 < x.r) = false := decide_eq_false h3
            have hz : (x.r == 0) = true := by simp; omega
            rw [hz, Bool.true_and, Bool.not_not, ← cfP_lt] at ep
            have EP := Lib.hid ep
            clear ep h1 h2 h3 hz KP
            generalize cfP x.a x.b = cc at K3 EP
            go_enter Try.func37, Try.ntmps37
            go_wp2_with fail
            (with_reducible refine (K1.out _).mono ?_)
            rintro e w1 ⟨rfl, o1⟩
            have bx := BX.out.only o1 (by simp)
            obtain ⟨x0, x1, x2, x3, x4⟩ := bx.tie
            have BX1 := Lib.hid bx
            have O1 := Lib.hid (O.out.trans o1 (by simp))
            clear o1 bx BX O
            go_wp2_with fail
            (with_reducible refine (K2.out _).mono ?_)
            rintro e w2 ⟨rfl, o2⟩
            clear x0 x1 x2 x3 x4
            obtain ⟨x0, x1, x2, x3, x4⟩ := (BX1.out.only o2 (by simp)).tie
            have O2 := Lib.hid (O1.out.trans o2 (by simp))
            clear o2 O1 BX1
            go_wp2_with fail
            (with_reducible refine (K3.out _).mono ?_)
            rintro e w3 ⟨rfl, o3⟩
            go_wp2_with fail
            go_ret
            exact ⟨retB EP.out.symm, O2.out.trans o3.o (by simp)⟩
end Go.Proofs.Ytkodblhompphjaa
