/- pattern: walk.through of any pattern; Check.. The document's walk of any pattern; its Check.. Instructions, functions, modules in memory; which of them bytes give.. -/
import Derived.Test.YtcdefnbehlcgeaaGreatDoorWv
import Derived.Test.YtcdefnbehlcgeaaGreatDoorWx
import Derived.Test.YtcdefnbehlcgeaaGreatDoorWs
set_option maxHeartbeats 4000000
set_option maxRecDepth 20000
namespace Go.Proofs.YtcdefnbehlcgeaaGreatDoor
open Go.RowKit
theorem okQ_k2 {t : QT} (hg : t.Good) (h : t.k = 2) : ∃ n, t = .var n := by
 cases t with
 | var n => exact ⟨n, rfl⟩
 | seq k l r =>
  have hk : k = 2 := h
  have := hg.1
  omega
 | _ => simp [QT.k] at h
theorem qthr_any (L : Int) (t : QT) (hg : t.Good) : QThrOk L t := by
 revert hg
 have key : ∀ t : QT, t.Good → (∀ u ∈ t.l ++ t.r, QThrOk L u) → QThrOk L t := by
  intro t hg ih st sl sr F met bs deep wb bv w hq hoff hk hgw hw hbm hm hd
  by_cases hc : 1024 ≤ met ∨ 64 ≤ deep
  ·rw [qthr_full L t hc]
   exact thr_full L t.k t.n t.tm st sl sr met bs deep wb bv w hw hm hd hc
  ·have hm1 : met < 1024 := by omega
   have hd1 : deep < 64 := by omega
   have hbv := hw.slice
   have hF : ∀ w1, Only [] w w1 → ∀ b, F b → b < w1.heap.size := fun w1 o1 b hb => Nat.lt_of_lt_of_le (hoff b hb).1 o1.size
   cases hok : okQ L bs t with
   | false =>
    rw [qthr_no L t hc hok]
    obtain ⟨A, cap, rfl, hl⟩ := hbv
    exact thr_no L t.k t.n t.tm st sl sr met bs deep wb _ w hw hm1 hd1 (fun w1 o1 => qmay_all t hg wb L met A cap bs st sl sr F false w1 ((hw.same o1).b) (hl.same o1) (by omega) (hk.same o1) (hF w1 o1) (hq.same o1).1 (hq.same o1).2.1 (hq.same o1).2.2 hok)
   | true =>
    rw [qthr_yes L t hc hok]
    by_cases hk2 : t.k = 2
    ·obtain ⟨n, rfl⟩ := okQ_k2 hg hk2
     obtain ⟨ht, h1, h2⟩ := hq
     obtain rfl := (TV.leaf (by simp [QT.tm])).1 ht
     obtain ⟨X, cx, rfl, -, hx, -⟩ := h1.mk qds_len
     obtain ⟨Y, cy, rfl, -, hy, -⟩ := h2.mk qds_len
     simp only [QT.l, QT.r, QT.bd, List.nil_append, qthrs_nil]
     exact thr_var L n X Y cx cy met bs deep wb bv w hx hy hok hk hgw hw hbm hm1 hd1
    ·have hbd : t.bd = [] := by
      cases t with
      | var n => exact absurd rfl hk2
      | _ => rfl
     rw [hbd, List.append_nil]
     obtain ⟨S0, s1, s2, A, c, B, c', rfl, rfl, rfl⟩ := hq.slices
     obtain ⟨C, cap, rfl, hl⟩ := hbv
     exact thr_go L t.k t.n t.tm S0 A B s1 s2 t.l.length c t.r.length c' t.l t.r F met bs deep wb _ _ w hk2 (fun w1 o1 => qmay_all t hg wb L met C cap bs _ _ _ F true w1 ((hw.same o1).b) (hl.same o1) (by omega) (hk.same o1) (hF w1 o1) (hq.same o1).1 (hq.same o1).2.1 (hq.same o1).2.2 hok)
      hq.2.1 hq.2.2 (thrAll_any L t.l (fun u hu => ih u (List.mem_append.2 (.inl hu)))) (thrAll_any L t.r (fun u hu => ih u (List.mem_append.2 (.inr hu)))) hoff hk hgw hw hbm hm1 hd1 rfl
 refine QT.ind (P := fun t => t.Good → QThrOk L t) (fun t ht hg => key t hg ?_) (fun k l r ih ih2 hg => key _ hg ?_) t
 ·cases t with
  | seq k l r => exact absurd rfl (ht _ _ _)
  | _ => simp [QT.l, QT.r]
 ·intro u hu
  rcases List.mem_append.1 hu with hu | hu
  ·exact ih u hu (QGoods.iff.1 hg.l u hu)
  ·exact ih2 u hu (QGoods.iff.1 hg.r u hu)
theorem qcheck_any (L : Int) (t : QT) (hg : t.Good) (st sl sr : Value) (F : Nat → Prop) (w : World) (h : PV w F t st sl sr) (hF : ∀ b, F b → b < w.heap.size) (hk : KN w) :
 Calls Tryz.prog 96 #[.agg (qcs t.k t.n t.tm st sl sr), .int .i64 L] w fun e w' => e = .returned (.int .i64 (qchk L t)) ∧ Only [] w w' := by
 have rs := store_com
 obtain ⟨q, hq⟩ : ∃ q, qthr L t 0 [] 0 = q := ⟨_, rfl⟩
 have hchk : qchk L t = q.2.2 := by rw [← hq]; rfl
 rw [hchk]
 have HT := Lib.hid (qthr_any L t hg)
 have o2 : Only [] w ((w.alloc (.cells (qcs t.k t.n t.tm st sl sr) 88)).alloc (.cells #[.int .i64 L, .int .i64 0, .slice none 0 0] 172)) := ((Only.refl [] w).alloc _).alloc _
 have B1 := Lib.hid ((Bk.made w 88 (qcs t.k t.n t.tm st sl sr)).alloc (.cells #[.int .i64 L, .int .i64 0, .slice none 0 0] 172))
 have W2 := Lib.hid (show WH ((w.alloc (.cells (qcs t.k t.n t.tm st sl sr) 88)).alloc (.cells #[.int .i64 L, .int .i64 0, .slice none 0 0] 172)) (w.heap.size + 1) L 0 [] (.slice none 0 0) from ⟨Bk.madeAt (by simp), ⟨rfl, .inl ⟨rfl, rfl⟩⟩⟩)
 have V2 := Lib.hid (h.same o2)
 have K2 := Lib.hid (hk.same o2)
 have F2 := Lib.hid (show Off ((w.alloc (.cells (qcs t.k t.n t.tm st sl sr) 88)).alloc (.cells #[.int .i64 L, .int .i64 0, .slice none 0 0] 172)) (w.heap.size + 1) (.slice none 0 0) F from fun b hb => by
  have := hF b hb
  refine ⟨by simp; omega, by omega, fun e => by cases e⟩)
 have hgw : 1 < w.heap.size + 1 := Nat.lt_succ_of_lt hk.lt
 have O2 := Lib.hid o2
 have HQ := Lib.hid hq
 clear h hk hF hg o2 hq hchk
 go_enter Tryz.func96, Tryz.ntmps96
 go_wp2_with fail
 (with_reducible refine (HT.out.use (deep := 0) (D := 0) V2.out F2.out K2.out hgw W2.out (by simp) (by omega) (by omega) rfl HQ.out).mono ?_)
 rintro e w3 ⟨rfl, bv3, t3, _⟩
 have O3 := Lib.hid (O2.out.trans t3.o (fun i hi => .inr (by
  rcases List.mem_cons.1 hi with rfl | hi
  ·omega
  ·simp [Value.ownBlock] at hi)))
 clear t3
 go_wp2_with fail
 go_ret
 exact ⟨rfl, O3.out⟩
open Go.RowKit
theorem okOne_no {L : Int} {bs : List Int} {t : QT} (h : okOne L t = false) : okQ L bs t = false := by
 cases t with
 | var n => simp only [okOne] at h; simp only [okQ]; rw [h, Bool.false_and]
 | _ => exact h
theorem okOne_yes {L : Int} {bs : List Int} {t : QT} (h : okOne L t = true) (h2 : ∀ n, t ≠ .var n) : okQ L bs t = true := by
 cases t with
 | var n => exact absurd rfl (h2 n)
 | _ => exact h
theorem rwalk_any (L : Int) (t : QT) (hg : t.Good) : RWOk L t := by
 revert hg
 have key : ∀ t : QT, t.Good → (∀ u ∈ t.l ++ t.r, RWOk L u) → RWOk L t := by
  intro t hg ih st sl sr F met bs deep A cap w hq hF hA hbm hm hd
  by_cases hc : 1024 ≤ met ∨ 64 ≤ deep
  ·rw [qthr_full L t hc]
   exact rw_full L t.k t.n t.tm st sl sr met bs deep A cap w hA hm hd hc
  ·have hm1 : met < 1024 := by omega
   have hd1 : deep < 64 := by omega
   cases h1 : okOne L t with
   | false =>
    rw [qthr_no L t hc (okOne_no h1)]
    exact rw_no1 L t.k t.n t.tm st sl sr met bs deep A cap w hA hm1 hd1 (fun w1 o1 => rone_all t hg L st sl sr F false w1 (hq.same o1).1 (hq.same o1).2.1 (hq.same o1).2.2 h1)
   | true =>
    by_cases hk2 : t.k = 2
    ·obtain ⟨n, rfl⟩ := okQ_k2 hg hk2
     obtain ⟨ht, h3, h4⟩ := hq
     obtain rfl := (TV.leaf (by simp [QT.tm])).1 ht
     obtain ⟨X, cx, rfl, -, hx, -⟩ := h3.mk qds_len
     obtain ⟨Y, cy, rfl, -, hy, -⟩ := h4.mk qds_len
     have h5 : 0 ≤ n ∧ n < L := by simpa [okOne] using h1
     by_cases hn : n ∈ bs
     ·rw [qthr_no L _ hc (by simp only [okQ]; rw [decide_eq_true hn]; simp)]
      exact rw_no L n X Y cx cy met bs deep A cap w h5.1 h5.2 hn hA hbm hm1 hd1
     ·rw [qthr_yes L _ hc (by simp [okQ, h5.1, h5.2, hn])]
      simp only [QT.l, QT.r, QT.bd, List.nil_append, qthrs_nil]
      exact rw_var L n X Y cx cy met bs deep A cap w hx hy h5.1 h5.2 hn hA hbm hm1 hd1
    ·have hbd : t.bd = [] := by
      cases t with
      | var n => exact absurd rfl hk2
      | _ => rfl
     rw [qthr_yes L t hc (okOne_yes h1 (fun n e => hk2 (by rw [e]; rfl))), hbd, List.append_nil]
     obtain ⟨S0, s1, s2, B, c, B', c', rfl, rfl, rfl⟩ := hq.slices
     have hlen := hg.len
     exact rw_go L t.k t.n t.tm (.slice S0 s1 s2) B B' t.l.length c t.r.length c' t.l t.r F met bs deep A cap _ w hk2 (fun w1 o1 => rone_all t hg L _ _ _ F true w1 (hq.same o1).1 (hq.same o1).2.1 (hq.same o1).2.2 h1) hq.2.1 hq.2.2 hF (by omega) ih hA hbm hm1 hd1 rfl
 refine QT.ind (P := fun t => t.Good → RWOk L t) (fun t ht hg => key t hg ?_) (fun k l r ih ih2 hg => key _ hg ?_) t
 ·cases t with
  | seq k l r => exact absurd rfl (ht _ _ _)
  | _ => simp [QT.l, QT.r]
 ·intro u hu
  rcases List.mem_append.1 hu with hu | hu
  ·exact ih u hu (QGoods.iff.1 hg.l u hu)
  ·exact ih2 u hu (QGoods.iff.1 hg.r u hu)
theorem r5check_any (L : Int) (t : QT) (hg : t.Good) (st sl sr : Value) (F : Nat → Prop) (w : World) (h : PV w F t st sl sr) (hF : ∀ b, F b → b < w.heap.size) :
 Calls Tryz.prog 90 #[.agg (qcs t.k t.n t.tm st sl sr), .int .i64 L] w fun e w' => e = .returned (.int .i64 (qchk L t)) ∧ Only [] w w' := by
 have rs := store_com
 obtain ⟨q, hq⟩ : ∃ q, qthr L t 0 [] 0 = q := ⟨_, rfl⟩
 have hchk : qchk L t = q.2.2 := by rw [← hq]; rfl
 rw [hchk]
 have o1 : Only [] w (w.alloc (.cells (qcs t.k t.n t.tm st sl sr) 88)) := (Only.refl [] w).alloc _
 have HT := Lib.hid (show Calls Tryz.prog 102 #[.agg #[.int .i64 t.k, .int .i64 t.n, .int .i64 t.tm.k, .int .i64 t.tm.n, .complex .f64 t.tm.x t.tm.y, .string t.tm.S, .int .i64 t.tm.a, .int .i64 t.tm.b, st, sl, sr], .int .i64 L, .agg #[.int .i64 0, .slice none 0 0], .int .i64 0] (w.alloc (.cells (qcs t.k t.n t.tm st sl sr) 88)) fun e w' => RWE (w.alloc (.cells (qcs t.k t.n t.tm st sl sr) 88)) q e w' from (rwalk_any L t hg).use (deep := 0) (D := 0) (met := 0) (bs := []) (A := none) (cap := 0) (h.same o1) (fun b hb => Nat.lt_of_lt_of_le (hF b hb) o1.size) (fun k z hz => by simp at hz) (by simp) (by omega) (by omega) rfl hq)
 have O1 := Lib.hid o1
 clear h hF hg o1 hq hchk
 go_enter Tryz.func90, Tryz.ntmps90
 go_wp2_with fail
 (with_reducible refine (HT.out).mono ?_)
 rintro e w3 ⟨A', cap', rfl, _, o3⟩
 have O3 := Lib.hid ((O1.out.trans o3 (by simp)).alloc (.cells #[.int .i64 q.1, .slice A' q.2.1.length cap'] 163))
 clear o3
 go_wp2_with fail
 go_ret
 exact ⟨rfl, O3.out⟩
open Go.RowKit
/-! ### Cells -/
theorem arm_cells {w : World} {F : Nat → Prop} (a : Arm) {us : List Value} (h : DVs w F a.ds us) : ∃ st sl sr, us = (qcs a.pat.k a.pat.n a.pat.tm st sl sr).toList ++ [.int .i64 a.goes] ∧ TV w F a.pat.tm st ∧ QL w F a.pat.l sl ∧ QL w F a.pat.r sr := by
 obtain ⟨x, y, rfl, h1, h2⟩ := DVs.split h
 obtain ⟨st, sl, sr, rfl, h3, h4, h5⟩ := q_cells _ h1
 simp only [DVs] at h2
 obtain ⟨v, _, rfl, h6, rfl⟩ := h2
 obtain rfl := DV.v.1 h6
 exact ⟨st, sl, sr, rfl, h3, h4, h5⟩
abbrev AL (w : World) (F : Nat → Prop) (l : List Arm) (u : Value) : Prop := RowV Arm.ds w F l u
abbrev ics (op a b : Int) (t : T) (st sa : Value) : Array Value := #[.int .i64 op, .int .i64 a, .int .i64 b, .int .i64 t.k, .int .i64 t.n, .complex .f64 t.x t.y, .string t.S, .int .i64 t.a, .int .i64 t.b, st, sa]
theorem in_cells {w : World} {F : Nat → Prop} (i : In) {us : List Value} (h : DVs w F i.ds us) : ∃ st sa, us = (ics i.op i.a i.b i.t st sa).toList ∧ TV w F i.t st ∧ AL w F i.arms sa := by
 obtain ⟨x, y, rfl, h1, h2⟩ := DVs.split h
 obtain ⟨x1, x2, rfl, h3, h4⟩ := DVs.split h1
 simp only [DVs] at h3
 obtain ⟨_, _, rfl, e0, _, _, rfl, e1, _, _, rfl, e2, rfl⟩ := h3
 obtain ⟨st, rfl, h7⟩ := tv_of i.t _ h4
 simp only [DVs] at h2
 obtain ⟨sa, _, rfl, h8, rfl⟩ := h2
 obtain rfl := DV.v.1 e0
 obtain rfl := DV.v.1 e1
 obtain rfl := DV.v.1 e2
 exact ⟨st, sa, rfl, h7, h8⟩
abbrev IL (w : World) (F : Nat → Prop) (l : List In) (u : Value) : Prop := RowV In.ds w F l u
abbrev fcs (f : Fu) (sc : Value) : Array Value := #[.string f.name, .int .i64 f.params, .int .i64 f.locals, sc]
theorem fu_cells {w : World} {F : Nat → Prop} (f : Fu) {us : List Value} (h : DVs w F f.ds us) : ∃ sc, us = (fcs f sc).toList ∧ IL w F f.code sc := by
 simp only [Fu.ds, DVs] at h
 obtain ⟨_, _, rfl, e0, _, _, rfl, e1, _, _, rfl, e2, sc, _, rfl, h3, rfl⟩ := h
 obtain rfl := DV.v.1 e0
 obtain rfl := DV.v.1 e1
 obtain rfl := DV.v.1 e2
 exact ⟨sc, rfl, h3⟩
abbrev FL (w : World) (F : Nat → Prop) (l : List Fu) (u : Value) : Prop := RowV Fu.ds w F l u
theorem md_parts {w : World} {F : Nat → Prop} (m : Md) {us : List Value} (h : DVs w F m.ds us) : ∃ sf, us = [.string m.name, sf] ∧ FL w F m.funcs sf := by
 obtain ⟨u, v, rfl, h1, h2⟩ := DVs.two h
 obtain rfl := DV.v.1 h1
 exact ⟨v, rfl, h2⟩
/-! ### Which bytes give -/
def Arm.Good (a : Arm) : Prop := a.pat.Good ∧ 0 ≤ a.goes
abbrev hasA (o : Int) : Prop := o = 3 ∨ o = 4 ∨ o = 5 ∨ o = 17 ∨ o = 18 ∨ o = 19 ∨ o = 25 ∨ o = 26 ∨ o = 28 ∨ o = 27 ∨ o = 33 ∨ o = 34
structure In.Good (i : In) : Prop where
 op : ∃ n : Nat, i.op = (n : Int) ∧ 1 ≤ n ∧ n ≤ 46
 a0 : 0 ≤ i.a
 t1 : i.op = 1 → i.t.Good
 t0 : i.op ≠ 1 → i.t = .zero
 r0 : i.op ≠ 27 → i.op ≠ 33 → i.arms = []
 r1 : ∀ a ∈ i.arms, a.Good
 rl : i.arms.length ≤ 262144
 b1 : i.op ≠ 33 → 0 ≤ i.b
 b0 : i.op ≠ 33 → i.op ≠ 34 → i.b = 0
 az : hasA i.op ∨ i.a = 0
structure Fu.Good (f : Fu) : Prop where
 name : f.name.size ≤ 262144
 params : 0 ≤ f.params
 locals : 0 ≤ f.locals
 code : ∀ i ∈ f.code, i.Good
 len : f.code.length ≤ 262144
structure Md.Good (m : Md) : Prop where
 name : m.name.size ≤ 262144
 funcs : ∀ f ∈ m.funcs, f.Good
 len : m.funcs.length ≤ 262144
theorem bind_ok {α β : Type} {r : Rs α} {f : α → Nat → Rs β} {x : β} {q : Nat} (h : r.bind f = .ok x q) : ∃ y t, r = .ok y t ∧ f y t = .ok x q := by
 cases r with
 | ok y t => exact ⟨y, t, rfl, h⟩
 | bad t => cases h
theorem rArm_good {s : ByteArray} (hs : s.size ≤ 262144) {p : Nat} {a : Arm} {q : Nat} (h : rArm s p = .ok a q) : a.Good := by
 obtain ⟨x, t, h1, h2⟩ := bind_ok h
 obtain ⟨n, h3, rfl⟩ := map_ok h2
 exact ⟨rPat_good hs h1, by show (0 : Int) ≤ (n : Int); omega⟩
theorem fld1 {s : ByteArray} {f : Fld} {i x : In} {p q : Nat} (h : rFlds s [f] i p = .ok x q) : rFld s i f p = .ok x q := by
 obtain ⟨y, t, h1, h2⟩ := bind_ok h
 injection h2 with h3 h4
 subst h3 h4
 exact h1
theorem fld2 {s : ByteArray} {f g : Fld} {i x : In} {p q : Nat} (h : rFlds s [f, g] i p = .ok x q) : ∃ y t, rFld s i f p = .ok y t ∧ rFld s y g t = .ok x q := by
 obtain ⟨y, t, h1, h2⟩ := bind_ok h
 exact ⟨y, t, h1, fld1 h2⟩
theorem rIn_good {s : ByteArray} (hs : s.size ≤ 262144) {p : Nat} {i : In} {q : Nat} (h : rIn s p = .ok i q) : i.Good := by
 obtain ⟨op, t, h1, h2⟩ := bind_ok h
 obtain ⟨h3, h4⟩ := rOne_bd h1
 unfold fldsOf at h2
 split at h2
 ·rename_i ho
  subst ho
  obtain ⟨x, h5, rfl⟩ := map_ok (fld1 h2)
  exact ⟨⟨1, rfl, by omega, by omega⟩, Int.le_refl _, fun _ => rTerm_good hs h5, fun h => absurd rfl h, fun _ _ => rfl, fun a ha => by simp at ha, Nat.zero_le _, fun _ => Int.le_refl _, fun _ _ => rfl, .inr rfl⟩
 split at h2
 ·rename_i hn ho
  obtain ⟨x, h5, rfl⟩ := map_ok (fld1 h2)
  exact ⟨⟨op, rfl, h3, h4⟩, by show (0 : Int) ≤ (x : Int); omega, fun h => absurd h (by show ¬ (op : Int) = 1; omega), fun _ => rfl, fun _ _ => rfl, fun a ha => by simp at ha, Nat.zero_le _, fun _ => Int.le_refl _, fun _ _ => rfl, .inl (show hasA (op : Int) by unfold hasA; omega)⟩
 split at h2
 ·rename_i ho
  subst ho
  obtain ⟨y, u, h5, h6⟩ := fld2 h2
  obtain ⟨x, h7, rfl⟩ := map_ok h5
  obtain ⟨z, h8, rfl⟩ := map_ok h6
  exact ⟨⟨34, rfl, by omega, by omega⟩, by show (0 : Int) ≤ (x : Int); omega, fun h => absurd h (by show ¬ (34 : Int) = 1; omega), fun _ => rfl, fun _ _ => rfl, fun a ha => by simp at ha, Nat.zero_le _, fun _ => by show (0 : Int) ≤ (z : Int); omega, fun _ h => absurd rfl h, .inl (show hasA (34 : Int) by unfold hasA; omega)⟩
 split at h2
 ·rename_i ho
  subst ho
  obtain ⟨y, u, h5, h6⟩ := fld2 h2
  obtain ⟨x, h7, rfl⟩ := map_ok h5
  obtain ⟨l, h8, rfl⟩ := map_ok h6
  obtain ⟨h9, h10⟩ := rSome_all (P := Arm.Good) (fun p x q h => rArm_good hs h) h8
  exact ⟨⟨27, rfl, by omega, by omega⟩, by show (0 : Int) ≤ (x : Int); omega, fun h => absurd h (by show ¬ (27 : Int) = 1; omega), fun _ => rfl, fun h _ => absurd rfl h, h9, by show l.length ≤ _; omega, fun _ => Int.le_refl _, fun _ _ => rfl, .inl (show hasA (27 : Int) by unfold hasA; omega)⟩
 split at h2
 ·rename_i ho
  subst ho
  obtain ⟨y, u, h5, h6⟩ := bind_ok h2
  obtain ⟨x, h7, rfl⟩ := map_ok h5
  obtain ⟨y, u, h5, h6⟩ := fld2 h6
  obtain ⟨z, h9, rfl⟩ := map_ok h5
  obtain ⟨l, h8, rfl⟩ := map_ok h6
  obtain ⟨h9, h10⟩ := rSome_all (P := Arm.Good) (fun p x q h => rArm_good hs h) h8
  exact ⟨⟨33, rfl, by omega, by omega⟩, by show (0 : Int) ≤ (x : Int); omega, fun h => absurd h (by show ¬ (33 : Int) = 1; omega), fun _ => rfl, fun _ h => absurd rfl h, h9, by show l.length ≤ _; omega, fun h => absurd rfl h, fun h _ => absurd rfl h, .inl (show hasA (33 : Int) by unfold hasA; omega)⟩
 ·injection h2 with h5 h6
  subst h5
  rename_i n1 n2 n3 n4 n5
  exact ⟨⟨op, rfl, h3, h4⟩, Int.le_refl _, fun h => absurd h (by show ¬ (op : Int) = 1; omega), fun _ => rfl, fun _ _ => rfl, fun a ha => by simp at ha, Nat.zero_le _, fun _ => Int.le_refl _, fun _ _ => rfl, .inr rfl⟩
theorem rFn_good {s : ByteArray} (hs : s.size ≤ 262144) {p : Nat} {f : Fu} {q : Nat} (h : rFn s p = .ok f q) : f.Good := by
 obtain ⟨n, t, h1, h2⟩ := bind_ok h
 obtain ⟨a, t, h3, h4⟩ := bind_ok h2
 obtain ⟨b, t, h5, h6⟩ := bind_ok h4
 obtain ⟨l, h7, rfl⟩ := map_ok h6
 obtain ⟨h8, h9⟩ := rSome_all (P := In.Good) (fun p x q h => rIn_good hs h) h7
 have := rName_sz h1
 exact ⟨by show n.size ≤ _; omega, by show (0 : Int) ≤ (a : Int); omega, by show (0 : Int) ≤ (b : Int); omega, h8, by show l.length ≤ _; omega⟩
theorem rMod_good {s : ByteArray} (hs : s.size ≤ 262144) {m : Md} {q : Nat} (h : rMod s = .ok m q) : m.Good := by
 unfold rMod at h
 split at h
 ·obtain ⟨n, t, h1, h2⟩ := bind_ok h
  obtain ⟨l, h3, rfl⟩ := map_ok h2
  obtain ⟨h4, h5⟩ := rSome_all (P := Fu.Good) (fun p x q h => rFn_good hs h) h3
  have := rName_sz h1
  exact ⟨by show n.size ≤ _; omega, h4, by show l.length ≤ _; omega⟩
 ·cases h
/-! ### What Check makes of a module -/
def firstE {α : Type} (l : List α) (f : α → Int) : Int :=
 match l with
 | [] => 0
 | x :: r => if f x ≠ 0 then f x else firstE r f
def armsOk (L : Int) (l : List Arm) : Bool := decide (l.length ≤ 32) && l.all (fun a => decide (qchk L a.pat = 0))
def mayI (nf : Nat) (L : Int) (i : In) : Bool :=
 if i.op = 1 then decide (chk i.t = 0)
 else if i.op = 3 then decide (i.a ≤ 254)
 else if i.op = 4 ∨ i.op = 5 then decide (i.a < L)
 else if i.op = 17 then decide (1 ≤ i.a) && decide (i.a ≤ 9)
 else if i.op = 18 ∨ i.op = 19 then decide (i.a ≤ 255)
 else if i.op = 27 then armsOk L i.arms
 else if i.op = 28 then decide (i.a < (nf : Int))
 else if i.op = 33 then (decide (i.a = 0) || decide (i.b ≠ -1)) && decide (-1 ≤ i.b) && decide (i.b ≤ 1048576) && armsOk L i.arms
 else if i.op = 34 then decide (i.a < (nf : Int)) && decide (i.b < 3)
 else true
def In.to (i : In) : List Int := (if i.op = 25 ∨ i.op = 26 ∨ i.op = 27 ∨ i.op = 33 ∧ i.b ≠ -1 then [i.a] else []) ++ i.arms.map Arm.goes
def In.leads (i : In) (at_ : Nat) : List Int := (if i.op = 25 ∨ i.op = 27 ∨ i.op = 33 ∨ i.op = 29 ∨ i.op = 45 then [] else [(at_ : Int) + 1]) ++ i.to
def tkl : List Int := [0, 0, 1, 0, 0, 1, 2, 2, 2, 2, 2, 1, 1, 2, 2, 2, 1, 1, 0, 0, 2, 1, 2, 1, 1, 0, 1, 1, 0, 1, 0, 0, 2, 0, 0, 2, 1, 1, 1, 1, 1, 1, 1, 1, 1, 1, 0]
def lvl : List Int := [0, 1, 0, 0, 1, 0, 1, 1, 1, 1, 1, 1, 1, 1, 1, 1, 1, 1, 0, 0, 1, 1, 1, 1, 1, 0, 0, 0, 0, 0, 1, 1, 1, 0, 0, 1, 1, 1, 1, 1, 1, 0, 1, 1, 0, 0, 0]
def eff (fs : List Fu) (i : In) : Int × Int :=
 if i.op = 3 then (i.a + 1, i.a + 2)
 else if i.op = 18 ∨ i.op = 19 then (i.a, 1)
 else if i.op = 28 ∨ i.op = 34 then (((fs[i.a.toNat]?).map Fu.params).getD 0, 1)
 else (tkl.getD i.op.toNat 0, lvl.getD i.op.toNat 0)
def fnOk (f : Fu) : Bool := atomOk (lst f.name) && (decide (f.params ≤ f.locals) && decide (f.locals ≤ 32) && (decide (1 ≤ f.code.length) && decide (f.code.length ≤ 1024)))
def dupAt (fs : List Fu) (k : Nat) : Bool := (fs.take k).any fun f => decide (some (lst f.name) = (fs[k]?).map (fun g => lst g.name))
def hdAt (fs : List Fu) (k : Nat) : Bool := ((fs[k]?).map fnOk).getD false && !dupAt fs k
def hdOk (m : Md) : Bool := atomOk (lst m.name) && (decide (1 ≤ m.funcs.length) && decide (m.funcs.length ≤ 64)) && (List.range m.funcs.length).all (hdAt m.funcs)
def inE (nf : Nat) (f : Fu) (i : In) : Int := if mayI nf f.locals i = false then 61 else if i.to.all (fun z => decide (0 ≤ z) && decide (z < (f.code.length : Int))) = false then 62 else 0
def insE (nf : Nat) (f : Fu) : Int := firstE f.code (inE nf f)
/-! ### Heights -/
def pend (h : List Int) (g : List Bool) (i : Nat) : Bool := decide (0 ≤ h.getD i (-1)) && !(g.getD i true)
def nextP (h : List Int) (g : List Bool) : Nat → Nat → Nat
 | 0, k => k
 | f + 1, k => if pend h g k = true then k else nextP h g f (k + 1)
def reachAll (n : Nat) (b : Int) : List Int → List Int → Int × List Int
 | [], h => (0, h)
 | z :: l, h => if (n : Int) ≤ z then (64, h) else if 0 ≤ h.getD z.toNat (-1) ∧ h.getD z.toNat (-1) ≠ b then (63, h) else reachAll n b l (h.set z.toNat b)
def flowF (fs : List Fu) (code : List In) : Nat → List Int → List Bool → Int
 | 0, _, _ => 0
 | f + 1, h, g =>
  match code[nextP h g code.length 0]? with
  | none => 0
  | some i =>
   if h.getD (nextP h g code.length 0) (-1) < (eff fs i).1 ∨ 256 < h.getD (nextP h g code.length 0) (-1) - (eff fs i).1 + (eff fs i).2 then 63
   else if (reachAll code.length (h.getD (nextP h g code.length 0) (-1) - (eff fs i).1 + (eff fs i).2) (i.leads (nextP h g code.length 0)) h).1 ≠ 0 then (reachAll code.length (h.getD (nextP h g code.length 0) (-1) - (eff fs i).1 + (eff fs i).2) (i.leads (nextP h g code.length 0)) h).1
   else flowF fs code f (reachAll code.length (h.getD (nextP h g code.length 0) (-1) - (eff fs i).1 + (eff fs i).2) (i.leads (nextP h g code.length 0)) h).2 (g.set (nextP h g code.length 0) true)
def flE (fs : List Fu) (f : Fu) : Int := flowF fs f.code f.code.length (0 :: List.replicate (f.code.length - 1) (-1)) (List.replicate f.code.length false)
def mchk (m : Md) : Int := if hdOk m = false then 60 else if firstE m.funcs (insE m.funcs.length) ≠ 0 then firstE m.funcs (insE m.funcs.length) else firstE m.funcs (flE m.funcs)
end Go.Proofs.YtcdefnbehlcgeaaGreatDoor
