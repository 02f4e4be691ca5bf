/- The program's Gone. The program's ties as what the laws ask for: whole. The law's does: Gone on both sides. -/
import Derived.Test.YtkodblhompphjaaVbc
import Derived.Test.YtkodblhompphjaaVba
import Derived.Test.YtkodblhompphjaaVk
import Derived.Test.YtkodblhompphjaaVbb
namespace Go.Proofs.Ytkodblhompphjaa
open Go.RowKit Go.Maps
set_option maxRecDepth 20000

/-- Without the links of p with some. -/
def unk (p : Pd) (qs : List Pd) (S : List Te) : List Te := S.filter fun x => !(qs.any fun q => eqT x (linkT p q))
theorem unk_nil (p : Pd) (S : List Te) : unk p [] S = S := List.filter_eq_self.2 fun _ _ => rfl
theorem unk_snoc (p : Pd) (qs : List Pd) (q : Pd) (S : List Te) : unk p (qs ++ [q]) S = (unk p qs S).filter fun x => !eqT x (linkT p q) := by
  unfold unk
  rw [List.filter_filter]
  refine List.filter_congr fun x _ => ?_
  rw [List.any_append]
  simp [Bool.and_comm]
theorem LkM.del2 {w : World} {g : Nat} {S : List Te} (h : LkM w g S) (hS : ∀ x ∈ S, LkT x) {x : Te} (hx : LkT x) (ty : TypeId) :
    ∃ w', (Builtin.delete_ #[mpL, 75] ty #[.map (some g), .agg (prC x)]).run Try.prog w = .ok (.tuple #[]) w' ∧ LkM w' g (S.filter fun y => !eqT y x) ∧ Only [g] w w' := by
  obtain ⟨D, n, h1, h2⟩ := h
  obtain ⟨a1, a2, -⟩ := okTie_ab hx.1
  obtain ⟨w', hrun, h3, h4⟩ := h1.drop keyPair Try.underlying58 (kL_of a1 a2) ty
  refine ⟨w', hrun, ⟨_, _, h3, ?_⟩, only_turned h4⟩
  have e : (S.filter fun y => !(kL y).sameKey (kL x)) = S.filter fun y => !eqT y x := List.filter_congr fun y hy => by
    congr 1
    cases he : eqT y x with
    | true =>
      obtain rfl := eqT_iff.1 he
      exact WideAt.sameKey_self (kL_key _)
    | false =>
      cases hs : (kL y).sameKey (kL x) with
      | false => rfl
      | true =>
        obtain rfl := kL_inj (hS y hy).1 hx.1 (hS y hy).2 hx.2 (WideAt.sameKey_eq hs)
        rw [eqT_iff.2 rfl] at he
        cases he
  rw [← e]
  exact h2.del _
theorem unk_all {l : List Te} (h : MayT l) (p : Pd) : unk p (linksT l p) (lks l) = lks (goneT l p) := by
  have ok := mayT_ok h
  unfold unk lks goneT
  rw [List.filter_filter, List.filter_filter]
  refine List.filter_congr fun x hx => ?_
  rw [Bool.and_comm]
  cases h0 : x.r == 0 with
  | false => rfl
  | true =>
    have hr : x.r = 0 := by simpa using h0
    have hab : befP x.a x.b = true := by
      have := ok x hx
      unfold okTie at this
      simp only [Bool.and_eq_true, Bool.not_eq_true', hr] at this
      simpa using this.2.2.2.2
    simp only [Bool.true_and]
    have key : (linksT l p).any (fun q => eqT x (linkT p q)) = (eqP x.a p || eqP x.b p) := by
      rw [Bool.eq_iff_iff, List.any_eq_true, Bool.or_eq_true, eqP_iff, eqP_iff]
      constructor
      · rintro ⟨q, hq, e⟩
        have e := eqT_iff.1 e
        unfold linkT at e
        split at e
        · rw [e]; exact .inl rfl
        · rw [e]; exact .inr rfl
      · obtain ⟨xr, xa, xb⟩ := x
        dsimp only at hr hab
        subst hr
        rintro (rfl | rfl)
        · refine ⟨xb, linksT_mem.2 ⟨_, hx, rfl, .inr ⟨rfl, rfl⟩⟩, eqT_iff.2 ?_⟩
          unfold linkT
          rw [if_pos hab]
        · refine ⟨xa, linksT_mem.2 ⟨_, hx, rfl, .inl ⟨rfl, rfl⟩⟩, eqT_iff.2 ?_⟩
          unfold linkT
          rw [if_neg]
          intro h2
          have := befP_trans hab h2
          rw [befP_irr] at this
          cases this
    rw [key, Bool.not_or]
theorem mns_gone (l : List Te) (p : Pd) : (mns l).filter (fun t => !eqP t.a p && !eqP t.b p) = mns (goneT l p) := by
  unfold mns goneT
  rw [List.filter_filter, List.filter_filter]
  exact List.filter_congr fun x _ => Bool.and_comm _ _
theorem told_stay (l : List Te) (p : Pd) : stayT p (waT l p) = toldT l p := by
  rw [waT_filter]
  unfold stayT toldT
  rw [List.filter_filter]
  exact List.filter_congr fun x _ => Bool.and_comm _ _
theorem own_apart {w : World} {b1 b2 : Nat} {v1 v2 : Value} {xs : List Pd} {ys : List Te} (h : OwnS KP w b1 v1 xs) (k : OwnS KT w b2 v2 ys) : ∀ g, v1.ownBlock = some g → g ∉ v2.ownBlock.toList := fun g hg => by
  rcases h.2 with ⟨rfl, _⟩ | ⟨g', cap, cur, rfl, _, hb, _⟩
  · cases hg
  · injection hg with hg
    subst hg
    exact k.apartB (g := g') (t := KP.e) (cs := cur) hb (by decide)
theorem linkq_lk {l : List Te} (h : MayT l) {p q : Pd} (hq : q ∈ linksT l p) : LkT (linkT p q) := by
  have h1 := (linked_iff h).1 hq
  exact ⟨mayT_ok h _ h1.1, by unfold linkT; split <;> rfl⟩
/-- What Gone's loop keeps. -/
structure GnR (w : World) (b lb mb : Nat) (l : List Te) (p : Pd) (v1 v2 : Value) (i : Nat) (wr : World) : Prop where
  le : i ≤ (linksT l p).length
  lnk : LkM wr lb (unk p ((linksT l p).take i) (lks l))
  blk : Bk wr b 61 (tiesC b lb mb)
  mon : MnM wr mb (mns l)
  o1 : OwnS KP wr (w.heap.size + 1) v1 (linksT l p)
  o2 : OwnS KT wr (w.heap.size + 1) v2 (waT l p)
  ba : Bk wr w.heap.size 32 p.cs
  o : Only [lb] w wr
theorem GnR.only {w wr w' : World} {b lb mb : Nat} {l : List Te} {p : Pd} {v1 v2 : Value} {i : Nat} (h : GnR w b lb mb l p v1 v2 i wr) (o : Only [] wr w') : GnR w b lb mb l p v1 v2 i w' :=
  ⟨h.le, h.lnk.only o (by simp), h.blk.only o (by simp), h.mon.only o (by simp), h.o1.only o (by simp), h.o2.only o (by simp), h.ba.only o (by simp), h.o.trans o (by simp)⟩
theorem GnR.next {w wr w' : World} {b lb mb : Nat} {l : List Te} {p q : Pd} {v1 v2 : Value} {i : Nat} (h : GnR w b lb mb l p v1 v2 i wr) (hq : (linksT l p)[i]? = some q) (hlt : lb < w.heap.size) (hne : lb ≠ mb) (m : LkM w' lb ((unk p ((linksT l p).take i) (lks l)).filter fun y => !eqT y (linkT p q))) (o : Only [lb] wr w') : GnR w b lb mb l p v1 v2 (i + 1) w' := by
  have hb := h.lnk.apart h.blk
  refine ⟨(List.getElem?_eq_some_iff.1 hq).1, ?_, h.blk.only o (by simp; omega), h.mon.only o (by simp; omega), h.o1.only o (fun g hg => by have := (h.o1.block hg).1; simp; omega), h.o2.only o (fun g hg => by have := (h.o2.block hg).1; simp; omega), h.ba.only o (by simp; omega), h.o.trans o (by simp)⟩
  rw [List.take_add_one, hq]
  show LkM w' lb (unk p (((linksT l p).take i) ++ [q]) (lks l))
  rw [unk_snoc]
  exact m
/-- What Gone answers. -/
def PGoneE (w : World) (b lb mb : Nat) (l : List Te) (p : Pd) (e : Ending) (w' : World) : Prop := ∃ v1 v2, e = .returned (.tuple #[v1, v2]) ∧ OwnS KP w' w.heap.size v1 (linksT l p) ∧ OwnS KT w' w.heap.size v2 (toldT l p) ∧ LRep w' b lb mb (goneT l p) ∧ Only [lb, mb] w w'
set_option maxHeartbeats 16000000 in
theorem pgone_any {w : World} {b lb mb : Nat} {l : List Te} (h : LRep w b lb mb l) (p : Pd) : Calls Try.prog 21 #[ptB b, .agg p.cs] w (PGoneE w b lb mb l p) := by
  have o0 := (Only.refl [] w).alloc (.cells p.cs 32)
  have H0 := Lib.hid (h.only0 o0)
  have K0 := Lib.hid (given_any H0.out)
  have B0 := Bk.made w 32 p.cs
  have HM := Lib.hid h.may
  have HL := Lib.hid h.len
  have HLT := Lib.hid (And.intro h.lnk.lt h.mon.lt)
  have HNE := Lib.hid h.ne
  have HBL := Lib.hid h.blk.lt
  have O0 := Lib.hid o0
  have es : (w.alloc (.cells p.cs 32)).heap.size = w.heap.size + 1 := by simp
  clear o0 h
  go_enter Try.func21, Try.ntmps21
  go_wp2_with fail
  (with_reducible refine K0.out.mono ?_)
  rintro e w1 ⟨rfl, rfl⟩
  go_wp2_with fail
  generalize w.alloc (.cells p.cs 32) = w0 at *
  have BP := Lib.hid B0
  have H1 := Lib.hid (H0.out.only0 ((Only.refl [] w0).drew))
  have O1 := Lib.hid (O0.out.drew)
  have q1 : w0.drew.cell? ⟨w.heap.size, 0, none⟩ = some (.int .i64 p.n) ∧ w0.drew.cell? ⟨w.heap.size, 1, none⟩ = some (.int .i64 p.g) := BP.out.pid
  have KL := Lib.hid (plinks_any H1.out p)
  have KW := Lib.hid (pwatch_any H1.out p)
  have ES : Hid (w0.heap.size = w.heap.size + 1) := Lib.hid es
  clear B0 K0 H0 O0 es
  go_region_held3 (fun w' => w'.cell? ⟨w.heap.size, 0, none⟩ = some (.int .i64 p.n) ∧ w'.cell? ⟨w.heap.size, 1, none⟩ = some (.int .i64 p.g)) (first | assumption | go_keep)
    (first
      | (go_at_call 18; (with_reducible refine KL.out.mono ?_); rintro e w2 ⟨v1, rfl, hv1, o2⟩; have V1 := Lib.hid hv1; have O2 := Lib.hid o2; have H2 := Lib.hid (H1.out.only0 o2); have KW2 := Lib.hid (pwatch_any H2.out p); have q2 := Bk.pid (x := p) (BP.out.drew.only o2 (by simp)); clear hv1 o2)
      | (go_at_call 23; (with_reducible refine KW2.out.mono ?_); rintro e w3 ⟨v2, rfl, hv2, o3⟩; have R3 : Hid (GnR w b lb mb l p v1 v2 0 w3) := Lib.hid ⟨Nat.zero_le _, by rw [List.take_zero, unk_nil]; exact H2.out.lnk.only o3 (by simp), H2.out.blk.only o3 (by simp), H2.out.mon.only o3 (by simp), (V1.out.only o3 (by simp)).low (by have := ES.out; show _ ≤ w0.heap.size; omega), hv2.low (by have := ES.out; have := O2.out.size; have : w0.drew.heap.size = w0.heap.size := rfl; omega), (BP.out.drew.only O2.out (by simp)).only o3 (by simp), ((O1.out.trans O2.out (by simp)).trans o3 (by simp)).more (by simp)⟩; have q3 := Bk.pid (x := p) R3.out.ba; clear hv2 o3)
      | (go_at_call 23; (with_reducible refine KW.out.mono ?_); rintro e w2 ⟨v2, rfl, hv2, o2⟩; have V2 := Lib.hid hv2; have O2 := Lib.hid o2; have H2 := Lib.hid (H1.out.only0 o2); have KL2 := Lib.hid (plinks_any H2.out p); have q2 := Bk.pid (x := p) (BP.out.drew.only o2 (by simp)); clear hv2 o2)
      | (go_at_call 18; (with_reducible refine KL2.out.mono ?_); rintro e w3 ⟨v1, rfl, hv1, o3⟩; have R3 : Hid (GnR w b lb mb l p v1 v2 0 w3) := Lib.hid ⟨Nat.zero_le _, by rw [List.take_zero, unk_nil]; exact H2.out.lnk.only o3 (by simp), H2.out.blk.only o3 (by simp), H2.out.mon.only o3 (by simp), hv1.low (by have := ES.out; have := O2.out.size; have : w0.drew.heap.size = w0.heap.size := rfl; omega), (V2.out.only o3 (by simp)).low (by have := ES.out; show _ ≤ w0.heap.size; omega), (BP.out.drew.only O2.out (by simp)).only o3 (by simp), ((O1.out.trans O2.out (by simp)).trans o3 (by simp)).more (by simp)⟩; have q3 := Bk.pid (x := p) R3.out.ba; clear hv1 o3)
      | fail)
  all_goals
    have R0 := Lib.hid R3.out
    obtain ⟨A1, c1, e1, -⟩ := R0.out.o1.form
    subst e1
    have hn : (linksT l p).length ≤ 2048 := by
      have h1 := l1T_len l p
      have h2 := l2T_len l p
      have := HL.out
      unfold linksT
      rw [List.length_append]
      omega
    go_wp2_with fail
    go_loopw [21] (fun iv wr => ∃ i : Nat, iv = .int .i64 i ∧ GnR w b lb mb l p (.slice A1 (linksT l p).length c1) v2 i wr) (fun iv _ => (linksT l p).length - (intOf iv).toNat)
    case atStart => exact ⟨0, rfl, R0.out⟩
    case round =>
      clear R0
      obtain ⟨i, rfl, hr⟩ := hrel
      have R := Lib.hid hr
      clear hr
      by_cases hlt : i < (linksT l p).length
      · obtain ⟨g1, c1', e⟩ := R.out.o1.some_ (by omega)
        injection e with e1 _ e3
        subst e1 e3
        obtain ⟨q, hq⟩ := some_at hlt
        have x0 := R.out.o1.at_ hq (j := 0) rfl (q := i * 2) (by show _ = i * 2 + 0; omega)
        have x1 := R.out.o1.at_ hq (j := 1) rfl (q := i * 2 + 1) rfl
        have HQ := Lib.hid hq
        have ox := (Only.refl [] wr).alloc (.cells q.cs 32)
        have RX := Lib.hid (R.out.only ox)
        have bq := (Bk.made wr 32 q.cs).pid
        have bp := RX.out.ba.pid
        have k0 : ∀ z : Cm (wr.alloc (.cells q.cs 32)), z.1.cell? ⟨b, 1, none⟩ = some (.map (some lb)) := Cm.cell (RX.out.blk.cell0 (i := 1) rfl)
        have k1 : ∀ z : Cm (wr.alloc (.cells q.cs 32)), z.1.cell? ⟨w.heap.size, 0, none⟩ = some (.int .i64 p.n) := Cm.cell bp.1
        have k2 : ∀ z : Cm (wr.alloc (.cells q.cs 32)), z.1.cell? ⟨w.heap.size, 1, none⟩ = some (.int .i64 p.g) := Cm.cell bp.2
        have k3 : ∀ z : Cm (wr.alloc (.cells q.cs 32)), z.1.cell? ⟨wr.heap.size, 0, none⟩ = some (.int .i64 q.n) := Cm.cell bq.1
        have k4 : ∀ z : Cm (wr.alloc (.cells q.cs 32)), z.1.cell? ⟨wr.heap.size, 1, none⟩ = some (.int .i64 q.g) := Cm.cell bq.2
        have KP := Lib.hid (fun z : Cm (wr.alloc (.cells q.cs 32)) => pairOf_any p q z.1)
        have HLK := Lib.hid (linkq_lk HM.out (List.mem_of_getElem? hq))
        have N := Lib.hid (fun w' m o => RX.out.next (w' := w') HQ.out HLT.out.1 HNE.out m o)
        generalize linkT p q = x at KP HLK N
        clear hq ox bq bp
        go_wp2_with fail
        refine wp_region_calm_then 7 (by kernel_rfl) (by kernel_rfl) ?_
        simp only [List.take_succ_cons, List.take_zero, List.drop_succ_cons, List.drop_zero]
        repeat (go_big_quiet_step ((go_at_call 41; exact calmS (KP.out _))))
        refine wpQuiet_nil ?_
        rintro w5 ⟨⟨w5', o5⟩, e5⟩
        obtain rfl : w5 = w5' := e5
        obtain ⟨w6, hd, m6, o6⟩ := (RX.out.only o5).lnk.del2 (fun y hy => lks_ok HM.out y (List.mem_filter.1 hy).1) HLK.out 0
        have N6 := Lib.hid (N.out w6 m6 ((o5.more (by simp)).trans o6 (by simp)))
        clear m6 o6 o5 k0 k1 k2 k3 k4 x0 x1 N
        go_wp2_with fail
        go_roundw
        case rel => exact ⟨i + 1, by go_num, N6.out⟩
        case measure => simp [intOf]; omega
      · have ei : i = (linksT l p).length := by have := R.out.le; omega
        subst ei
        have ML : Hid (LkM wr lb (lks (goneT l p))) := Lib.hid (by
          have := R.out.lnk
          rw [List.take_length, unk_all HM.out] at this
          exact this)
        have K9 := Lib.hid (mdel_any R.out.ba R.out.mon (mns_ok HM.out) (mns_nodup HM.out))
        have c2 := R.out.blk.cell0 (i := 2) (v := .map (some mb)) rfl
        go_wp2_with fail
        (with_reducible refine K9.out.mono ?_)
        rintro e w7 ⟨rfl, m7, o7⟩
        rw [mns_gone] at m7
        have M7 := Lib.hid m7
        have O7 := Lib.hid o7
        have V2 := Lib.hid (R.out.o2.only o7 (fun g hg => by have := (R.out.o2.block hg).1; have := HLT.out.2; simp; omega))
        have B7 := Lib.hid (R.out.ba.only o7 (by have := HLT.out.2; simp; omega))
        have hw := waT_len l p
        have hll := HL.out
        have K10 := Lib.hid (sdel_any B7.out V2.out (by omega))
        clear m7 o7 K9 c2
        go_wp2_with fail
        (with_reducible refine K10.out.mono ?_)
        rintro e w8 ⟨v2', rfl, ho2, hob, o8⟩
        have V8 : Hid (PGoneE w b lb mb l p (.returned (.tuple #[.slice A1 (linksT l p).length c1, v2'])) w8) := Lib.hid (by
          have hb2 := fun g (hg : g ∈ v2.ownBlock.toList) => V2.out.own_ge g hg
          have hbl := HBL.out
          have hlt := HLT.out
          have hne := HNE.out
          have n1 : ∀ k, k < w.heap.size → k ∉ v2.ownBlock.toList := fun k hk hm => by have := (hb2 k hm).1; omega
          have a7 : OwnS KP w7 (w.heap.size + 1) (.slice A1 (linksT l p).length c1) (linksT l p) := R.out.o1.only O7.out (fun g hg => by have := (R.out.o1.block hg).1; simp; omega)
          refine ⟨_, v2', rfl, (a7.only o8 (own_apart a7 V2.out)).low (by omega), ?_, ⟨mayT_filter HM.out _, ?_, (R.out.blk.only O7.out (by have := R.out.mon.apart R.out.blk; simp; omega)).only o8 (n1 _ hbl), hne, (ML.out.only O7.out (by simp; omega)).only o8 (n1 _ hlt.1), M7.out.only o8 (n1 _ hlt.2)⟩, ?_⟩
          · rw [told_stay] at ho2
            exact ho2.low (by omega)
          · have := List.length_filter_le (fun x => !eqP x.a p && !eqP x.b p) l
            show (List.filter (fun x => !eqP x.a p && !eqP x.b p) l).length ≤ 1024
            omega
          · exact ((R.out.o.more (by simp)).trans O7.out (by simp)).trans o8 (fun i hi => .inr (by have := (hb2 i hi).1; omega)))
        clear ho2 hob o8
        go_wp2_with fail
        go_ret2
        exact V8.out
end Go.Proofs.Ytkodblhompphjaa

namespace Go.Proofs.Ytkodblhompphjaa
open Go.RowKit

theorem turnE {w : World} {b lb mb : Nat} {r : List Te × Int} {F : List Nat} (hF : F = [b, lb, mb]) {e : Ending} {w' : World} (h : TurnE w b lb mb r e w') :
    e = .returned (.int .i64 r.2) ∧ ∃ F', tRep.rep w' b F' r.1 ∧ (∀ g ∈ F', g ∈ F ∨ w.heap.size ≤ g) ∧ Only F w w' := by
  subst hF
  exact ⟨h.1, [b, lb, mb], ⟨lb, mb, rfl, h.2.1⟩, fun g hg => .inl hg, h.2.2.more (by simp)⟩
theorem madeF {w : World} {b lb mb : Nat} (hn : w.heap.size ≤ b ∧ w.heap.size ≤ lb ∧ w.heap.size ≤ mb) : ∀ g ∈ [b, lb, mb], w.heap.size ≤ g := fun g hg => by
  simp only [List.mem_cons, List.not_mem_nil, or_false] at hg
  rcases hg with rfl | rfl | rfl
  · exact hn.1
  · exact hn.2.1
  · exact hn.2.2
theorem tDoes : TiesDoes tRep where
  new := fun w => (new_any w).mono fun e w' ⟨b, lb, mb, he, hr, hn, o⟩ => ⟨b, [b, lb, mb], he, ⟨lb, mb, rfl, hr⟩, madeF hn, o⟩
  may := fun {_ _ _ _} ⟨_, _, _, h⟩ => ⟨h.may, h.len⟩
  link := fun {_ _ _ _} a p ⟨_, _, e, h⟩ => (plink_any h a p).mono fun _ _ hh => turnE e hh
  unlink := fun {_ _ _ _} a p ⟨_, _, e, h⟩ => (punlink_any h a p).mono fun _ _ hh => turnE e hh
  monitor := fun {_ _ _ _} r a p ⟨_, _, e, h⟩ => (pmonitor_any h r a p).mono fun _ _ hh => turnE e hh
  gone := fun {w _ _ _} p ⟨lb, mb, e, h⟩ => (pgone_any h p).mono fun en w' ⟨v1, v2, he, h1, h2, hr, o⟩ => by
    subst e
    have hl := h.lnk.lt
    have hm := h.mon.lt
    have hb := h.blk.lt
    refine ⟨v1, v2, _, he, h1, h2, ⟨lb, mb, rfl, hr⟩, fun g hg => .inl hg, fun g hg => ?_, o.more (by simp)⟩
    have hg' : g < w.heap.size := by
      simp only [List.mem_cons, List.not_mem_nil, or_false] at hg
      rcases hg with rfl | rfl | rfl
      · exact hb
      · exact hl
      · exact hm
    exact ⟨fun e => by have := (h1.block e).1; omega, fun e => by have := (h2.block e).1; omega⟩
theorem tMore : TiesMore tRep where
  demon := fun {_ _ _ _} r ⟨_, _, e, h⟩ => (pdemon_any h r).mono fun _ _ hh => turnE e hh
  copy := fun {_ _ _ _} ⟨_, _, _, h⟩ => (pcopy_any h).mono fun _ _ ⟨b', lb, mb, he, hr, hn, o⟩ => ⟨b', [b', lb, mb], he, ⟨lb, mb, rfl, hr⟩, madeF hn, o⟩
end Go.Proofs.Ytkodblhompphjaa

namespace Go.Proofs.Ytkodblhompphjaa
open Go.RowKit
set_option maxRecDepth 20000

theorem OwnS.kind {α : Type} {K : Sk α} {w : World} {base : Nat} {v : Value} {xs : List α} (h : OwnS K w base v xs) {g : Nat} (hg : v.ownBlock = some g) : ∃ cs, Bk w g K.e cs := by
  rcases h.2 with ⟨hv, _⟩ | ⟨g', cap, cur, hv, hb, hg', _⟩
  · rw [hv] at hg; cases hg
  · rw [hv] at hg
    injection hg with hg
    subst hg
    exact ⟨cur, hg'⟩
/-- One thing of a row written over (a pid, a tie). -/
theorem OwnS.pid9 {w : World} {base d n c : Nat} {xs : List Pd} (h : OwnS KP w base (.slice (some ⟨d, 0, none⟩) n c) xs) {j : Nat} {x : Pd} (hx : xs[j]? = some x) (y : Pd) :
    OwnS KP ((w.setCell ⟨d, j * 2, none⟩ (.int .i64 y.n)).setCell ⟨d, j * 2 + 1, none⟩ (.int .i64 y.g)) base (.slice (some ⟨d, 0, none⟩) n c) (xs.set j y) := by
  have hj := (List.getElem?_eq_some_iff.1 hx).1
  have l1 := h.put (j := 0) (⟨y.n, x.g⟩ : Pd) hx (.int .i64 y.n) (by show 0 < 2; omega) rfl (q := j * 2) (by show _ = j * 2 + 0; omega)
  have l2 := l1.put (j := 1) (⟨y.n, y.g⟩ : Pd) (List.getElem?_set_self hj) (.int .i64 y.g) (by show 1 < 2; omega) rfl (q := j * 2 + 1) (by show _ = j * 2 + 1; omega)
  rwa [List.set_set] at l2
theorem OwnS.tie9 {w : World} {base d n c : Nat} {xs : List Te} (h : OwnS KT w base (.slice (some ⟨d, 0, none⟩) n c) xs) {j : Nat} {x : Te} (hx : xs[j]? = some x) (y : Te) :
    OwnS KT (((((w.setCell ⟨d, j * 5, none⟩ (.int .i64 y.r)).setCell ⟨d, j * 5 + 1, none⟩ (.int .i64 y.a.n)).setCell ⟨d, j * 5 + 2, none⟩ (.int .i64 y.a.g)).setCell ⟨d, j * 5 + 3, none⟩ (.int .i64 y.b.n)).setCell ⟨d, j * 5 + 4, none⟩ (.int .i64 y.b.g)) base (.slice (some ⟨d, 0, none⟩) n c) (xs.set j y) := by
  have hj := (List.getElem?_eq_some_iff.1 hx).1
  have l1 := h.put (j := 0) (⟨y.r, x.a, x.b⟩ : Te) hx (.int .i64 y.r) (by show 0 < 5; omega) rfl (q := j * 5) (by show _ = j * 5 + 0; omega)
  have l2 := l1.put (j := 1) (⟨y.r, ⟨y.a.n, x.a.g⟩, x.b⟩ : Te) (List.getElem?_set_self hj) (.int .i64 y.a.n) (by show 1 < 5; omega) rfl (q := j * 5 + 1) (by show _ = j * 5 + 1; omega)
  have l3 := l2.put (j := 2) (⟨y.r, y.a, x.b⟩ : Te) (List.getElem?_set_self (by rw [List.length_set]; exact hj)) (.int .i64 y.a.g) (by show 2 < 5; omega) rfl (q := j * 5 + 2) (by show _ = j * 5 + 2; omega)
  have l4 := l3.put (j := 3) (⟨y.r, y.a, ⟨y.b.n, x.b.g⟩⟩ : Te) (List.getElem?_set_self (by rw [List.length_set, List.length_set]; exact hj)) (.int .i64 y.b.n) (by show 3 < 5; omega) rfl (q := j * 5 + 3) (by show _ = j * 5 + 3; omega)
  have l5 := l4.put (j := 4) y (List.getElem?_set_self (by rw [List.length_set, List.length_set, List.length_set]; exact hj)) (.int .i64 y.b.g) (by show 4 < 5; omega) rfl (q := j * 5 + 4) (by show _ = j * 5 + 4; omega)
  rwa [List.set_set, List.set_set, List.set_set, List.set_set] at l5
set_option maxHeartbeats 16000000 in
theorem does_5 (R : TiesRep) (K : TiesDoes R) (_M : TiesMore R) {w : World} {b : Nat} {F : List Nat} {xs : List Te} (hr : R.rep w b F xs) (A : Option Addr) (cap : Nat) (h : RdS KT w A xs) (hA : xs ≠ [] → ∀ bl off, A = some ⟨bl, off, none⟩ → bl ∉ F) (o : TOp) (hk : o.kd = 5) :
    Calls Try.prog 9 #[ptB b, .agg (tiC true (.slice A xs.length cap)), .agg o.cs] w (DoesE R w b F (.slice A xs.length cap) xs (goneT xs ⟨o.an, o.ag⟩)) := by
  obtain ⟨kd, rf, an, ag, bn, bg⟩ := o
  dsimp only at hk
  subst hk
  have hxl : xs.length * 40 + 4096 ≤ 140737488355328 := by have := (K.may hr).2; omega
  obtain ⟨w0, e0⟩ : ∃ w0, w0 = ((w.alloc (.cells (tiC true (.slice A xs.length cap)) tyTi)).alloc (.cells (TOp.mk 5 rf an ag bn bg).cs 34)).alloc (.cells (tiC false (.slice none 0 0)) tyTi) := ⟨_, rfl⟩
  have o0 : Only [] w w0 := by rw [e0]; exact (((Only.refl [] w).alloc _).alloc _).alloc _
  have BT := Lib.hid (show Bk w0 w.heap.size tyTi (tiC true (.slice A xs.length cap)) from by rw [e0]; exact ((Bk.made w _ _).alloc _).alloc _)
  have BO := Lib.hid (show Bk w0 (w.heap.size + 1) 34 (TOp.mk 5 rf an ag bn bg).cs from by rw [e0]; exact (Bk.newAt (by simp)).alloc _)
  have BR := Lib.hid (show Bk w0 (w.heap.size + 1 + 1) tyTi (tiC false (.slice none 0 0)) from by rw [e0]; exact Bk.newAt (by simp))
  have H0 := Lib.hid (h.only o0 (by simp))
  have R0 := Lib.hid (R.only hr o0 (by simp))
  have FL := Lib.hid (R.lt hr)
  have O0 := Lib.hid o0
  have LW := Lib.hid (show w.heap.size + 3 ≤ w0.heap.size from by rw [e0]; simp)
  clear h hr o0
  go_enter Try.func9, Try.ntmps9
  go_upto_region 1 with fail
  rw [← e0]
  clear e0
  have s0 := BO.out.cell0 (i := 0) (v := .int .i64 5) rfl
  have s1 := BO.out.cell0 (i := 1) (v := .int .i64 rf) rfl
  have s2 := BO.out.cell0 (i := 2) (v := .int .i64 an) rfl
  have s3 := BO.out.cell0 (i := 3) (v := .int .i64 ag) rfl
  have s4 := BO.out.cell0 (i := 4) (v := .int .i64 bn) rfl
  have s5 := BO.out.cell0 (i := 5) (v := .int .i64 bg) rfl
  have t0 := BT.out.cell0 (i := 0) (v := .bool true) rfl
  have t1 := BT.out.cell0 (i := 1) (v := .slice A xs.length cap) rfl
  have K1 := Lib.hid (K.gone ⟨an, ag⟩ R0.out)
  have HA := Lib.hid (fun h0 => hA h0)
  clear hA
  go_wp2_with fail
  (with_reducible refine K1.out.mono ?_)
  rintro e w1 ⟨v1, v2, F', rfl, h1, h2, h3, hF, hV, o1⟩
  obtain ⟨A1, c1, e1, -, -, -, -⟩ := h1.form
  obtain ⟨A2, c2, e2, -, -, -, -⟩ := h2.form
  subst e1 e2
  have l1 := LW.out
  have n0 : w.heap.size ∉ F := fun hm => by have := FL.out _ hm; omega
  have n1 : w.heap.size + 1 ∉ F := fun hm => by have := FL.out _ hm; omega
  have n2 : w.heap.size + 1 + 1 ∉ F := fun hm => by have := FL.out _ hm; omega
  have BT1 := Lib.hid (BT.out.only o1 n0)
  have BO1 := Lib.hid (BO.out.only o1 n1)
  have BR1 := Lib.hid (BR.out.only o1 n2)
  have H1 := Lib.hid (H0.out.only o1 HA.out)
  have V1 := Lib.hid h1
  have V2 := Lib.hid h2
  have R1 := Lib.hid h3
  have VB1 := Lib.hid (fun (g : Nat) (hg : (Value.slice A1 (linksT xs ⟨an, ag⟩).length c1).ownBlock = some g) => (h1.block hg).2)
  have VB2 := Lib.hid (fun (g : Nat) (hg : (Value.slice A2 (toldT xs ⟨an, ag⟩).length c2).ownBlock = some g) => (h2.block hg).2)
  have AP12 := Lib.hid (fun (g : Nat) (hg : (Value.slice A2 (toldT xs ⟨an, ag⟩).length c2).ownBlock = some g) => show ¬ (Value.slice A1 (linksT xs ⟨an, ag⟩).length c1).ownBlock = some g from fun hm => by
    have k1 := h1.kind hm
    have k2 := h2.kind hg
    obtain ⟨cs1, k1⟩ := k1
    obtain ⟨cs2, k2⟩ := k2
    exact k1.apart k2 (by decide +kernel) rfl)
  have HF1 := Lib.hid hF
  have HV1 := Lib.hid hV
  have O1 := Lib.hid ((O0.out.more (T := F) (by simp)).trans o1 (fun i hi => .inl hi))
  have S1 := Lib.hid o1.size
  have t0 := BT1.out.cell0 (i := 0) (v := .bool true) rfl
  have t1 := BT1.out.cell0 (i := 1) (v := .slice A xs.length cap) rfl
  have s2 := BO1.out.cell0 (i := 2) (v := .int .i64 an) rfl
  have s3 := BO1.out.cell0 (i := 3) (v := .int .i64 ag) rfl
  have K2 := Lib.hid (rgone_any A xs cap ⟨an, ag⟩ w1 H1.out hxl)
  have hm := (K.may R0.out).2
  clear h1 h2 h3 hF hV o1 s0 s1 s4 s5 K1 n0 n1 n2 HA
  go_wp2_with fail
  (with_reducible refine K2.out.mono ?_)
  rintro e w2 ⟨v, x, y, rfl, h1, h2, h3, hap, o2⟩
  obtain ⟨A3, c3, e1, -, -, -, -⟩ := h1.form
  obtain ⟨A4, c4, e2, -, -, -, -⟩ := h2.form
  obtain ⟨A5, c5, e3, -, -, -, -⟩ := h3.form
  subst e1 e2 e3
  have o23 : Only [] w2 (w2.alloc (.cells (tiC true (.slice A3 (goneT xs ⟨an, ag⟩).length c3)) tyTi)) := (Only.refl [] w2).alloc _
  have o3 := o2.trans o23 (by simp)
  have B18 := Lib.hid (Bk.made w2 tyTi (tiC true (.slice A3 (goneT xs ⟨an, ag⟩).length c3)))
  have V1 := Lib.hid (V1.out.only o3 (by simp))
  have V2 := Lib.hid (V2.out.only o3 (by simp))
  have V3 := Lib.hid (h1.only o23 (by simp))
  have X3 := Lib.hid (h2.only o23 (by simp))
  have Y3 := Lib.hid (h3.only o23 (by simp))
  have R3 := Lib.hid (R.only R1.out o3 (by simp))
  have BR3 := Lib.hid (BR1.out.only o3 (by simp))
  have O3 := Lib.hid (O1.out.trans o3 (by simp))
  have S3 := Lib.hid o2.size
  have FL1 := Lib.hid (R.lt R1.out)
  have VL1 := Lib.hid (fun g hg => (V1.out.block (g := g) hg).1)
  have K3 := rpids_any A1 A4 (linksT xs ⟨an, ag⟩) (linksT xs ⟨an, ag⟩) c1 c4 _ V1.out.rd_ X3.out.rd_ (by have := linksT_len xs ⟨an, ag⟩ hm; omega) (by have := linksT_len xs ⟨an, ag⟩ hm; omega)
  rw [decide_eq_true rfl] at K3
  have K3 := Lib.hid K3
  have V1L := Lib.hid (fun (g : Nat) (hg : (Value.slice A1 (linksT xs ⟨an, ag⟩).length c1).ownBlock = some g) => VB1.out g hg)
  have V2L := Lib.hid (fun (g : Nat) (hg : (Value.slice A2 (toldT xs ⟨an, ag⟩).length c2).ownBlock = some g) => VB2.out g hg)
  have V1G := Lib.hid (fun (g : Nat) (hg : (Value.slice A1 (linksT xs ⟨an, ag⟩).length c1).ownBlock = some g) => (V1.out.block hg).1)
  have V2G := Lib.hid (fun (g : Nat) (hg : (Value.slice A2 (toldT xs ⟨an, ag⟩).length c2).ownBlock = some g) => (V2.out.block hg).1)
  have V3L := Lib.hid (fun (g : Nat) (hg : (Value.slice A3 (goneT xs ⟨an, ag⟩).length c3).ownBlock = some g) => (h1.block hg).1)
  have V3M := Lib.hid (fun (g : Nat) (hg : (Value.slice A3 (goneT xs ⟨an, ag⟩).length c3).ownBlock = some g) => (h1.block hg).2)
  clear h1 h2 h3 o2 o23 o3 t0 t1 s2 s3 K2 hap
  go_wp2_with fail
  (with_reducible refine K3.out.mono ?_)
  rintro e w4 ⟨rfl, q4, rfl⟩
  have o4 : Only [] (w2.alloc (.cells (tiC true (.slice A3 (goneT xs ⟨an, ag⟩).length c3)) tyTi)) ((w2.alloc (.cells (tiC true (.slice A3 (goneT xs ⟨an, ag⟩).length c3)) tyTi)).drewN q4) := (Only.refl [] _).drewN q4
  have K4 := rsame_any A2 A5 (toldT xs ⟨an, ag⟩) (toldT xs ⟨an, ag⟩) c2 c5 _ (V2.out.only o4 (by simp)).rd_ (Y3.out.only o4 (by simp)).rd_ (by have := toldT_len xs ⟨an, ag⟩; omega) (by have := toldT_len xs ⟨an, ag⟩; omega)
  rw [decide_eq_true rfl] at K4
  have K4 := Lib.hid K4
  clear o4 K3
  go_wp2_with fail
  (with_reducible refine K4.out.mono ?_)
  rintro e w5 ⟨rfl, q5, rfl⟩
  generalize hw5 : ((w2.alloc (.cells (tiC true (.slice A3 (goneT xs ⟨an, ag⟩).length c3)) tyTi)).drewN q4).drewN q5 = w5 at *
  have o35 : Only [] (w2.alloc (.cells (tiC true (.slice A3 (goneT xs ⟨an, ag⟩).length c3)) tyTi)) w5 := by rw [← hw5]; exact ((Only.refl [] _).drewN q4).drewN q5
  have sz5 : w5.heap.size = w2.heap.size + 1 := by rw [← hw5]; simp [World.drewN]
  have V1 := Lib.hid (V1.out.only o35 (by simp))
  have V2 := Lib.hid (V2.out.only o35 (by simp))
  have V3 := Lib.hid (V3.out.only o35 (by simp))
  have R3 := Lib.hid (R.only R3.out o35 (by simp))
  have BR3 := Lib.hid (BR3.out.only o35 (by simp))
  have B18 := Lib.hid (B18.out.only o35 (by simp))
  have O3 := Lib.hid (O3.out.trans o35 (by simp))
  have SZ5 := Lib.hid sz5
  have hll := linksT_len xs ⟨an, ag⟩ hm
  have htl := Nat.le_trans (toldT_len xs ⟨an, ag⟩) hm
  clear hw5 o35 sz5 K4 X3 Y3 hm
  go_wp2_with fail
  go_loopw [22] (fun kv wr => ∃ (k : Nat) (ys : List Pd), kv = .int .i64 k ∧ k ≤ (linksT xs ⟨an, ag⟩).length ∧ ys.length = (linksT xs ⟨an, ag⟩).length ∧ OwnS KP wr w0.heap.size (.slice A1 (linksT xs ⟨an, ag⟩).length c1) ys ∧ Only (Value.slice A1 (linksT xs ⟨an, ag⟩).length c1).ownBlock.toList w5 wr) (fun kv _ => (linksT xs ⟨an, ag⟩).length - (intOf kv).toNat)
  case atStart => exact ⟨0, _, rfl, Nat.zero_le _, rfl, V1.out, Only.refl _ _⟩
  case round =>
    obtain ⟨k, ys, rfl, hk, hy, hv, ho⟩ := hrel
    by_cases hlt : k < (linksT xs ⟨an, ag⟩).length
    · obtain ⟨⟨pn, pg⟩, hp⟩ := some_at (show k < ys.length from hy ▸ hlt)
      obtain ⟨d1, ef, f1⟩ := hv.some_ (Nat.lt_of_le_of_lt (Nat.zero_le k) (hy ▸ hlt))
      injection f1 with f1 f1' f1''
      subst f1
      have z0 := hv.at_ hp (j := 0) rfl (q := k * 2) (by show _ = k * 2 + 0; omega)
      have z1 := hv.at_ hp (j := 1) rfl (q := k * 2 + 1) rfl
      have zf := hv.free_
      have N1 := Lib.hid (hv.pid9 hp ⟨-7, 0⟩)
      have N2 := Lib.hid (((ho.set (p := ⟨d1, k * 2, none⟩) (.inl (by simp [Value.ownBlock])) (.int .i64 (-7))).set (p := ⟨d1, k * 2 + 1, none⟩) (.inl (by simp [Value.ownBlock])) (.int .i64 0)))
      have HY := Lib.hid hy
      have HK := Lib.hid (show k + 1 ≤ (linksT xs ⟨an, ag⟩).length from hlt)
      have pk : (k : Int) < ((linksT xs ⟨an, ag⟩).length : Int) := by omega
      clear hp hv ho hy hk f1' f1''
      go_wp2_with fail
      go_roundw
      case rel => exact ⟨k + 1, _, by go_num, HK.out, by rw [List.length_set]; exact HY.out, N1.out, N2.out⟩
      case measure => have := HK.out; simp [intOf]; omega
    · have e : k = (linksT xs ⟨an, ag⟩).length := by omega
      subst e
      have V2 := Lib.hid (V2.out.only ho (fun g hg hm => absurd (by simpa using hm) (AP12.out g hg)))
      have V3 := Lib.hid (V3.out.only ho (fun g hg hm => by have h1 := (V3L.out g hg); have h2 := (V1L.out g (by simpa using hm)); omega))
      have R3 := Lib.hid (R.only R3.out ho (fun g hg hm => (HV1.out g hg).1 (by simpa using hm)))
      have BR3 := Lib.hid (BR3.out.only ho (fun hm => by have h2 := (V1G.out _ (by simpa using hm)); have := LW.out; omega))
      have B18 := Lib.hid (B18.out.only ho (fun hm => by have h2 := (V1L.out _ (by simpa using hm)); have := S3.out; omega))
      have O3 := Lib.hid (O3.out.trans ho (fun i hi => .inr (by have h2 := (V1G.out i (by simpa using hi)); have := LW.out; omega)))
      clear hv ho hy hk hlt
      go_wp2_with fail
      go_loopw [23] (fun kv wr' => ∃ (k : Nat) (ys : List Te), kv = .int .i64 k ∧ k ≤ (toldT xs ⟨an, ag⟩).length ∧ ys.length = (toldT xs ⟨an, ag⟩).length ∧ OwnS KT wr' w0.heap.size (.slice A2 (toldT xs ⟨an, ag⟩).length c2) ys ∧ Only (Value.slice A2 (toldT xs ⟨an, ag⟩).length c2).ownBlock.toList wr wr') (fun kv _ => (toldT xs ⟨an, ag⟩).length - (intOf kv).toNat)
      case atStart => exact ⟨0, _, rfl, Nat.zero_le _, rfl, V2.out, Only.refl _ _⟩
      case round =>
        obtain ⟨k, ys, rfl, hk, hy, hv, ho⟩ := hrel
        by_cases hlt : k < (toldT xs ⟨an, ag⟩).length
        · obtain ⟨⟨tr, ⟨tan, tag⟩, ⟨tbn, tbg⟩⟩, hp⟩ := some_at (show k < ys.length from hy ▸ hlt)
          obtain ⟨d2, ef, f1⟩ := hv.some_ (Nat.lt_of_le_of_lt (Nat.zero_le k) (hy ▸ hlt))
          injection f1 with f1 f1' f1''
          subst f1
          have z0 := hv.at_ hp (j := 0) rfl (q := k * 5) (by show _ = k * 5 + 0; omega)
          have z1 := hv.at_ hp (j := 1) rfl (q := k * 5 + 1) rfl
          have z2 := hv.at_ hp (j := 2) rfl (q := k * 5 + 2) rfl
          have z3 := hv.at_ hp (j := 3) rfl (q := k * 5 + 3) rfl
          have z4 := hv.at_ hp (j := 4) rfl (q := k * 5 + 4) rfl
          have zf := hv.free_
          have N1 := Lib.hid (hv.tie9 hp ⟨-7, ⟨0, 0⟩, ⟨0, 0⟩⟩)
          have N2 := Lib.hid ((((((ho.set (p := ⟨d2, k * 5, none⟩) (.inl (by simp [Value.ownBlock])) (.int .i64 (-7))).set (p := ⟨d2, k * 5 + 1, none⟩) (.inl (by simp [Value.ownBlock])) (.int .i64 0)).set (p := ⟨d2, k * 5 + 2, none⟩) (.inl (by simp [Value.ownBlock])) (.int .i64 0)).set (p := ⟨d2, k * 5 + 3, none⟩) (.inl (by simp [Value.ownBlock])) (.int .i64 0)).set (p := ⟨d2, k * 5 + 4, none⟩) (.inl (by simp [Value.ownBlock])) (.int .i64 0)))
          have HY := Lib.hid hy
          have HK := Lib.hid (show k + 1 ≤ (toldT xs ⟨an, ag⟩).length from hlt)
          have pk : (k : Int) < ((toldT xs ⟨an, ag⟩).length : Int) := by omega
          clear hp hv ho hy hk f1' f1''
          go_wp2_with fail
          go_roundw
          case rel => exact ⟨k + 1, _, by go_num, HK.out, by rw [List.length_set]; exact HY.out, N1.out, N2.out⟩
          case measure => have := HK.out; simp [intOf]; omega
        · have e : k = (toldT xs ⟨an, ag⟩).length := by omega
          subst e
          have V3 := Lib.hid (V3.out.only ho (fun g hg hm => by have h1 := (V3L.out g hg); have h2 := (V2L.out g (by simpa using hm)); omega))
          have R3 := Lib.hid (R.only R3.out ho (fun g hg hm => (HV1.out g hg).2 (by simpa using hm)))
          have BR3 := Lib.hid (BR3.out.only ho (fun hm => by have h2 := (V2G.out _ (by simpa using hm)); have := LW.out; omega))
          have B18 := Lib.hid (B18.out.only ho (fun hm => by have h2 := (V2L.out _ (by simpa using hm)); have := S3.out; omega))
          have O3 := Lib.hid (O3.out.trans ho (fun i hi => .inr (by have h2 := (V2G.out i (by simpa using hi)); have := LW.out; omega)))
          have z0 := BR3.out.cell0 (i := 0) (v := .bool false) rfl
          have z1 := BR3.out.cell0 (i := 1) (v := .slice none 0 0) rfl
          have zf := BR3.out.free
          have u0 := B18.out.cell0 (i := 0) (v := .bool true) rfl
          have u1 := B18.out.cell0 (i := 1) (v := .slice A3 (goneT xs ⟨an, ag⟩).length c3) rfl
          clear hv ho hy hk hlt
          go_wp2_with fail
          have l1 := LW.out
          have l2 := S1.out
          have oW : Only [w.heap.size + 1 + 1] wr ((wr.setCell ⟨w.heap.size + 1 + 1, 0, none⟩ (.bool true)).setCell ⟨w.heap.size + 1 + 1, 1, none⟩ (.slice A3 (goneT xs ⟨an, ag⟩).length c3)) := ((Only.refl [w.heap.size + 1 + 1] wr).set (.inl (by simp)) _).set (.inl (by simp)) _
          refine bodyPost_ret (v := .tuple #[.agg (tiC true (.slice A3 (goneT xs ⟨an, ag⟩).length c3)), .bool true]) (by simp [results, Try.results9, go_sem, z0, z1]) rfl ?_
          refine ⟨_, F', rfl, R.only R3.out oW (fun g hg => ?_), .inr ((V3.out.only oW (fun g hg => by have := V3L.out g hg; simp; omega)).low (by omega)), fun g hg => (HF1.out g hg).imp id (fun h => by omega), fun g hg => .inr (fun hm => by have h1 := V3L.out g hg; have h2 := FL1.out g hm; omega), O3.out.trans oW (fun i hi => .inr (by simp at hi; omega))⟩
          rcases HF1.out g hg with h | h
          · have := FL.out g h
            simp; omega
          · simp; omega
end Go.Proofs.Ytkodblhompphjaa
