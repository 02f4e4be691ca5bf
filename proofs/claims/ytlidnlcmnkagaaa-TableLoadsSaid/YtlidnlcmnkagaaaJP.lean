/- The law TableLoads. -/
import Derived.Test.YtlidnlcmnkagaaaJO
import Derived.Test.YtlidnlcmnkagaaaJB
import Derived.Test.YtlidnlcmnkagaaaMf
import Derived.Test.YtlidnlcmnkagaaaSp
namespace Go.Proofs.Ytlidnlcmnkagaaa
open Go.RowKit
set_option maxRecDepth 20000

theorem OwnS.rd_ {α : Type} {K : Sk α} {W : World} {base : Nat} {B : Option Addr} {n c : Nat} {l : List α} (ho : OwnS K W base (.slice B n c) l) : RdS K W B l := by
  obtain ⟨B', c', e, -, -, r, -⟩ := ho.form
  injection e with e
  subst e
  exact r
abbrev spB : ByteArray := ⟨#[115, 112, 111, 105, 108, 116]⟩
theorem kpi : KP.e ≠ KS.e := by decide +kernel
/-- What stands while the handed rows are written over. -/
structure SpS (w : World) (m4 m5 b g mb cap bt : Nat) (v1 v2 v3 : Value) (A2 : Option Addr) (n2 c2 : Nat) (A4 : Option Addr) (n4 c4 : Nat) (T : List Pl) (xs : List Pd) (ys : List ByteArray) (wr : World) : Prop where
  lx : xs.length = n2
  ly : ys.length = n4
  p : OwnS KP wr (w.heap.size + 1) (.slice A2 n2 c2) xs
  s : OwnS KS wr (w.heap.size + 1) (.slice A4 n4 c4) ys
  t : TRep wr b g mb cap T
  rh : OwnS KI wr m5 v1 (hads T)
  ra : OwnS KB wr m5 v2 (als T)
  rn : OwnS KS wr m5 v3 (nms T)
  bk : Bk wr bt 30 (rtC T.length v1 v2 v3)
  nb : m4 ≤ b ∧ m4 ≤ g ∧ m4 ≤ mb ∧ m4 ≤ m5 ∧ m5 ≤ bt ∧ g < m5
  l2 : ∀ bl off, A2 = some ⟨bl, off, none⟩ → bl < m4
  l4 : ∀ bl off, A4 = some ⟨bl, off, none⟩ → bl < m4
  o : Only [] w wr
theorem SpS.turn {w wr wr' : World} {m4 m5 b g mb cap bt : Nat} {v1 v2 v3 : Value} {A2 : Option Addr} {n2 c2 : Nat} {A4 : Option Addr} {n4 c4 : Nat} {T : List Pl} {xs xs' : List Pd} {ys ys' : List ByteArray} (u : SpS w m4 m5 b g mb cap bt v1 v2 v3 A2 n2 c2 A4 n4 c4 T xs ys wr)
    {d : Nat} (hd : d < m4) (hw : w.heap.size ≤ d) (o : Only [d] wr wr') (lx : xs'.length = n2) (ly : ys'.length = n4) (p : OwnS KP wr' (w.heap.size + 1) (.slice A2 n2 c2) xs') (s : OwnS KS wr' (w.heap.size + 1) (.slice A4 n4 c4) ys') : SpS w m4 m5 b g mb cap bt v1 v2 v3 A2 n2 c2 A4 n4 c4 T xs' ys' wr' := by
  obtain ⟨h1, h2, h3, h4, h5, h6⟩ := u.nb
  exact ⟨lx, ly, p, s, u.t.only o (by simp; omega) (by simp; omega) (by simp; omega), u.rh.only o (fun g' e hm => by have := (u.rh.block e).1; simp at hm; omega), u.ra.only o (fun g' e hm => by have := (u.ra.block e).1; simp at hm; omega), u.rn.only o (fun g' e hm => by have := (u.rn.block e).1; simp at hm; omega), u.bk.only o (by simp; omega), u.nb, u.l2, u.l4, u.o.trans o (fun i hi => by simp at hi; omega)⟩
theorem SpS.rt {w wr : World} {m4 m5 b g mb cap bt : Nat} {v1 v2 v3 : Value} {A2 : Option Addr} {n2 c2 : Nat} {A4 : Option Addr} {n4 c4 : Nat} {T : List Pl} {xs : List Pd} {ys : List ByteArray} (u : SpS w m4 m5 b g mb cap bt v1 v2 v3 A2 n2 c2 A4 n4 c4 T xs ys wr) : RT wr v1 v2 v3 T :=
  ⟨u.rh.low (Nat.zero_le _), u.ra.low (Nat.zero_le _), u.rn.low (Nat.zero_le _)⟩
/-- One pid is written over. -/
theorem SpS.pid {w wr : World} {m4 m5 b g mb cap bt : Nat} {v1 v2 v3 : Value} {d2 n2 c2 : Nat} {A4 : Option Addr} {n4 c4 : Nat} {T : List Pl} {xs : List Pd} {ys : List ByteArray} (u : SpS w m4 m5 b g mb cap bt v1 v2 v3 (some ⟨d2, 0, none⟩) n2 c2 A4 n4 c4 T xs ys wr) {k : Nat} {x : Pd} (hx : xs[k]? = some x) :
    SpS w m4 m5 b g mb cap bt v1 v2 v3 (some ⟨d2, 0, none⟩) n2 c2 A4 n4 c4 T (xs.set k P0) ys ((wr.setCell ⟨d2, k * 2, none⟩ (.int .i64 0)).setCell ⟨d2, k * 2 + 1, none⟩ (.int .i64 0)) := by
  have hk := (List.getElem?_eq_some_iff.1 hx).1
  have p1 := u.p.put (j := 0) ⟨0, x.g⟩ hx (.int .i64 0) (by show 0 < 2; omega) rfl (q := k * 2) (by show k * 2 = k * 2 + 0; omega)
  have p2 := p1.put (i := k) (j := 1) P0 (List.getElem?_set_self hk) (.int .i64 0) (by show 1 < 2; omega) rfl (q := k * 2 + 1) rfl
  rw [List.set_set] at p2
  have s1 := u.s.setRow u.p (fun e => kpi e.symm) (k * 2) (.int .i64 0)
  have s2 := s1.setRow p1 (fun e => kpi e.symm) (k * 2 + 1) (.int .i64 0)
  exact u.turn (u.l2 d2 0 rfl) (Nat.le_of_succ_le (u.p.block rfl).1) (((Only.refl [d2] wr).set (.inl (by simp)) _).set (.inl (by simp)) _) (by rw [List.length_set]; exact u.lx) u.ly p2 s2
theorem SpS.name {w wr : World} {m4 m5 b g mb cap bt : Nat} {v1 v2 v3 : Value} {A2 : Option Addr} {n2 c2 : Nat} {d4 n4 c4 : Nat} {T : List Pl} {xs : List Pd} {ys : List ByteArray} (u : SpS w m4 m5 b g mb cap bt v1 v2 v3 A2 n2 c2 (some ⟨d4, 0, none⟩) n4 c4 T xs ys wr) {k : Nat} {y : ByteArray} (hy : ys[k]? = some y) (z : ByteArray) :
    SpS w m4 m5 b g mb cap bt v1 v2 v3 A2 n2 c2 (some ⟨d4, 0, none⟩) n4 c4 T xs (ys.set k z) (wr.setCell ⟨d4, k, none⟩ (.string z)) := by
  have s1 := u.s.put (j := 0) z hy (.string z) (by show 0 < 1; omega) rfl (q := k) (by show k = k * 1 + 0; omega)
  have p1 := u.p.setRow u.s kpi k (.string z)
  exact u.turn (u.l4 d4 0 rfl) (Nat.le_of_succ_le (u.s.block rfl).1) ((Only.refl [d4] wr).set (.inl (by simp)) _) u.lx (by rw [List.length_set]; exact u.ly) p1 s1
theorem SpS.only {w wr wr' : World} {m4 m5 b g mb cap bt : Nat} {v1 v2 v3 : Value} {A2 : Option Addr} {n2 c2 : Nat} {A4 : Option Addr} {n4 c4 : Nat} {T : List Pl} {xs : List Pd} {ys : List ByteArray} (u : SpS w m4 m5 b g mb cap bt v1 v2 v3 A2 n2 c2 A4 n4 c4 T xs ys wr) (o : Only [] wr wr') : SpS w m4 m5 b g mb cap bt v1 v2 v3 A2 n2 c2 A4 n4 c4 T xs ys wr' :=
  ⟨u.lx, u.ly, u.p.only o (by simp), u.s.only o (by simp), u.t.only o (by simp) (by simp) (by simp), u.rh.only o (by simp), u.ra.only o (by simp), u.rn.only o (by simp), u.bk.only o (by simp), u.nb, u.l2, u.l4, u.o.trans o (by simp)⟩
theorem SpS.front {w wr wr' : World} {m4 m5 b g mb cap bt : Nat} {v1 v2 v3 : Value} {A2 : Option Addr} {n2 c2 : Nat} {A4 : Option Addr} {n4 c4 : Nat} {T : List Pl} {xs : List Pd} {ys : List ByteArray} (u : SpS w m4 m5 b g mb cap bt v1 v2 v3 A2 n2 c2 A4 n4 c4 T xs ys wr) (o : Only [w.heap.size] wr wr') (hm : w.heap.size < m4) : SpS w m4 m5 b g mb cap bt v1 v2 v3 A2 n2 c2 A4 n4 c4 T xs ys wr' :=
  u.turn hm (Nat.le_refl _) o u.lx u.ly (u.p.only o (fun g' e hm => by have := (u.p.block e).1; simp at hm; omega)) (u.s.only o (fun g' e hm => by have := (u.s.block e).1; simp at hm; omega))
theorem load_names {gens : List Int} {live : List Pd} {names : List ByteArray} {T : List Pl} (h : loadF gens live names = some T) : names.length = live.length := by
  unfold loadF at h
  split at h
  · next hc => exact hc.2.1
  · cases h
set_option maxHeartbeats 16000000 in
theorem tloads_any {w : World} {A B C : Option Addr} {gens : List Int} {live : List Pd} {names : List ByteArray} (ca cb cc : Nat) (hA : RdS KI w A gens) (hB : RdS KP w B live) (hC : RdS KS w C names)
    (la : gens.length + 70 ≤ 17592186044416) (lb : live.length * 16 ≤ 140737488355328) (lc : names.length * 16 ≤ 140737488355328) (hsz : ∀ s ∈ names, s.size ≤ 140737488351232) :
    Calls Try.prog 4 #[.slice A gens.length ca, .slice B live.length cb, .slice C names.length cc] w fun e w' => e = .returned (.bool true) ∧ Only [] w w' := by
  have HA := Lib.hid hA
  have HB := Lib.hid hB
  have HC := Lib.hid hC
  have HSZ := Lib.hid hsz
  have K0 := Lib.hid (lent_any A gens ca hA.ints la)
  clear hA hB hC hsz
  go_enter Try.func4, Try.ntmps4
  go_wp2_with fail
  (with_reducible refine K0.out.mono ?_)
  rintro e w1 ⟨rfl, bk, o1⟩
  have hw1 := bk.lt
  have O1 := Lib.hid (o1.alloc (.cells #[] 38))
  have B1 := Lib.hid (bk.alloc (.cells #[] 38))
  have E1 := Lib.hid (own_bk (K := KP) (w := w1.alloc (.cells #[] 38)) (g := w1.heap.size) (n := 0) (base := w.heap.size + 1) (cs := #[]) (xs := []) (Bk.made w1 38 #[]) rfl rfl (by omega) (by simp [maxLen]))
  have LB : (([] : List Pd).length + live.length) * KP.by' ≤ 140737488355328 := by show (0 + live.length) * 16 ≤ _; omega
  have HB1 := Lib.hid (HB.out.only0 O1.out)
  have hb1 : w.heap.size + 1 ≤ (w1.alloc (.cells #[] 38)).heap.size := by simp; omega
  clear bk o1 K0
  go_wp2_with (first
    | (at_builtin; refine wpList_appS KP _ (by rfl) (.tmp 22) (.tmp 23) (by rfl) (by rfl) E1.out B live live.length cb (by rfl) rfl HB1.out hb1 LB ?_; intro v2 w2 hown hgrow hat; have G2 := Lib.hid hgrow; have V2 := Lib.hid hown; clear hown hgrow hat; (have O2 := Lib.hid (O1.out.trans (Only.of_grown G2.out) (fun i hi => .inr (by have := (E1.out.own_ge i hi).1; omega)))); (have B2 := Lib.hid (B1.out.only (Only.of_grown G2.out) (fun hm => by have := (E1.out.own_ge _ hm).1; omega))); (have V2' := V2.out); rw [List.nil_append] at V2'; obtain ⟨A2, c2, rfl, -, -, -, -⟩ := V2'.form; (have hw2 := B2.out.lt); (have LT2 := Lib.hid (fun (g' : Nat) (e : (Value.slice A2 live.length c2).ownBlock = some g') => (V2'.block e).2)); (have O3 := Lib.hid (O2.out.alloc (.cells #[] 9))); (have B3 := Lib.hid (B2.out.alloc (.cells #[] 9))); (have V3 := Lib.hid (V2'.alloc (.cells #[] 9))); (have E3 := Lib.hid (own_bk (K := KS) (w := w2.alloc (.cells #[] 9)) (g := w2.heap.size) (n := 0) (base := w2.heap.size) (cs := #[]) (xs := []) (Bk.made w2 9 #[]) rfl rfl (by omega) (by simp [maxLen]))); (have LC : (([] : List ByteArray).length + names.length) * KS.by' ≤ 140737488355328 := by show (0 + names.length) * 16 ≤ _; omega); (have HC3 := Lib.hid (HC.out.only0 O3.out)); (have hb3 : w2.heap.size ≤ (w2.alloc (.cells #[] 9)).heap.size := by simp); clear V2 V2' G2 E1 HB1 B1 O1 B2 O2)
    | (at_builtin; refine wpList_appS KS _ (by rfl) (.tmp 25) (.tmp 26) (by rfl) (by rfl) E3.out C names names.length cc (by rfl) rfl HC3.out hb3 LC ?_; intro v4 w4 hown hgrow hat; have G4 := Lib.hid hgrow; have V4 := Lib.hid hown; clear hown hgrow hat))
  have N4' := V4.out
  rw [List.nil_append] at N4'
  obtain ⟨A4, c4, rfl, -, -, -, -⟩ := N4'.form
  have N4 := Lib.hid (N4'.low (base' := w.heap.size + 1) (by omega))
  have O4 := Lib.hid (O3.out.trans (Only.of_grown G4.out) (fun i hi => .inr (by have := (E3.out.own_ge i hi).1; omega)))
  have B4 := Lib.hid (B3.out.only (Only.of_grown G4.out) (fun hm => by have := (E3.out.own_ge _ hm).1; omega))
  have P4 := Lib.hid (V3.out.only (Only.of_grown G4.out) (fun g' e hm => by have h1 := (E3.out.own_ge _ hm).1; have h2 := LT2.out g' e; omega))
  clear N4' V4 G4 E3 HC3 B3 V3 O3
  have hw4 := B4.out.lt
  have L2 := Lib.hid (fun (bl off : Nat) (e : A2 = some (⟨bl, off, none⟩ : Addr)) => (P4.out.block (show (Value.slice A2 live.length c2).ownBlock = some bl from by rw [e]; rfl)).2)
  have L4 := Lib.hid (fun (bl off : Nat) (e : A4 = some (⟨bl, off, none⟩ : Addr)) => (N4.out.block (show (Value.slice A4 names.length c4).ownBlock = some bl from by rw [e]; rfl)).2)
  have la2 : gens.length ≤ 17592186044416 := by omega
  have lb2 : live.length ≤ 17592186044416 := by omega
  have lc2 : names.length ≤ 17592186044416 := by omega
  have KL := Lib.hid (load_any (gens.length + 70) c2 c4 (rd_front B4.out).rows P4.out.rd_ N4.out.rd_ la2 lb2 lc2 HSZ.out)
  go_wp2_with fail
  (with_reducible refine KL.out.mono ?_)
  rintro e w5 hE5
  have O5' : Only [] w4 w5 := by
    cases hF : loadF gens live names with
    | none => rw [hF] at hE5; exact hE5.2
    | some T => rw [hF] at hE5; obtain ⟨b, he, g, mb, cap, ht, hn, ho⟩ := hE5; exact ho
  have O5 := Lib.hid (O4.out.trans O5' (by simp))
  have B5 := Lib.hid (B4.out.only O5' (by simp))
  have P5 := Lib.hid (P4.out.only O5' (by simp))
  have N5 := Lib.hid (N4.out.only O5' (by simp))
  have KR := Lib.hid (rload_any ca cb cc (HA.out.only0 O5.out) (HB.out.only0 O5.out) (HC.out.only0 O5.out) la2 lb2 lc2 HSZ.out)
  have lk : gens.length + 70 ≤ 17592186044416 := la
  clear O5' KL B4 P4 N4 O4
  cases hF : loadF gens live names with
  | none =>
    rw [hF] at hE5 KR
    obtain ⟨rfl, -⟩ := hE5
    go_wp2_with fail
    (with_reducible refine KR.out.mono ?_)
    rintro e w6 ⟨rfl, o6⟩
    have o7 := o6.alloc (.cells rt0 30)
    have O7 := Lib.hid (O5.out.trans o7 (by simp))
    have B7 := Lib.hid (B5.out.only o7 (by simp))
    have P7 := Lib.hid (P5.out.only o7 (by simp))
    have KK := Lib.hid (kept_any w.heap.size A gens ca (HA.out.only0 O7.out).ints B7.out lk)
    clear o6 o7 B5 P5 N5 KR
    go_wp2_with fail
    (with_reducible refine KK.out.mono ?_)
    rintro e w8 ⟨rfl, o8⟩
    have O8 := Lib.hid (O7.out.trans o8 (by simp))
    have S8 := rsame_any A2 B live live c2 cb w8 (P7.out.only o8 (by simp)).rd_ (HB.out.only0 O8.out) lb2 lb2
    rw [decide_eq_true rfl] at S8
    have S8 := Lib.hid S8
    clear o8 KK
    go_wp2_with fail
    (with_reducible refine S8.out.mono ?_)
    rintro e w9 ⟨rfl, q, rfl⟩
    have KW := Lib.hid (awake_any (w8.drewN q))
    have O9 := Lib.hid (O8.out.drewN q)
    clear S8
    go_wp2_with fail
    (with_reducible refine KW.out.mono ?_)
    rintro e w10 ⟨rfl, o10⟩
    have O10 := Lib.hid (O9.out.trans o10 (by simp))
    clear o10
    go_wp2_with fail
    go_ret
    exact ⟨rfl, O10.out⟩
  | some T =>
    have HNL := Lib.hid (load_names hF)
    rw [hF] at hE5 KR
    obtain ⟨b, rfl, g, mb, cap, ht, ⟨n1, n2, n3⟩, -⟩ := hE5
    have HT := Lib.hid ht
    clear ht hF
    go_wp2_with fail
    (with_reducible refine KR.out.mono ?_)
    rintro e w6 ⟨u1, u2, u3, rfl, hrt, ⟨r1, r2, r3⟩, o6⟩
    obtain ⟨A1', c1', A2', c2', A3', c3', rfl, rfl, rfl⟩ := hrt.forms0
    obtain ⟨CS, hCS⟩ : ∃ CS, CS = rtC T.length (.slice A1' T.length c1') (.slice A2' T.length c2') (.slice A3' T.length c3') := ⟨_, rfl⟩
    have o7 := o6.alloc (.cells CS 30)
    have O7 := Lib.hid (O5.out.trans o7 (by simp))
    have B7 := Lib.hid (B5.out.only o7 (by simp))
    have hm5 := HT.out.glt
    have S7 := Lib.hid (show SpS w w4.heap.size w5.heap.size b g mb cap w6.heap.size (.slice A1' T.length c1') (.slice A2' T.length c2') (.slice A3' T.length c3') A2 live.length c2 A4 names.length c4 T live names (w6.alloc (.cells CS 30)) from
      ⟨rfl, rfl, P5.out.only o7 (by simp), N5.out.only o7 (by simp), HT.out.only o7 (by simp) (by simp) (by simp), r1.alloc _, r2.alloc _, r3.alloc _, by rw [← hCS]; exact Bk.made _ _ _, ⟨n1, n2, n3, by omega, o6.size, hm5⟩, L2.out, L4.out, O7.out⟩)
    have KK := Lib.hid (kept_any w.heap.size A gens ca (HA.out.only0 O7.out).ints B7.out lk)
    subst hCS
    clear o6 o7 B5 P5 N5 KR r1 r2 r3 hrt HT n1 n2 n3 hm5
    go_wp2_with fail
    (with_reducible refine KK.out.mono ?_)
    rintro e w8 ⟨rfl, o8⟩
    have O8 := Lib.hid (O7.out.trans o8 (by simp))
    have B8 := Lib.hid (B7.out.only o8 (by simp))
    have U8 := Lib.hid (S7.out.only o8)
    have S8 := rsame_any A2 B live live c2 cb w8 U8.out.p.rd_ (HB.out.only0 O8.out) lb2 lb2
    rw [decide_eq_true rfl] at S8
    have S8 := Lib.hid S8
    clear o8 KK S7
    go_wp2_with fail
    (with_reducible refine S8.out.mono ?_)
    rintro e w9 ⟨rfl, q, rfl⟩
    have U9 := Lib.hid (U8.out.only ((Only.refl [] w8).drewN q))
    have KM := Lib.hid (markF_any (B8.out.drewN q) (n := gens.length) (by simp) (gens.length + 70) la2 1 (by omega))
    clear S8
    go_wp2_with fail
    (with_reducible refine KM.out.mono ?_)
    rintro e w10 ⟨rfl, o10⟩
    have U10 := Lib.hid (U9.out.front o10 hw4)
    clear o10 KM U8 U9 B7 B8 O7 O8 O5
    go_wp2_with fail
    go_loopw [14] (fun kv wr => ∃ (k : Nat) (xs : List Pd) (ys : List ByteArray), kv = .int .i64 k ∧ k ≤ live.length ∧ SpS w w4.heap.size w5.heap.size b g mb cap w6.heap.size (.slice A1' T.length c1') (.slice A2' T.length c2') (.slice A3' T.length c3') A2 live.length c2 A4 names.length c4 T xs ys wr) (fun kv _ => live.length - (intOf kv).toNat)
    case atStart => exact ⟨0, _, _, rfl, Nat.zero_le _, U10.out⟩
    case round =>
      clear U10
      obtain ⟨k, xs, ys, rfl, hk, u⟩ := hrel
      have U := Lib.hid u
      by_cases hlt : k < live.length
      · obtain ⟨x, hx⟩ := some_at (show k < xs.length by rw [u.lx]; exact hlt)
        obtain ⟨y, hy⟩ := some_at (show k < ys.length by rw [u.ly, HNL.out]; exact hlt)
        obtain ⟨d2, e2, f2⟩ := u.p.some_ (by rw [u.lx]; omega)
        obtain ⟨d4, e4, f4⟩ := u.s.some_ (by rw [u.ly, HNL.out]; omega)
        injection f2 with f2 f2' f2''
        injection f4 with f4 f4' f4''
        subst f2 f4
        have y0 := u.p.at_ hx (j := 0) rfl (q := k * 2) (by show k * 2 = k * 2 + 0; omega)
        have y1 := u.p.at_ hx (j := 1) rfl (q := k * 2 + 1) rfl
        have yf := u.p.free_
        have N1 := Lib.hid (u.pid hx)
        have z0 := N1.out.s.at_ hy (j := 0) rfl (q := k) (by show k = k * 1 + 0; omega)
        have zf := N1.out.s.free_
        have N2 := Lib.hid (N1.out.name hy spB)
        have pl : (k : Int) < (names.length : Int) := by rw [HNL.out]; omega
        have pk : (k : Int) < (live.length : Int) := by omega
        clear hx hy u f2' f2'' f4' f4''
        go_wp2_with fail
        go_roundw
        case rel => exact ⟨k + 1, _, _, by go_num, hlt, N2.out⟩
        case measure => simp [intOf]; omega
      · have ek : k = live.length := by omega
        subst ek
        obtain ⟨T', pa, er, hadd⟩ : ∃ T' pa er, addF T = (T', pa, er) := ⟨_, _, _, rfl⟩
        obtain ⟨pn, pg⟩ := pa
        have hnb := u.nb
        have hbd : ∀ (n : Nat) (x : Pl), T[n]? = some x → 0 ≤ x.had := fun n x h => (u.t.ok.bd n x h).1.1
        have HBD := Lib.hid hbd
        have KA := add_any u.t
        rw [hadd] at KA
        have KA := Lib.hid KA
        have hE : eq2 pn pg pn pg = true := by simp [eq2]
        clear u hbd
        go_wp2_with fail
        (with_reducible refine KA.out.mono ?_)
        rintro e w11 ⟨rfl, -, o11⟩
        have o12 := o11.alloc (.cells #[.int .i64 pn, .int .i64 pg] 38)
        have R12 := Lib.hid (U.out.rt.byTable U.out.t (o12.more (by simp)))
        have K12 := Lib.hid (U.out.bk.only o12 (by simp; omega))
        have O12 := Lib.hid (U.out.o.trans o12 (fun i hi => by simp at hi; omega))
        have P12 := Lib.hid (Bk.made w11 38 #[.int .i64 pn, .int .i64 pg])
        have KR := radd_any R12.out U.out.t.ok.len.2 HBD.out
        rw [hadd] at KR
        have KR := Lib.hid KR
        have t0 := K12.out.cell0 (i := 0) rfl
        have t1 := K12.out.cell0 (i := 1) rfl
        have t2 := K12.out.cell0 (i := 2) rfl
        have t3 := K12.out.cell0 (i := 3) rfl
        clear KA o11 o12 hnb
        go_wp2_with fail
        (with_reducible refine KR.out.mono ?_)
        rintro e w13 ⟨x1, x2, x3, rfl, hr13, o13⟩
        obtain ⟨A7, c7, A8, c8, A9, c9, rfl, rfl, rfl⟩ := hr13.forms0
        have o14 := (o13.alloc (.cells (rtC T.length (.slice A7 T'.length c7) (.slice A8 T'.length c8) (.slice A9 T'.length c9)) 30)).alloc (.cells #[.int .i64 pn, .int .i64 pg] 38)
        have bb := Bk.newAt (w := w13.alloc (.cells (rtC T.length (.slice A7 T'.length c7) (.slice A8 T'.length c8) (.slice A9 T'.length c9)) 30)) (t := 38) (cs := (⟨pn, pg⟩ : Pd).cs) (b := w13.heap.size + 1) (by simp)
        have P14 := P12.out.only o14 (by simp)
        have O14 := Lib.hid (O12.out.trans o14 (by simp))
        obtain ⟨p0, p1⟩ := (show Bk _ w11.heap.size 38 (⟨pn, pg⟩ : Pd).cs from P14).pid
        obtain ⟨q0, q1⟩ := bb.pid
        have KW := Lib.hid (awake_any ((w13.alloc (.cells (rtC T.length (.slice A7 T'.length c7) (.slice A8 T'.length c8) (.slice A9 T'.length c9)) 30)).alloc (.cells #[.int .i64 pn, .int .i64 pg] 38)))
        clear KR o13 o14 P14 bb hr13
        go_wp2_with fail
        (with_reducible refine KW.out.mono ?_)
        rintro e w15 ⟨rfl, o15⟩
        have O15 := Lib.hid (O14.out.trans o15 (by simp))
        clear o15
        go_wp2_with fail
        go_ret
        exact ⟨rfl, O15.out⟩
end Go.Proofs.Ytlidnlcmnkagaaa
