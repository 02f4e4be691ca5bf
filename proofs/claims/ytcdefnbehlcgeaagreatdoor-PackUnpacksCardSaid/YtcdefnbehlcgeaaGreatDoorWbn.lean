/- The program's reader of an instruction. -/
import Derived.Test.YtcdefnbehlcgeaaGreatDoorWbm
set_option maxHeartbeats 8000000
set_option maxRecDepth 20000
set_option linter.unusedSimpArgs false
set_option linter.unusedVariables false
namespace Go.Proofs.YtcdefnbehlcgeaaGreatDoor
open Go.RowKit
theorem size11i : (Tryz.prog.info? 55).map (·.size) = some 11 := by kernel_rfl
theorem one11i : ZI.all (·.oneCell') = true := by simp [Value.oneCell']
structure InSt (s : ByteArray) (b m : Nat) (w wr : World) (x : In) (q : Nat) (us : Array Value) : Prop where
 fr : Fr2 wr m 55 ZI us
 rd : Rdb wr b s q
 on : Only [b] w wr
 dv : DVs wr (fun g => m + 1 < g) x.ds us.toList
theorem InSt.call {s : ByteArray} {b m : Nat} {w wr w' : World} {x : In} {q q' : Nat} {us : Array Value} (h : InSt s b m w wr x q us) (o : Only [b] wr w') (r : Rdb w' b s q') (hb : b < m) : InSt s b m w w' x q' us :=
 ⟨h.fr.only o hb, r, h.on.trans o (fun i hi => .inl hi), DVs.only o (fun g hg hf => by simp at hg; omega) (fun _ h => h) h.dv⟩
theorem InSt.call0 {s : ByteArray} {b m : Nat} {w wr w' : World} {x : In} {q : Nat} {us : Array Value} (h : InSt s b m w wr x q us) (o : Only [] wr w') (hb : b < m) : InSt s b m w w' x q us := h.call (o.more (by simp)) (Bk.only h.rd o (by simp)) hb
theorem in_form {w : World} {F : Nat → Prop} {x : In} {us : Array Value} (h : DVs w F x.ds us.toList) : ∃ y3 y4 y5 y6 y7 y8 y9 y10, us = #[.int .i64 x.op, .int .i64 x.a, .int .i64 x.b, y3, y4, y5, y6, y7, y8, y9, y10] ∧ DVs w F x.t.ds [y3, y4, y5, y6, y7, y8, y9] ∧ DV w F (.sl x.arms.length (x.arms.flatMap Arm.ds)) y10 := by
 have hsz : us.size = 11 := by rw [← Array.length_toList, DVs.len h, in_len]
 obtain ⟨y0, y1, y2, y3, y4, y5, y6, y7, y8, y9, y10, rfl⟩ := eleven_of hsz
 obtain ⟨k, n, c1, c2, S, a, b, d, hd, -⟩ := tds_form x.t
 simp only [In.ds, hd, tD, List.cons_append, List.nil_append, DVs, List.cons.injEq] at h
 obtain ⟨_, _, ⟨rfl, rfl⟩, h0, _, _, ⟨rfl, rfl⟩, h1, _, _, ⟨rfl, rfl⟩, h2, _, _, ⟨rfl, rfl⟩, h3, _, _, ⟨rfl, rfl⟩, h4, _, _, ⟨rfl, rfl⟩, h5, _, _, ⟨rfl, rfl⟩, h6, _, _, ⟨rfl, rfl⟩, h7, _, _, ⟨rfl, rfl⟩, h8, _, _, ⟨rfl, rfl⟩, h9, _, _, ⟨rfl, rfl⟩, h10, -⟩ := h
 refine ⟨_, _, _, _, _, _, _, _, by rw [DV.v.1 h0, DV.v.1 h1, DV.v.1 h2], ?_, h10⟩
 rw [hd]
 exact ⟨_, _, rfl, h3, _, _, rfl, h4, _, _, rfl, h5, _, _, rfl, h6, _, _, rfl, h7, _, _, rfl, h8, _, _, rfl, h9, rfl⟩
theorem in_make {w : World} {F : Nat → Prop} {x : In} {yt : List Value} {ya : Value} (h : DVs w F x.t.ds yt) (h' : DV w F (.sl x.arms.length (x.arms.flatMap Arm.ds)) ya) : DVs w F x.ds ([.int .i64 x.op, .int .i64 x.a, .int .i64 x.b] ++ yt ++ [ya]) :=
 DVs.app (l' := [_]) ⟨_, _, rfl, h', rfl⟩ (DVs.app h ⟨_, _, rfl, DV.v.2 rfl, _, _, rfl, DV.v.2 rfl, _, _, rfl, DV.v.2 rfl, rfl⟩)
theorem InSt.put {s : ByteArray} {b m : Nat} {w wr : World} {x x' : In} {q : Nat} {us us' : Array Value} (h : InSt s b m w wr x q us) (hm : w.heap.size = m) (hb : b < m) (i : Nat) (v : Value) (hu : us' = us.setIfInBounds i v) (hd : DVs wr (fun g => m + 1 < g) x'.ds us'.toList) :
 InSt s b m w (wr.setCell ⟨m + 1, i, none⟩ v) x' q us' := by
 subst hu
 exact ⟨h.fr.set i v, Bk.away h.rd (by show b ≠ m + 1; omega) v, h.on.set (.inr (by show w.heap.size ≤ m + 1; omega)) v, DVs.only ((Only.refl [m + 1] wr).set (p := ⟨m + 1, i, none⟩) (.inl (by simp)) v) (fun g hg hf => by simp at hg; omega) (fun _ h => h) hd⟩
theorem InSt.puts {s : ByteArray} {b m : Nat} {w wr : World} {x x' : In} {q : Nat} {y0 y1 y2 y3 y4 y5 y6 y7 y8 y9 y10 v0 v1 v2 v3 v4 v5 v6 : Value} (h : InSt s b m w wr x q #[y0, y1, y2, y3, y4, y5, y6, y7, y8, y9, y10]) (hm : w.heap.size = m) (hb : b < m) (hd : DVs wr (fun g => m + 1 < g) x'.ds [y0, y1, y2, v0, v1, v2, v3, v4, v5, v6, y10]) :
 InSt s b m w (wr.setCells (m + 1) 3 [v0, v1, v2, v3, v4, v5, v6]) x' q #[y0, y1, y2, v0, v1, v2, v3, v4, v5, v6, y10] := by
 have o2 : Only [m + 1] wr (wr.setCells (m + 1) 3 [v0, v1, v2, v3, v4, v5, v6]) := Only.sets (.inl (by simp)) _ _ (Only.refl _ _)
 have f2 : Fr2 (wr.setCells (m + 1) 3 [v0, v1, v2, v3, v4, v5, v6]) m 55 ZI #[y0, y1, y2, v0, v1, v2, v3, v4, v5, v6, y10] := by
  have := ((((((h.fr.set 3 v0).set (3 + 1) v1).set (3 + 1 + 1) v2).set (3 + 1 + 1 + 1) v3).set (3 + 1 + 1 + 1 + 1) v4).set (3 + 1 + 1 + 1 + 1 + 1) v5).set (3 + 1 + 1 + 1 + 1 + 1 + 1) v6
  simpa [World.setCells] using this
 exact ⟨f2, Bk.only h.rd o2 (by simp; omega), h.on.trans o2 (fun i hi => .inr (by simp at hi; omega)), DVs.only o2 (fun g hg hf => by simp at hg; omega) (fun _ h => h) hd⟩
theorem FR.only {S : List Nat} {w w' : World} {base : Nat} {A : Option Addr} {fs : List Fld} (h : FR w base A fs) (o : Only S w w') (hS : ∀ i ∈ S, i < base) : FR w' base A fs := fun k f hf => by
 obtain ⟨g, h1, h2, h3, h4⟩ := h k f hf
 exact ⟨g, h1, h2, Nat.lt_of_lt_of_le h3 o.size, (o.cell (p := ⟨g, k, none⟩) h3 (fun hm => by have := hS _ hm; simp at this; omega)).trans h4⟩
theorem ZT7 : ∀ (w : World) (F : Nat → Prop), DVs w F T.zero.ds [.int .i64 0, .int .i64 0, .complex .f64 0 0, .string ⟨#[]⟩, .int .i64 0, .int .i64 0, .slice none 0 0] := fun w F => by
 simp only [T.ds]
 exact ⟨_, _, rfl, DV.v.2 rfl, _, _, rfl, DV.v.2 rfl, _, _, rfl, DV.v.2 rfl, _, _, rfl, DV.v.2 rfl, _, _, rfl, DV.v.2 rfl, _, _, rfl, DV.v.2 rfl, _, _, rfl, DV.v.2 rfl, rfl⟩
def InLp (s : ByteArray) (b m : Nat) (w : World) (fs : List Fld) (A : Option Addr) (R : Rs In) (okv iv : Value) (wr : World) : Prop :=
 ∃ (x : In) (q k : Nat) (us : Array Value), okv = .bool true ∧ iv = .int .i64 k ∧ k ≤ fs.length ∧ q ≤ s.size ∧ rFlds s (fs.drop k) x q = R ∧ InSt s b m w wr x q us ∧ FR wr (m + 2) A fs
theorem DVs.mid {w : World} {F : Nat → Prop} {x : In} {y0 y1 y2 y3 y4 y5 y6 y7 y8 y9 y10 : Value} (h : DVs w F x.ds #[y0, y1, y2, y3, y4, y5, y6, y7, y8, y9, y10].toList) : DVs w F x.t.ds [y3, y4, y5, y6, y7, y8, y9] := by
 obtain ⟨_, _, _, _, _, _, _, _, e, h1, -⟩ := in_form h
 simp only [Array.mk.injEq, List.cons.injEq, and_true] at e
 obtain ⟨-, -, -, rfl, rfl, rfl, rfl, rfl, rfl, rfl, rfl⟩ := e
 exact h1
theorem DVs.last {w : World} {F : Nat → Prop} {x : In} {y0 y1 y2 y3 y4 y5 y6 y7 y8 y9 y10 : Value} (h : DVs w F x.ds #[y0, y1, y2, y3, y4, y5, y6, y7, y8, y9, y10].toList) : DV w F (.sl x.arms.length (x.arms.flatMap Arm.ds)) y10 := by
 obtain ⟨_, _, _, _, _, _, _, _, e, -, h1⟩ := in_form h
 simp only [Array.mk.injEq, List.cons.injEq, and_true] at e
 obtain ⟨-, -, -, rfl, rfl, rfl, rfl, rfl, rfl, rfl, rfl⟩ := e
 exact h1
theorem enter_arm (args : Array Value) (w : World) : (callFunc 81 args).run Tryz.prog w = .ok (.enter 81 args) w := by kernel_rfl
theorem term_rd (b : Nat) (s : ByteArray) (p : Nat) (w : World) (hb : Rdb w b s p) (hp : p ≤ s.size) (hs : s.size ≤ 262144) :
 Calls Tryz.prog 41 #[.pointer (some ⟨b, 0, none⟩), .int .i64 0] w fun e w' => RdE b s (.agg ZT) (RD T.ds) (rTerm s 64 p) w e w' := term_any s 64 b p 0 w rfl hb hp hs
theorem instr_any (s : ByteArray) : InOk s := by
 intro b p w hb hp hs
 have hbl := Bk.lt hb
 have F0 := Lib.hid (Fr2.made w 55 ZI)
 have O0 := Lib.hid (((Only.refl [b] w).alloc (.cells ZI 55)).alloc (.cells ZI 55))
 have R0 := Lib.hid (Bk.alloc (Bk.alloc hb (.cells ZI 55)) (.cells ZI 55))
 have s0 : w.heap.size + 1 < ((w.alloc (.cells ZI 55)).alloc (.cells ZI 55)).heap.size := Bk.lt F0.out.t
 have D0 : ∀ op : Int, DVs ((w.alloc (.cells ZI 55)).alloc (.cells ZI 55)) (fun g => w.heap.size + 1 < g) (In.ds ⟨op, 0, 0, .zero, []⟩) ([.int .i64 op, .int .i64 0, .int .i64 0] ++ [.int .i64 0, .int .i64 0, .complex .f64 0 0, .string ⟨#[]⟩, .int .i64 0, .int .i64 0, .slice none 0 0] ++ [.slice none 0 0]) := fun op => in_make (x := ⟨op, 0, 0, .zero, []⟩) (ZT7 _ _) (DV.none0 _ _)
 have KS0 : Hid (InSt s b w.heap.size w ((w.alloc (.cells ZI 55)).alloc (.cells ZI 55)) ⟨0, 0, 0, .zero, []⟩ p ZI) := Lib.hid ⟨F0.out, R0.out, O0.out, D0 0⟩
 have HK : Calls Tryz.prog 70 #[.pointer (some ⟨b, 0, none⟩), .int .i64 46] _ fun e w' => RdE b s (.int .i64 0) RI (rOne 46 s p) _ e w' := oneOf_any b s p 46 _ R0.out hp hs
 cases h1 : rOne 46 s p with
 | bad t =>
  have hin : rIn s p = .bad t := by unfold rIn; rw [h1]; rfl
  rw [hin]
  rw [h1] at HK
  have HK := Lib.hid HK
  clear D0 hin h1
  go_enter Tryz.func47, Tryz.ntmps47
  go_wp2_with fail
  refine wp_scope_fwd 0 rfl ?_
  go_wp2_with fail
  (with_reducible refine HK.out.mono ?_)
  rintro e w1 ⟨rfl, g3, g4⟩
  have KC := Lib.hid (KS0.out.call g4 g3 hbl)
  have KN := Lib.hid (KC.out.put (x' := ⟨0, 0, 0, .zero, []⟩) rfl hbl 0 (.int .i64 0) rfl KC.out.dv)
  have c0 := KC.out.fr.t.cell0 (i := 0) rfl
  have f0 := KC.out.fr.t.free 0
  clear g3 g4
  go_wp2_with fail
  refine wp_goto (And.intro rfl ?_)
  have HE := Lib.hid (fun W' => Fr2.yes (W' := W') ZI KN.out.fr rfl hbl KN.out.rd KN.out.on)
  go_wp2_with (refine wpList_store_row (by rfl) _ _ _ (by rfl) w.heap.size ZI (by rfl) (by rfl) 55 ZI KN.out.fr.o (by rw [size11i]; rfl) (by rfl) one11i ?_; have HE2 := HE.out _ rfl; generalize World.setRow _ _ _ = W5 at HE2 ⊢; clear HE; obtain ⟨e1, e2, e3, -⟩ := HE2; have E2 := Lib.hid e2; have E3 := Lib.hid e3; obtain ⟨z0, z1, z2, z3, z4, z5, z6, z7, z8, z9, z10⟩ := Bk.eleven e1; clear e1 e2 e3)
  try rw [Exit.last_ret]
  exact bodyPost_ret (v := .tuple #[.agg ZI, .bool false]) (by simp [results, Tryz.results47, go_sem, z0, z1, z2, z3, z4, z5, z6, z7, z8, z9, z10]) rfl ⟨rfl, E2.out, E3.out⟩
 | ok op q0 =>
  have hin : rIn s p = rFlds s (fldsOf op) ⟨op, 0, 0, .zero, []⟩ q0 := by unfold rIn; rw [h1]; rfl
  rw [hin]
  rw [h1] at HK
  have HK := Lib.hid HK
  have HFl := Lib.hid (fun W => fields_any op W)
  obtain ⟨R, hR⟩ : ∃ R, rFlds s (fldsOf op) ⟨op, 0, 0, .zero, []⟩ q0 = R := ⟨_, rfl⟩
  rw [hR]
  have HR := Lib.hid hR
  clear hin h1 hR
  go_enter Tryz.func47, Tryz.ntmps47
  go_wp2_with fail
  refine wp_scope_fwd 0 rfl ?_
  go_wp2_with fail
  (with_reducible refine HK.out.mono ?_)
  rintro e w1 ⟨u, rfl, rfl, g3, g4, g5⟩
  have KC := Lib.hid (KS0.out.call g4 g3 hbl)
  have KS := Lib.hid (KC.out.put (x' := ⟨op, 0, 0, .zero, []⟩) rfl hbl 0 (.int .i64 op) rfl (DVs.only (g4.more (T := [b]) (by simp)) (fun g hg hf => by simp at hg; omega) (fun _ h => h) (D0 op)))
  have c0 := KC.out.fr.t.cell0 (i := 0) rfl
  have f0 := KC.out.fr.t.free 0
  clear g3 g4 HK D0
  go_wp2_with fail
  (with_reducible refine (HFl.out _).mono ?_)
  rintro e w2 ⟨A, cap, rfl, fr, o⟩
  have KS2 := Lib.hid (KS.out.call0 o hbl)
  have hsz2 : w.heap.size + 1 < _ := Bk.lt KS.out.fr.t
  have KF0 := Lib.hid (show FR w2 (w.heap.size + 2) A (fldsOf op) from fun k f hf => by
   obtain ⟨g, h1, h2, h3⟩ := fr k f hf
   exact ⟨g, h1, by omega, h3⟩)
  have hfl : (fldsOf op).length ≤ 3 := by
   unfold fldsOf
   repeat' split
   all_goals decide
  generalize hfs : fldsOf op = fs at *
  clear fr o KS KC HFl c0 f0
  go_wp2_with fail
  go_loopw [5, 7, 20] (fun okv _ iv wr => InLp s b w.heap.size w fs A R okv iv wr) (fun _ _ iv _ => fs.length - (intOf iv).toNat)
  case atStart => exact ⟨_, q0, 0, _, rfl, rfl, Nat.zero_le _, g5, HR.out, KS2.out, KF0.out⟩
  case round =>
   obtain ⟨x, q, k, us, rfl, rfl, hk, hq, hRR, hS, hF⟩ := hrel
   have KRR := Lib.hid hRR
   have KF := Lib.hid hF
   obtain ⟨y3, y4, y5, y6, y7, y8, y9, y10, rfl, -, -⟩ := in_form hS.dv
   have KS := Lib.hid hS
   clear hRR hS hF HR KS2 KF0 KS0 F0 O0 R0
   by_cases hlt : k < fs.length
   ·have hl' : (k : Int) < (fs.length : Int) := by omega
    obtain ⟨f, hf⟩ : ∃ f, fs[k]? = some f := ⟨_, List.getElem?_eq_getElem hlt⟩
    have hdrop : fs.drop k = f :: fs.drop (k + 1) := by
     obtain ⟨h1, h2⟩ := List.getElem?_eq_some_iff.1 hf
     rw [List.drop_eq_getElem_cons h1, h2]
    obtain ⟨g, rfl, hg1, hg2, hg3⟩ := KF.out k f hf
    clear hf
    cases f with
    | term =>
     simp only [fnum] at hg3
     have HK := Lib.hid (term_rd b s q wr KS.out.rd hq hs)
     have KR : Hid ((rFld s x .term q).bind (fun i q => rFlds s (fs.drop (k + 1)) i q) = R) := Lib.hid (by rw [← KRR.out, hdrop]; rfl)
     cases hr : rTerm s 64 q with
     | bad t =>
      have hRb : R = .bad t := by rw [← KR.out]; simp only [rFld, hr, Rs.map, Rs.bind]
      rw [hr] at HK
      have KB := Lib.hid hRb
      clear KR KRR hRb hr
      go_wp2_with fail
      (with_reducible refine HK.out.mono ?_)
      rintro e w2 ⟨rfl, g3, g4⟩
      have KC := Lib.hid (KS.out.call g4 g3 hbl)
      clear g3 g4 HK
      have hth : w2.there (w.heap.size + 1) 3 7 := fun j hj => by
       obtain rfl | rfl | rfl | rfl | rfl | rfl | rfl : j = 0 ∨ j = 1 ∨ j = 2 ∨ j = 3 ∨ j = 4 ∨ j = 5 ∨ j = 6 := by omega
       all_goals exact ⟨by rw [Bk.cell KC.out.fr.t]; rfl, Bk.free KC.out.fr.t _⟩
      have KN := Lib.hid (KC.out.puts (x' := { x with t := .zero }) rfl hbl (in_make (x := { x with t := .zero }) (ZT7 _ _) (DVs.last (x := x) KC.out.dv)))
      go_wp2_with (first | (refine wpList_store_mid (by rfl) _ _ _ (by rfl) (w.heap.size + 1) 3 ZT (by rfl) (by rfl) hth (by rw [size7]; rfl) one7 ?_; have key2 := KN.out; generalize World.setCells _ _ _ _ = W3 at key2 ⊢; clear KN; have KN := Lib.hid key2; clear key2))
      refine wp_goto (And.intro rfl ?_)
      have HE := Lib.hid (fun W' => Fr2.yes (W' := W') ZI KN.out.fr rfl hbl KN.out.rd KN.out.on)
      go_wp2_with (refine wpList_store_row (by rfl) _ _ _ (by rfl) w.heap.size ZI (by rfl) (by rfl) 55 ZI KN.out.fr.o (by rw [size11i]; rfl) (by rfl) one11i ?_; have HE2 := HE.out _ rfl; generalize World.setRow _ _ _ = W5 at HE2 ⊢; clear HE; obtain ⟨e1, e2, e3, -⟩ := HE2; have E2 := Lib.hid e2; have E3 := Lib.hid e3; obtain ⟨z0, z1, z2, z3, z4, z5, z6, z7, z8, z9, z10⟩ := Bk.eleven e1; clear e1 e2 e3)
      try rw [Exit.last_ret]
      exact bodyPost_ret (v := .tuple #[.agg ZI, .bool false]) (by simp [results, Tryz.results47, go_sem, z0, z1, z2, z3, z4, z5, z6, z7, z8, z9, z10]) rfl (by rw [KB.out]; exact ⟨rfl, E2.out, E3.out⟩)
     | ok t q2 =>
      have hRb : rFlds s (fs.drop (k + 1)) { x with t := t } q2 = R := by rw [← KR.out]; simp only [rFld, hr, Rs.map, Rs.bind]
      rw [hr] at HK
      have KRB := Lib.hid hRb
      clear KR KRR hRb hr
      go_wp2_with fail
      (with_reducible refine HK.out.mono ?_)
      rintro e w2 ⟨u, rfl, ⟨us, rfl, hd⟩, g3, g4, g5⟩
      have KC := Lib.hid (KS.out.call g4 g3 hbl)
      have KG := Lib.hid (KF.out.only g4 (fun i hi => by simp at hi; omega))
      have hsw := KS.out.on.size
      have hsm : w.heap.size + 1 < wr.heap.size := Bk.lt KS.out.fr.t
      obtain ⟨v0, v1, v2, v3, v4, v5, v6, rfl⟩ := seven_of (by rw [← Array.length_toList, DVs.len hd, ds_len] : us.size = 7)
      have hu := DVs.one hd (ds_one t)
      have hu1 : (#[v0, v1, v2, v3, v4, v5, v6] : Array Value).all (·.oneCell') = true := by
       rw [Array.all_eq_true']
       intro v hv
       exact hu v (Array.mem_toList_iff.2 hv)
      have hd2 := DVs.more (F' := fun g => w.heap.size + 1 < g) (fun g hg => by omega) hd
      clear g3 g4 HK hd hu
      have hth : w2.there (w.heap.size + 1) 3 7 := fun j hj => by
       obtain rfl | rfl | rfl | rfl | rfl | rfl | rfl : j = 0 ∨ j = 1 ∨ j = 2 ∨ j = 3 ∨ j = 4 ∨ j = 5 ∨ j = 6 := by omega
       all_goals exact ⟨by rw [Bk.cell KC.out.fr.t]; rfl, Bk.free KC.out.fr.t _⟩
      have KN := Lib.hid (KC.out.puts (x' := { x with t := t }) rfl hbl (in_make (x := { x with t := t }) hd2 (DVs.last (x := x) KC.out.dv)))
      have KG2 := Lib.hid (KG.out.only (Only.sets (S := [w.heap.size + 1]) (b := w.heap.size + 1) (.inl (by simp)) [v0, v1, v2, v3, v4, v5, v6] 3 (Only.refl _ _)) (fun i hi => by simp at hi; omega))
      clear hd2
      go_wp2_with (first | (refine wpList_store_mid (by rfl) _ _ _ (by rfl) (w.heap.size + 1) 3 #[v0, v1, v2, v3, v4, v5, v6] (by rfl) (by rfl) hth (by rw [size7]; rfl) hu1 ?_; have key2 := And.intro KN.out KG2.out; generalize World.setCells _ _ _ _ = W3 at key2 ⊢; clear KN KG2; have KN := Lib.hid key2.1; have KG2 := Lib.hid key2.2; clear key2))
      go_roundw
      case rel => exact ⟨_, q2, k + 1, _, rfl, by go_num, by omega, g5, KRB.out, KN.out, KG2.out⟩
      case measure =>
       simp [intOf]
       omega
    | a =>
     simp only [fnum] at hg3
     have HK := Lib.hid (count_rd b s q wr KS.out.rd hq hs)
     have KR : Hid ((rFld s x .a q).bind (fun i q => rFlds s (fs.drop (k + 1)) i q) = R) := Lib.hid (by rw [← KRR.out, hdrop]; rfl)
     cases hr : rCnt s q with
     | bad t =>
      have hRb : R = .bad t := by rw [← KR.out]; simp only [rFld, hr, Rs.map, Rs.bind]
      rw [hr] at HK
      have KB := Lib.hid hRb
      clear KR KRR hRb hr
      go_wp2_with fail
      (with_reducible refine HK.out.mono ?_)
      rintro e w2 ⟨rfl, g3, g4⟩
      have KC := Lib.hid (KS.out.call g4 g3 hbl)
      clear g3 g4 HK
      have KN := Lib.hid (KC.out.put (x' := { x with a := 0 }) rfl hbl 1 (.int .i64 0) rfl (in_make (x := { x with a := 0 }) (DVs.mid (x := x) KC.out.dv) (DVs.last (x := x) KC.out.dv)))
      have c0 := KC.out.fr.t.cell0 (i := 1) rfl
      have f0 := KC.out.fr.t.free 1
      go_wp2_with fail
      refine wp_goto (And.intro rfl ?_)
      have HE := Lib.hid (fun W' => Fr2.yes (W' := W') ZI KN.out.fr rfl hbl KN.out.rd KN.out.on)
      go_wp2_with (refine wpList_store_row (by rfl) _ _ _ (by rfl) w.heap.size ZI (by rfl) (by rfl) 55 ZI KN.out.fr.o (by rw [size11i]; rfl) (by rfl) one11i ?_; have HE2 := HE.out _ rfl; generalize World.setRow _ _ _ = W5 at HE2 ⊢; clear HE; obtain ⟨e1, e2, e3, -⟩ := HE2; have E2 := Lib.hid e2; have E3 := Lib.hid e3; obtain ⟨z0, z1, z2, z3, z4, z5, z6, z7, z8, z9, z10⟩ := Bk.eleven e1; clear e1 e2 e3)
      try rw [Exit.last_ret]
      exact bodyPost_ret (v := .tuple #[.agg ZI, .bool false]) (by simp [results, Tryz.results47, go_sem, z0, z1, z2, z3, z4, z5, z6, z7, z8, z9, z10]) rfl (by rw [KB.out]; exact ⟨rfl, E2.out, E3.out⟩)
     | ok n t =>
      have hRb : rFlds s (fs.drop (k + 1)) { x with a := n } t = R := by rw [← KR.out]; simp only [rFld, hr, Rs.map, Rs.bind]
      rw [hr] at HK
      have KRB := Lib.hid hRb
      clear KR KRR hRb hr
      go_wp2_with fail
      (with_reducible refine HK.out.mono ?_)
      rintro e w2 ⟨u, rfl, rfl, g3, g4, g5⟩
      have KC := Lib.hid (KS.out.call g4 g3 hbl)
      have KG := Lib.hid (KF.out.only g4 (fun i hi => by simp at hi; omega))
      have hsw := KS.out.on.size
      have hsm : w.heap.size + 1 < wr.heap.size := Bk.lt KS.out.fr.t
      have KN := Lib.hid (KC.out.put (x' := { x with a := n }) rfl hbl 1 (.int .i64 n) rfl (in_make (x := { x with a := n }) (DVs.mid (x := x) KC.out.dv) (DVs.last (x := x) KC.out.dv)))
      have KG2 := Lib.hid (KG.out.only ((Only.refl [w.heap.size + 1] w2).set (p := ⟨w.heap.size + 1, 1, none⟩) (.inl (by simp)) (.int .i64 n)) (fun i hi => by simp at hi; omega))
      have c0 := KC.out.fr.t.cell0 (i := 1) rfl
      have f0 := KC.out.fr.t.free 1
      clear g3 g4 HK
      go_wp2_with fail
      go_roundw
      case rel => exact ⟨_, t, k + 1, _, rfl, by go_num, by omega, g5, KRB.out, KN.out, KG2.out⟩
      case measure =>
       simp [intOf]
       omega
    | b =>
     simp only [fnum] at hg3
     have HK := Lib.hid (count_rd b s q wr KS.out.rd hq hs)
     have KR : Hid ((rFld s x .b q).bind (fun i q => rFlds s (fs.drop (k + 1)) i q) = R) := Lib.hid (by rw [← KRR.out, hdrop]; rfl)
     cases hr : rCnt s q with
     | bad t =>
      have hRb : R = .bad t := by rw [← KR.out]; simp only [rFld, hr, Rs.map, Rs.bind]
      rw [hr] at HK
      have KB := Lib.hid hRb
      clear KR KRR hRb hr
      go_wp2_with fail
      (with_reducible refine HK.out.mono ?_)
      rintro e w2 ⟨rfl, g3, g4⟩
      have KC := Lib.hid (KS.out.call g4 g3 hbl)
      clear g3 g4 HK
      have KN := Lib.hid (KC.out.put (x' := { x with b := 0 }) rfl hbl 2 (.int .i64 0) rfl (in_make (x := { x with b := 0 }) (DVs.mid (x := x) KC.out.dv) (DVs.last (x := x) KC.out.dv)))
      have c0 := KC.out.fr.t.cell0 (i := 2) rfl
      have f0 := KC.out.fr.t.free 2
      go_wp2_with fail
      refine wp_goto (And.intro rfl ?_)
      have HE := Lib.hid (fun W' => Fr2.yes (W' := W') ZI KN.out.fr rfl hbl KN.out.rd KN.out.on)
      go_wp2_with (refine wpList_store_row (by rfl) _ _ _ (by rfl) w.heap.size ZI (by rfl) (by rfl) 55 ZI KN.out.fr.o (by rw [size11i]; rfl) (by rfl) one11i ?_; have HE2 := HE.out _ rfl; generalize World.setRow _ _ _ = W5 at HE2 ⊢; clear HE; obtain ⟨e1, e2, e3, -⟩ := HE2; have E2 := Lib.hid e2; have E3 := Lib.hid e3; obtain ⟨z0, z1, z2, z3, z4, z5, z6, z7, z8, z9, z10⟩ := Bk.eleven e1; clear e1 e2 e3)
      try rw [Exit.last_ret]
      exact bodyPost_ret (v := .tuple #[.agg ZI, .bool false]) (by simp [results, Tryz.results47, go_sem, z0, z1, z2, z3, z4, z5, z6, z7, z8, z9, z10]) rfl (by rw [KB.out]; exact ⟨rfl, E2.out, E3.out⟩)
     | ok n t =>
      have hRb : rFlds s (fs.drop (k + 1)) { x with b := n } t = R := by rw [← KR.out]; simp only [rFld, hr, Rs.map, Rs.bind]
      rw [hr] at HK
      have KRB := Lib.hid hRb
      clear KR KRR hRb hr
      go_wp2_with fail
      (with_reducible refine HK.out.mono ?_)
      rintro e w2 ⟨u, rfl, rfl, g3, g4, g5⟩
      have KC := Lib.hid (KS.out.call g4 g3 hbl)
      have KG := Lib.hid (KF.out.only g4 (fun i hi => by simp at hi; omega))
      have hsw := KS.out.on.size
      have hsm : w.heap.size + 1 < wr.heap.size := Bk.lt KS.out.fr.t
      have KN := Lib.hid (KC.out.put (x' := { x with b := n }) rfl hbl 2 (.int .i64 n) rfl (in_make (x := { x with b := n }) (DVs.mid (x := x) KC.out.dv) (DVs.last (x := x) KC.out.dv)))
      have KG2 := Lib.hid (KG.out.only ((Only.refl [w.heap.size + 1] w2).set (p := ⟨w.heap.size + 1, 2, none⟩) (.inl (by simp)) (.int .i64 n)) (fun i hi => by simp at hi; omega))
      have c0 := KC.out.fr.t.cell0 (i := 2) rfl
      have f0 := KC.out.fr.t.free 2
      clear g3 g4 HK
      go_wp2_with fail
      go_roundw
      case rel => exact ⟨_, t, k + 1, _, rfl, by go_num, by omega, g5, KRB.out, KN.out, KG2.out⟩
      case measure =>
       simp [intOf]
       omega
    | ticks =>
     simp only [fnum] at hg3
     have HK := Lib.hid (number_any b s q wr KS.out.rd hq hs)
     have KR : Hid ((rFld s x .ticks q).bind (fun i q => rFlds s (fs.drop (k + 1)) i q) = R) := Lib.hid (by rw [← KRR.out, hdrop]; rfl)
     cases hr : rNum s q with
     | bad t =>
      have hRb : R = .bad t := by rw [← KR.out]; simp only [rFld, hr, Rs.map, Rs.bind]
      rw [hr] at HK
      have KB := Lib.hid hRb
      clear KR KRR hRb hr
      go_wp2_with fail
      (with_reducible refine HK.out.mono ?_)
      rintro e w2 ⟨rfl, g3, g4⟩
      have KC := Lib.hid (KS.out.call g4 g3 hbl)
      clear g3 g4 HK
      have KN := Lib.hid (KC.out.put (x' := { x with b := 0 }) rfl hbl 2 (.int .i64 0) rfl (in_make (x := { x with b := 0 }) (DVs.mid (x := x) KC.out.dv) (DVs.last (x := x) KC.out.dv)))
      have c0 := KC.out.fr.t.cell0 (i := 2) rfl
      have f0 := KC.out.fr.t.free 2
      go_wp2_with fail
      refine wp_goto (And.intro rfl ?_)
      have HE := Lib.hid (fun W' => Fr2.yes (W' := W') ZI KN.out.fr rfl hbl KN.out.rd KN.out.on)
      go_wp2_with (refine wpList_store_row (by rfl) _ _ _ (by rfl) w.heap.size ZI (by rfl) (by rfl) 55 ZI KN.out.fr.o (by rw [size11i]; rfl) (by rfl) one11i ?_; have HE2 := HE.out _ rfl; generalize World.setRow _ _ _ = W5 at HE2 ⊢; clear HE; obtain ⟨e1, e2, e3, -⟩ := HE2; have E2 := Lib.hid e2; have E3 := Lib.hid e3; obtain ⟨z0, z1, z2, z3, z4, z5, z6, z7, z8, z9, z10⟩ := Bk.eleven e1; clear e1 e2 e3)
      try rw [Exit.last_ret]
      exact bodyPost_ret (v := .tuple #[.agg ZI, .bool false]) (by simp [results, Tryz.results47, go_sem, z0, z1, z2, z3, z4, z5, z6, z7, z8, z9, z10]) rfl (by rw [KB.out]; exact ⟨rfl, E2.out, E3.out⟩)
     | ok n t =>
      have hRb : rFlds s (fs.drop (k + 1)) { x with b := n } t = R := by rw [← KR.out]; simp only [rFld, hr, Rs.map, Rs.bind]
      rw [hr] at HK
      have KRB := Lib.hid hRb
      clear KR KRR hRb hr
      go_wp2_with fail
      (with_reducible refine HK.out.mono ?_)
      rintro e w2 ⟨u, rfl, rfl, g3, g4, g5⟩
      have KC := Lib.hid (KS.out.call g4 g3 hbl)
      have KG := Lib.hid (KF.out.only g4 (fun i hi => by simp at hi; omega))
      have hsw := KS.out.on.size
      have hsm : w.heap.size + 1 < wr.heap.size := Bk.lt KS.out.fr.t
      have KN := Lib.hid (KC.out.put (x' := { x with b := n }) rfl hbl 2 (.int .i64 n) rfl (in_make (x := { x with b := n }) (DVs.mid (x := x) KC.out.dv) (DVs.last (x := x) KC.out.dv)))
      have KG2 := Lib.hid (KG.out.only ((Only.refl [w.heap.size + 1] w2).set (p := ⟨w.heap.size + 1, 2, none⟩) (.inl (by simp)) (.int .i64 n)) (fun i hi => by simp at hi; omega))
      have c0 := KC.out.fr.t.cell0 (i := 2) rfl
      have f0 := KC.out.fr.t.free 2
      clear g3 g4 HK
      go_wp2_with fail
      go_roundw
      case rel => exact ⟨_, t, k + 1, _, rfl, by go_num, by omega, g5, KRB.out, KN.out, KG2.out⟩
      case measure =>
       simp [intOf]
       omega
    | arms =>
     simp only [fnum] at hg3
     have HK := Lib.hid (someA_any Arm.ds arm_len arm_one 81 #[.pointer (some ⟨b, 0, none⟩)] #[] (rArm s) b s q wr KS.out.rd hq hs enter_arm (fun q' w' hq' hb' ho' => arm_any s b q' w' hb' hq' hs))
     have KR : Hid ((rFld s x .arms q).bind (fun i q => rFlds s (fs.drop (k + 1)) i q) = R) := Lib.hid (by rw [← KRR.out, hdrop]; rfl)
     cases hr : rSome (rArm s) s q with
     | bad t =>
      have hRb : R = .bad t := by rw [← KR.out]; simp only [rFld, hr, Rs.map, Rs.bind]
      rw [hr] at HK
      have KB := Lib.hid hRb
      clear KR KRR hRb hr
      go_wp2_with fail
      (with_reducible refine HK.out.mono ?_)
      rintro e w2 ⟨rfl, g3, g4⟩
      have KC := Lib.hid (KS.out.call g4 g3 hbl)
      clear g3 g4 HK
      have KN := Lib.hid (KC.out.put (x' := { x with arms := [] }) rfl hbl 10 (.slice none 0 0) rfl (in_make (x := { x with arms := [] }) (DVs.mid (x := x) KC.out.dv) (DV.none0 _ _)))
      have c0 := KC.out.fr.t.cell0 (i := 10) rfl
      have f0 := KC.out.fr.t.free 10
      go_wp2_with fail
      refine wp_goto (And.intro rfl ?_)
      have HE := Lib.hid (fun W' => Fr2.yes (W' := W') ZI KN.out.fr rfl hbl KN.out.rd KN.out.on)
      go_wp2_with (refine wpList_store_row (by rfl) _ _ _ (by rfl) w.heap.size ZI (by rfl) (by rfl) 55 ZI KN.out.fr.o (by rw [size11i]; rfl) (by rfl) one11i ?_; have HE2 := HE.out _ rfl; generalize World.setRow _ _ _ = W5 at HE2 ⊢; clear HE; obtain ⟨e1, e2, e3, -⟩ := HE2; have E2 := Lib.hid e2; have E3 := Lib.hid e3; obtain ⟨z0, z1, z2, z3, z4, z5, z6, z7, z8, z9, z10⟩ := Bk.eleven e1; clear e1 e2 e3)
      try rw [Exit.last_ret]
      exact bodyPost_ret (v := .tuple #[.agg ZI, .bool false]) (by simp [results, Tryz.results47, go_sem, z0, z1, z2, z3, z4, z5, z6, z7, z8, z9, z10]) rfl (by rw [KB.out]; exact ⟨rfl, E2.out, E3.out⟩)
     | ok l t =>
      have hRb : rFlds s (fs.drop (k + 1)) { x with arms := l } t = R := by rw [← KR.out]; simp only [rFld, hr, Rs.map, Rs.bind]
      rw [hr] at HK
      have KRB := Lib.hid hRb
      clear KR KRR hRb hr
      go_wp2_with fail
      (with_reducible refine HK.out.mono ?_)
      rintro e w2 ⟨u, rfl, hu, g3, g4, g5⟩
      have KC := Lib.hid (KS.out.call g4 g3 hbl)
      have KG := Lib.hid (KF.out.only g4 (fun i hi => by simp at hi; omega))
      have hsw := KS.out.on.size
      have hsm : w.heap.size + 1 < wr.heap.size := Bk.lt KS.out.fr.t
      have hu2 := DV.more (F' := fun g => w.heap.size + 1 < g) (fun g hg => by omega) hu
      unfold RL at hu
      simp only [DV] at hu
      obtain ⟨A9, c9, rfl, -⟩ := hu
      have KN := Lib.hid (KC.out.put (x' := { x with arms := l }) rfl hbl 10 (.slice A9 l.length c9) rfl (in_make (x := { x with arms := l }) (DVs.mid (x := x) KC.out.dv) hu2))
      have KG2 := Lib.hid (KG.out.only ((Only.refl [w.heap.size + 1] w2).set (p := ⟨w.heap.size + 1, 10, none⟩) (.inl (by simp)) (.slice A9 l.length c9)) (fun i hi => by simp at hi; omega))
      have c0 := KC.out.fr.t.cell0 (i := 10) rfl
      have f0 := KC.out.fr.t.free 10
      clear g3 g4 HK
      go_wp2_with fail
      go_roundw
      case rel => exact ⟨_, t, k + 1, _, rfl, by go_num, by omega, g5, KRB.out, KN.out, KG2.out⟩
      case measure =>
       simp [intOf]
       omega
   ·have hl' : ¬ (k : Int) < (fs.length : Int) := by omega
    have hre : R = .ok x q := by rw [← KRR.out, List.drop_eq_nil_of_le (by omega)]; rfl
    have HRE := Lib.hid hre
    have hall := DVs.one KS.out.dv (in_one x)
    have hall' : (#[.int .i64 x.op, .int .i64 x.a, .int .i64 x.b, y3, y4, y5, y6, y7, y8, y9, y10] : Array Value).all (·.oneCell') = true := by
     rw [Array.all_eq_true']
     intro v hv
     exact hall v (Array.mem_toList_iff.2 hv)
    have HE := Lib.hid (fun W' => Fr2.yes (W' := W') #[.int .i64 x.op, .int .i64 x.a, .int .i64 x.b, y3, y4, y5, y6, y7, y8, y9, y10] KS.out.fr rfl hbl KS.out.rd KS.out.on)
    clear hall
    go_wp2_with (first
     | (refine wpList_load_row (by rfl) 55 _ (by rfl) (w.heap.size + 1) (by rfl) 55 #[.int .i64 x.op, .int .i64 x.a, .int .i64 x.b, y3, y4, y5, y6, y7, y8, y9, y10] (0, 0) _ KS.out.fr.t Tryz.underlying55 (by rfl) (by rw [size11i]; rfl) ?_)
     | (refine wpList_store_row (by rfl) _ _ _ (by rfl) w.heap.size #[.int .i64 x.op, .int .i64 x.a, .int .i64 x.b, y3, y4, y5, y6, y7, y8, y9, y10] (by rfl) (by rfl) 55 ZI KS.out.fr.o (by rw [size11i]; rfl) (by rfl) hall' ?_; have HE2 := HE.out _ rfl; generalize World.setRow _ _ _ = W5 at HE2 ⊢; clear HE; obtain ⟨e1, e2, e3, e4⟩ := HE2; have E2 := Lib.hid e2; have E3 := Lib.hid e3; have E4 := Lib.hid e4; obtain ⟨z0, z1, z2, z3, z4, z5, z6, z7, z8, z9, z10⟩ := Bk.eleven e1; clear e1 e2 e3 e4))
    try rw [Exit.jump_ret]
    refine bodyPost_ret (v := .tuple #[.agg #[.int .i64 x.op, .int .i64 x.a, .int .i64 x.b, y3, y4, y5, y6, y7, y8, y9, y10], .bool true]) (by simp [results, Tryz.results47, go_sem, z0, z1, z2, z3, z4, z5, z6, z7, z8, z9, z10]) rfl ?_
    rw [HRE.out]
    refine ⟨_, rfl, ⟨_, rfl, ?_⟩, E2.out, E3.out, hq⟩
    exact DVs.only (F' := fun g => w.heap.size ≤ g) E4.out (fun g hg hf => by simp at hg; omega) (fun g hf => by omega) KS.out.dv
end Go.Proofs.YtcdefnbehlcgeaaGreatDoor
