/- The program's reader of a pattern: the patterns within one; kinds 3, 5, 6; any pattern. The program's reader of a pattern: kind 3. The program's reader of a pattern: tuples. -/
import Derived.Test.YtcdefnbehlcgeaaGreatDoorWl
import Derived.Deep.MidRow
set_option maxHeartbeats 4000000
set_option maxRecDepth 20000
set_option linter.unusedSimpArgs false
namespace Go.Proofs.YtcdefnbehlcgeaaGreatDoor
open Go.RowKit
theorem eleven_of {us : Array Value} (h : us.size = 11) : ∃ y0 y1 y2 y3 y4 y5 y6 y7 y8 y9 y10, us = #[y0, y1, y2, y3, y4, y5, y6, y7, y8, y9, y10] := by
 obtain ⟨l⟩ := us
 have hl : l.length = 11 := h
 match l, hl with
 | [y0, y1, y2, y3, y4, y5, y6, y7, y8, y9, y10], _ => exact ⟨y0, y1, y2, y3, y4, y5, y6, y7, y8, y9, y10, rfl⟩
theorem pinner_any (s : ByteArray) (d b m v q : Nat) (w : World) (ok : PatOk s d) (hv : v + 1 + d = 64) (hb : Rdb w b s q) (hq : q ≤ s.size) (hs : s.size ≤ 262144)
 (hr : Bk w m 61 #[.pointer (some ⟨b, 0, none⟩)]) (hw : Bk w (m + 1) 3 #[.int .i64 v]) :
 Calls Tryz.prog 108 #[.pointer (some ⟨m, 0, none⟩), .pointer (some ⟨m + 1, 0, none⟩)] w fun e w' => RdE b s (.agg ZQ) (RD QT.ds) (rPat s d q) w e w' := by
 have hbl := Bk.lt hb
 have hk0 := ok b q (v + 1) (w.alloc (.cells ZQ 88)) hv (Bk.alloc hb _) hq hs
 rw [show ((v + 1 : Nat) : Int) = (v : Int) + 1 by omega] at hk0
 have HK := Lib.hid hk0
 clear hk0
 have HM := Lib.hid (Bk.made w 88 ZQ)
 have hO := Lib.hid ((Only.refl [b] w).alloc (.cells ZQ 88))
 have c0 : (w.alloc (.cells #[.int .i64 0, .int .i64 0, .int .i64 0, .int .i64 0, .complex .f64 0 0, .string ⟨#[]⟩, .int .i64 0, .int .i64 0, .slice none 0 0, .slice none 0 0, .slice none 0 0] 88)).cell? ⟨m, 0, none⟩ = some (.pointer (some ⟨b, 0, none⟩)) := (Bk.alloc hr _).cell0 (i := 0) rfl
 have c1 : (w.alloc (.cells #[.int .i64 0, .int .i64 0, .int .i64 0, .int .i64 0, .complex .f64 0 0, .string ⟨#[]⟩, .int .i64 0, .int .i64 0, .slice none 0 0, .slice none 0 0, .slice none 0 0] 88)).cell? ⟨m + 1, 0, none⟩ = some (.int .i64 v) := (Bk.alloc hw _).cell0 (i := 0) rfl
 generalize rPat s d q = r at HK ⊢
 go_enter Tryz.func108, Tryz.ntmps108
 go_wp2_with fail
 clear c0 c1
 (with_reducible refine HK.out.mono ?_)
 intro e w1 h
 cases r with
 | ok x t =>
  obtain ⟨u, rfl, ⟨us, rfl, hd⟩, h3, h4, h5⟩ := h
  have hsz : us.size = 11 := by rw [← Array.length_toList, DVs.len hd, qds_len]
  obtain ⟨y0, y1, y2, y3, y4, y5, y6, y7, y8, y9, y10, rfl⟩ := eleven_of hsz
  have B1 := Bk.only HM.out h4 (by simp; omega)
  have hu := DVs.one hd (qds_one x)
  have hu1 : (#[y0, y1, y2, y3, y4, y5, y6, y7, y8, y9, y10] : Array Value).all (·.oneCell') = true := by
   rw [Array.all_eq_true']
   intro v hv
   exact hu v (Array.mem_toList_iff.2 hv)
  have SB := Lib.hid (setRow_bk B1 #[y0, y1, y2, y3, y4, y5, y6, y7, y8, y9, y10])
  have H3 := Lib.hid h3
  have H4 := Lib.hid (hO.out.trans h4 (fun i hi => .inl hi))
  have HD := Lib.hid hd
  have HB1 := Lib.hid B1
  clear h3 h4 hd B1 hu hsz
  go_wp2_with (refine wpList_store_row (by rfl) _ _ _ (by rfl) w.heap.size #[y0, y1, y2, y3, y4, y5, y6, y7, y8, y9, y10] (by rfl) (by rfl) 88 ZQ HB1.out (by rw [size11]; rfl) (by rfl) hu1 ?_; have SB2 := SB.out; generalize World.setRow _ _ _ = W5 at SB2 ⊢; clear SB; obtain ⟨e1, e2⟩ := SB2; have E2 := Lib.hid e2; obtain ⟨z0, z1, z2, z3, z4, z5, z6, z7, z8, z9, z10⟩ := Bk.eleven e1; clear e1 e2)
  refine bodyPost_ret (v := .tuple #[.agg #[y0, y1, y2, y3, y4, y5, y6, y7, y8, y9, y10], .bool true]) (by simp [results, Tryz.results108, go_sem, z0, z1, z2, z3, z4, z5, z6, z7, z8, z9, z10]) rfl ⟨_, rfl, ⟨_, rfl, ?_⟩, Bk.only H3.out E2.out (by simp; omega), H4.out.trans E2.out (fun i hi => .inr (by simp at hi; omega)), h5⟩
  refine DVs.only E2.out (fun g hg hf => ?_) (fun g hf => ?_) HD.out
  ·rw [List.mem_singleton.1 hg, size_al] at hf; omega
  ·rw [size_al] at hf; omega
 | bad t =>
  obtain ⟨rfl, h3, h4⟩ := h
  have B1 := Bk.only HM.out h4 (by simp; omega)
  have SB := Lib.hid (setRow_bk B1 ZQ)
  have H3 := Lib.hid h3
  have H4 := Lib.hid (hO.out.trans h4 (fun i hi => .inl hi))
  have HB1 := Lib.hid B1
  clear h3 h4 B1
  go_wp2_with (refine wpList_store_row (by rfl) _ _ _ (by rfl) w.heap.size ZQ (by rfl) (by rfl) 88 ZQ HB1.out (by rw [size11]; rfl) (by rfl) one11 ?_; have SB2 := SB.out; generalize World.setRow _ _ _ = W5 at SB2 ⊢; clear SB; obtain ⟨e1, e2⟩ := SB2; have E2 := Lib.hid e2; obtain ⟨z0, z1, z2, z3, z4, z5, z6, z7, z8, z9, z10⟩ := Bk.eleven e1; clear e1 e2)
  exact bodyPost_ret (v := .tuple #[.agg ZQ, .bool false]) (by simp [results, Tryz.results108, go_sem, z0, z1, z2, z3, z4, z5, z6, z7, z8, z9, z10]) rfl ⟨rfl, Bk.only H3.out E2.out (by simp; omega), H4.out.trans E2.out (fun i hi => .inr (by simp at hi; omega))⟩
theorem enter_pinner (args : Array Value) (w : World) : (callFunc 108 args).run Tryz.prog w = .ok (.enter 108 args) w := by kernel_rfl
theorem Only.sets {S : List Nat} {a : World} {b : Nat} (hp : b ∈ S ∨ a.heap.size ≤ b) : ∀ (vs : List Value) (o : Nat) {w : World}, Only S a w → Only S a (w.setCells b o vs)
 | [], _, _, h => h
 | v :: r, o, _, h => Only.sets hp r (o + 1) (h.set (p := ⟨b, o, none⟩) hp v)
theorem DVs.nil2 {w : World} {F : Nat → Prop} {d1 d2 : D} {u1 u2 : Value} (h1 : DV w F d1 u1) (h2 : DV w F d2 u2) : DVs w F [d1, d2] [u1, u2] := ⟨_, _, rfl, h1, _, _, rfl, h2, rfl⟩
theorem DV.none0 (w : World) (F : Nat → Prop) : DV w F (.sl 0 []) (.slice none 0 0) := by
 simp only [DV]
 exact ⟨none, 0, rfl, Nat.le_refl _, by omega, .inl (by simp)⟩
theorem tds_form (t : T) : ∃ k n x y S a b d, t.ds = tD k n x y S a b d ∧ (d = noD ∨ ∃ n l, d = .sl n l) := by
 cases t with
 | zero => exact ⟨0, 0, 0, 0, ⟨#[]⟩, 0, 0, noD, by simp only [T.ds], .inl rfl⟩
 | nil => exact ⟨1, 0, 0, 0, ⟨#[]⟩, 0, 0, noD, by simp only [T.ds], .inl rfl⟩
 | bool n => exact ⟨2, n, 0, 0, ⟨#[]⟩, 0, 0, noD, by simp only [T.ds], .inl rfl⟩
 | int n => exact ⟨3, n, 0, 0, ⟨#[]⟩, 0, 0, noD, by simp only [T.ds], .inl rfl⟩
 | com re im => exact ⟨4, 0, floatOfInt .f64 re, floatOfInt .f64 im, ⟨#[]⟩, 0, 0, noD, by simp only [T.ds], .inl rfl⟩
 | atom s => exact ⟨5, 0, 0, 0, s, 0, 0, noD, by simp only [T.ds], .inl rfl⟩
 | pid n g => exact ⟨6, 0, 0, 0, ⟨#[]⟩, n, g, noD, by simp only [T.ds], .inl rfl⟩
 | ref n => exact ⟨7, n, 0, 0, ⟨#[]⟩, 0, 0, noD, by simp only [T.ds], .inl rfl⟩
 | tup k l => exact ⟨k, 0, 0, 0, ⟨#[]⟩, 0, 0, .sl l.length (T.dss l), by simp only [T.ds], .inr ⟨_, _, rfl⟩⟩
open Go.RowKit
theorem pat_k3 (s : ByteArray) (d b p q v : Nat) (w : World) (hv : v + (d + 1) = 64) (hb : Rdb w b s p) (hp : p ≤ s.size) (hs : s.size ≤ 262144) (hk : rOne 6 s p = .ok 3 q) :
 Calls Tryz.prog 95 #[.pointer (some ⟨b, 0, none⟩), .int .i64 v] w fun e w' => RdE b s (.agg ZQ) (RD QT.ds) ((rPK (fun p => rPat s d p) s 3 q)) w e w' := by
 have h64 : (v : Int) < 64 := by omega
 have hbl := Bk.lt hb
 have HO : Hid (Calls Tryz.prog 70 #[.pointer (some ⟨b, 0, none⟩), .int .i64 6] (W4Q w b v) fun e w' => RdE b s (.int .i64 0) RI (.ok 3 q) (W4Q w b v) e w') := Lib.hid (by rw [← hk]; exact oneOf_any b s p 6 (W4Q w b v) (W4Q.rdb hb v) hp hs)
 have HG := Lib.hid (fun w1 (h : Rdb w1 b s q) (hq : q ≤ s.size) => (show Calls Tryz.prog 41 #[.pointer (some ⟨b, 0, none⟩), .int .i64 0] w1 fun e w' => RdE b s (.agg ZT) (RD T.ds) (rTerm s 64 q) w1 e w' from term_any s 64 b q 0 w1 rfl h hq hs))
 show Calls Tryz.prog _ _ w fun e w' => RdE b s (.agg ZQ) (RD QT.ds) ((rTerm s 64 q).map .term) w e w'
 generalize rTerm s 64 q = r at HG ⊢
 go_enter Tryz.func95, Tryz.ntmps95
 go_wp2_with fail
 refine wp_scope_fwd 0 rfl ?_
 go_wp2_with fail
 (with_reducible refine HO.out.mono ?_)
 rintro e w1 ⟨u, rfl, rfl, h3, h4, h5⟩
 have F1 := Lib.hid ((FrQ.made w b v).only h4 hbl)
 have O1 := Lib.hid ((W4Q.only w b v).trans h4 (fun i hi => .inl hi))
 have F2 : Hid (FrQ (w1.setCell ⟨w.heap.size + 1 + 1 + 1, 0, none⟩ (.int .i64 3)) w.heap.size b v #[.int .i64 3, .int .i64 0, .int .i64 0, .int .i64 0, .complex .f64 0 0, .string ⟨#[]⟩, .int .i64 0, .int .i64 0, .slice none 0 0, .slice none 0 0, .slice none 0 0]) := Lib.hid (by simpa using F1.out.set 0 (.int .i64 3))
 have R2 := Lib.hid (Bk.away h3 (p := ⟨w.heap.size + 1 + 1 + 1, 0, none⟩) (by show b ≠ w.heap.size + 1 + 1 + 1; omega) (.int .i64 3))
 have O2 := Lib.hid (O1.out.set (p := ⟨w.heap.size + 1 + 1 + 1, 0, none⟩) (.inr (by show w.heap.size ≤ w.heap.size + 1 + 1 + 1; omega)) (.int .i64 3))
 have r0 := (F1.out).r.cell0 (i := 0) rfl
 have v0 := (F1.out).v.cell0 (i := 0) rfl
 obtain ⟨x0, x1, x2, x3, x4, x5, x6, x7, x8, x9, x10⟩ := Bk.eleven (F1.out).t
 have k0 := (F1.out).t.free 0
 have k1 := (F1.out).t.free 1
 have k2 := (F1.out).t.free 2
 have k3 := (F1.out).t.free 3
 have k4 := (F1.out).t.free 4
 have k5 := (F1.out).t.free 5
 have k6 := (F1.out).t.free 6
 have k7 := (F1.out).t.free 7
 have k8 := (F1.out).t.free 8
 have k9 := (F1.out).t.free 9
 have k10 := (F1.out).t.free 10
 clear h3 h4 HO
 have hm4 : w.heap.size + 1 + 1 + 1 < (w1.setCell ⟨w.heap.size + 1 + 1 + 1, 0, none⟩ (.int .i64 3)).heap.size := Bk.lt F2.out.t
 go_wp2_with fail
 clear r0 v0 x0 x1 x2 x3 x4 x5 x6 x7 x8 x9 x10 k0 k1 k2 k3 k4 k5 k6 k7 k8 k9 k10
 (with_reducible refine (HG.out _ R2.out h5).mono ?_)
 intro e w2 h
 cases r with
 | ok y t =>
  obtain ⟨u, rfl, ⟨us, rfl, hd⟩, g3, g4, g5⟩ := h
  obtain ⟨y0, y1, y2, y3, y4, y5, y6, rfl⟩ := seven_of (RD.size ds_len hd)
  have hu := DVs.one hd (ds_one y)
  have hu1 : (#[y0, y1, y2, y3, y4, y5, y6] : Array Value).all (·.oneCell') = true := by
   rw [Array.all_eq_true']
   intro v hv
   exact hu v (Array.mem_toList_iff.2 hv)
  have HD := Lib.hid hd
  have F3 := Lib.hid (F2.out.only g4 hbl)
  have O3 := Lib.hid (O2.out.trans g4 (fun i hi => .inl hi))
  have R3 := Lib.hid g3
  have hth : w2.there (w.heap.size + 1 + 1 + 1) 2 7 := fun j hj => by
   obtain rfl | rfl | rfl | rfl | rfl | rfl | rfl : j = 0 ∨ j = 1 ∨ j = 2 ∨ j = 3 ∨ j = 4 ∨ j = 5 ∨ j = 6 := by omega
   all_goals exact ⟨by rw [Bk.cell F3.out.t]; rfl, Bk.free F3.out.t _⟩
  have F4 : Hid (FrQ (w2.setCells (w.heap.size + 1 + 1 + 1) 2 [y0, y1, y2, y3, y4, y5, y6]) w.heap.size b v #[.int .i64 3, .int .i64 0, y0, y1, y2, y3, y4, y5, y6, .slice none 0 0, .slice none 0 0]) := Lib.hid (by
   have := (((((((F3.out.set 2 (y0)).set (2 + 1) (y1)).set (2 + 1 + 1) (y2)).set (2 + 1 + 1 + 1) (y3)).set (2 + 1 + 1 + 1 + 1) (y4)).set (2 + 1 + 1 + 1 + 1 + 1) (y5)).set (2 + 1 + 1 + 1 + 1 + 1 + 1) (y6))
   simpa [World.setCells] using this)
  have o4 : Only [w.heap.size + 1 + 1 + 1] w2 (w2.setCells (w.heap.size + 1 + 1 + 1) 2 [y0, y1, y2, y3, y4, y5, y6]) := Only.sets (.inl (by simp)) _ _ (Only.refl _ _)
  have OS := Lib.hid o4
  have O4 := Lib.hid (O3.out.trans o4 (fun i hi => .inr (by simp at hi; omega)))
  have R4 := Lib.hid (Bk.only R3.out o4 (by simp; omega))
  have key := Lib.hid (And.intro F4.out (And.intro OS.out (And.intro O4.out R4.out)))
  clear o4 OS O4 R4 F4
  have hall : (#[.int .i64 3, .int .i64 0, y0, y1, y2, y3, y4, y5, y6, .slice none 0 0, .slice none 0 0] : Array Value).all (·.oneCell') = true := by
   rw [Array.all_eq_true']
   intro v hv
   simp only [List.mem_toArray, List.mem_cons, List.not_mem_nil, or_false] at hv
   rcases hv with rfl | rfl | rfl | rfl | rfl | rfl | rfl | rfl | rfl | rfl | rfl <;> first | rfl | exact hu _ (by simp)
  clear g3 g4 hd hu
  go_wp2_with (first
   | (refine wpList_store_mid (by rfl) _ _ _ (by rfl) (w.heap.size + 1 + 1 + 1) 2 #[y0, y1, y2, y3, y4, y5, y6] (by rfl) (by rfl) hth (by rw [size7]; rfl) hu1 ?_; have key2 := key.out; generalize World.setCells _ _ _ _ = W3 at key2 ⊢; clear key; obtain ⟨f4, os, o4, r4⟩ := key2; have F4 := Lib.hid f4; have OS := Lib.hid os; have O4 := Lib.hid o4; have R4 := Lib.hid r4; have y0' := f4.t.cell0 (i := 0) rfl; clear f4 os o4 r4)
   | (refine wpList_load_row (by rfl) 88 _ (by rfl) (w.heap.size + 1 + 1 + 1) (by rfl) 88 #[.int .i64 3, .int .i64 0, y0, y1, y2, y3, y4, y5, y6, .slice none 0 0, .slice none 0 0] (0, 0) _ F4.out.t Tryz.underlying88 (by rfl) (by rw [size11]; rfl) ?_)
   | (refine wpList_store_row (by rfl) _ _ _ (by rfl) (w.heap.size + 1 + 1) #[.int .i64 3, .int .i64 0, y0, y1, y2, y3, y4, y5, y6, .slice none 0 0, .slice none 0 0] (by rfl) (by rfl) 88 ZQ F4.out.o (by rw [size11]; rfl) (by rfl) hall ?_; have HE2 := Lib.hid (fun W' => FrQ.yes (W' := W') #[.int .i64 3, .int .i64 0, y0, y1, y2, y3, y4, y5, y6, .slice none 0 0, .slice none 0 0] F4.out rfl hbl R4.out O4.out); have HE2 := HE2.out _ rfl; generalize World.setRow _ _ _ = W5 at HE2 ⊢; obtain ⟨e1, e2, e3, e4⟩ := HE2; have E2 := Lib.hid e2; have E3 := Lib.hid e3; have E4 := Lib.hid e4; obtain ⟨z0, z1, z2, z3, z4, z5, z6, z7, z8, z9, z10⟩ := Bk.eleven e1; clear e1 e2 e3 e4))
  try rw [Exit.jump_ret]
  exact bodyPost_ret (v := .tuple #[.agg #[.int .i64 3, .int .i64 0, y0, y1, y2, y3, y4, y5, y6, .slice none 0 0, .slice none 0 0], .bool true]) (by simp [results, Tryz.results95, go_sem, z0, z1, z2, z3, z4, z5, z6, z7, z8, z9, z10]) rfl ⟨_, rfl, ⟨#[.int .i64 3, .int .i64 0, y0, y1, y2, y3, y4, y5, y6, .slice none 0 0, .slice none 0 0], rfl, (by
   have hD := DVs.only (F' := fun g => w.heap.size ≤ g) ((OS.out.more (T := [w.heap.size + 1 + 1 + 1, w.heap.size + 1 + 1]) (by simp)).trans E4.out (fun i hi => .inl (by simp at hi; simp [hi]))) (fun g hg hf => by simp at hg; omega) (fun g hf => by omega) HD.out
   simp only [QT.ds]
   exact DVs.app (DVs.nil2 (DV.v.2 rfl) (DV.v.2 rfl)) (DVs.app hD (DVs.nil2 (DV.v.2 rfl) (DV.v.2 rfl))))⟩, E2.out, E3.out, g5⟩
 | bad t =>
  obtain ⟨rfl, g3, g4⟩ := h
  have F3 := Lib.hid (F2.out.only g4 hbl)
  have O3 := Lib.hid (O2.out.trans g4 (fun i hi => .inl hi))
  have R3 := Lib.hid g3
  have hth : w2.there (w.heap.size + 1 + 1 + 1) 2 7 := fun j hj => by
   obtain rfl | rfl | rfl | rfl | rfl | rfl | rfl : j = 0 ∨ j = 1 ∨ j = 2 ∨ j = 3 ∨ j = 4 ∨ j = 5 ∨ j = 6 := by omega
   all_goals exact ⟨by rw [Bk.cell F3.out.t]; rfl, Bk.free F3.out.t _⟩
  have F4 : Hid (FrQ (w2.setCells (w.heap.size + 1 + 1 + 1) 2 [.int .i64 0, .int .i64 0, .complex .f64 0 0, .string ⟨#[]⟩, .int .i64 0, .int .i64 0, .slice none 0 0]) w.heap.size b v #[.int .i64 3, .int .i64 0, .int .i64 0, .int .i64 0, .complex .f64 0 0, .string ⟨#[]⟩, .int .i64 0, .int .i64 0, .slice none 0 0, .slice none 0 0, .slice none 0 0]) := Lib.hid (by
   have := (((((((F3.out.set 2 (.int .i64 0)).set (2 + 1) (.int .i64 0)).set (2 + 1 + 1) (.complex .f64 0 0)).set (2 + 1 + 1 + 1) (.string ⟨#[]⟩)).set (2 + 1 + 1 + 1 + 1) (.int .i64 0)).set (2 + 1 + 1 + 1 + 1 + 1) (.int .i64 0)).set (2 + 1 + 1 + 1 + 1 + 1 + 1) (.slice none 0 0))
   simpa [World.setCells] using this)
  have o4 : Only [w.heap.size + 1 + 1 + 1] w2 (w2.setCells (w.heap.size + 1 + 1 + 1) 2 [.int .i64 0, .int .i64 0, .complex .f64 0 0, .string ⟨#[]⟩, .int .i64 0, .int .i64 0, .slice none 0 0]) := Only.sets (.inl (by simp)) _ _ (Only.refl _ _)
  have OS := Lib.hid o4
  have O4 := Lib.hid (O3.out.trans o4 (fun i hi => .inr (by simp at hi; omega)))
  have R4 := Lib.hid (Bk.only R3.out o4 (by simp; omega))
  have key := Lib.hid (And.intro F4.out (And.intro OS.out (And.intro O4.out R4.out)))
  clear o4 OS O4 R4 F4
  clear g3 g4
  go_wp2_with (first | (refine wpList_store_mid (by rfl) _ _ _ (by rfl) (w.heap.size + 1 + 1 + 1) 2 #[.int .i64 0, .int .i64 0, .complex .f64 0 0, .string ⟨#[]⟩, .int .i64 0, .int .i64 0, .slice none 0 0] (by rfl) (by rfl) hth (by rw [size7]; rfl) one7 ?_; have key2 := key.out; generalize World.setCells _ _ _ _ = W3 at key2 ⊢; clear key; obtain ⟨f4, os, o4, r4⟩ := key2; have F4 := Lib.hid f4; have OS := Lib.hid os; have O4 := Lib.hid o4; have R4 := Lib.hid r4; have y0' := f4.t.cell0 (i := 0) rfl; clear f4 os o4 r4))
  refine wp_goto (And.intro rfl ?_)
  have HE := Lib.hid (fun W' => FrQ.yes (W' := W') ZQ F4.out rfl hbl R4.out O4.out)
  go_wp2_with (refine wpList_store_row (by rfl) _ _ _ (by rfl) (w.heap.size + 1 + 1) ZQ (by rfl) (by rfl) 88 ZQ F4.out.o (by rw [size11]; rfl) (by rfl) one11 ?_; have HE2 := HE.out _ rfl; generalize World.setRow _ _ _ = W5 at HE2 ⊢; clear HE; obtain ⟨e1, e2, e3, -⟩ := HE2; have E2 := Lib.hid e2; have E3 := Lib.hid e3; obtain ⟨z0, z1, z2, z3, z4, z5, z6, z7, z8, z9, z10⟩ := Bk.eleven e1; clear e1 e2 e3)
  try rw [Exit.last_ret]
  exact bodyPost_ret (v := .tuple #[.agg ZQ, .bool false]) (by simp [results, Tryz.results95, go_sem, z0, z1, z2, z3, z4, z5, z6, z7, z8, z9, z10]) rfl ⟨rfl, E2.out, E3.out⟩
open Go.RowKit
theorem pat_k5 (s : ByteArray) (d b p q v : Nat) (w : World) (ok : PatOk s d) (hv : v + (d + 1) = 64) (hb : Rdb w b s p) (hp : p ≤ s.size) (hs : s.size ≤ 262144) (hk : rOne 6 s p = .ok 5 q) :
 Calls Tryz.prog 95 #[.pointer (some ⟨b, 0, none⟩), .int .i64 v] w fun e w' => RdE b s (.agg ZQ) (RD QT.ds) ((rPK (fun p => rPat s d p) s 5 q)) w e w' := by
 have h64 : (v : Int) < 64 := by omega
 have hbl := Bk.lt hb
 have HO : Hid (Calls Tryz.prog 70 #[.pointer (some ⟨b, 0, none⟩), .int .i64 6] (W4Q w b v) fun e w' => RdE b s (.int .i64 0) RI (.ok 5 q) (W4Q w b v) e w') := Lib.hid (by rw [← hk]; exact oneOf_any b s p 6 (W4Q w b v) (W4Q.rdb hb v) hp hs)
 show Calls Tryz.prog _ _ w fun e w' => RdE b s (.agg ZQ) (RD QT.ds) ((rSome (fun p => rPat s d p) s q).map fun l => QT.seq 5 l []) w e w'
 obtain ⟨r, hrr⟩ : ∃ r, rSome (fun p => rPat s d p) s q = r := ⟨_, rfl⟩
 rw [hrr]
 go_enter Tryz.func95, Tryz.ntmps95
 go_wp2_with fail
 refine wp_scope_fwd 0 rfl ?_
 go_wp2_with fail
 (with_reducible refine HO.out.mono ?_)
 rintro e w1 ⟨u, rfl, rfl, h3, h4, h5⟩
 have F1 := Lib.hid ((FrQ.made w b v).only h4 hbl)
 have O1 := Lib.hid ((W4Q.only w b v).trans h4 (fun i hi => .inl hi))
 have F2 : Hid (FrQ (w1.setCell ⟨w.heap.size + 1 + 1 + 1, 0, none⟩ (.int .i64 5)) w.heap.size b v #[.int .i64 5, .int .i64 0, .int .i64 0, .int .i64 0, .complex .f64 0 0, .string ⟨#[]⟩, .int .i64 0, .int .i64 0, .slice none 0 0, .slice none 0 0, .slice none 0 0]) := Lib.hid (by simpa using F1.out.set 0 (.int .i64 5))
 have R2 := Lib.hid (Bk.away h3 (p := ⟨w.heap.size + 1 + 1 + 1, 0, none⟩) (by show b ≠ w.heap.size + 1 + 1 + 1; omega) (.int .i64 5))
 have O2 := Lib.hid (O1.out.set (p := ⟨w.heap.size + 1 + 1 + 1, 0, none⟩) (.inr (by show w.heap.size ≤ w.heap.size + 1 + 1 + 1; omega)) (.int .i64 5))
 have r0 := (F1.out).r.cell0 (i := 0) rfl
 have v0 := (F1.out).v.cell0 (i := 0) rfl
 obtain ⟨x0, x1, x2, x3, x4, x5, x6, x7, x8, x9, x10⟩ := Bk.eleven (F1.out).t
 have k0 := (F1.out).t.free 0
 have k1 := (F1.out).t.free 1
 have k2 := (F1.out).t.free 2
 have k3 := (F1.out).t.free 3
 have k4 := (F1.out).t.free 4
 have k5 := (F1.out).t.free 5
 have k6 := (F1.out).t.free 6
 have k7 := (F1.out).t.free 7
 have k8 := (F1.out).t.free 8
 have k9 := (F1.out).t.free 9
 have k10 := (F1.out).t.free 10
 clear h3 h4 HO
 have HG := Lib.hid (someQ_any QT.ds qds_len qds_one 108 #[] #[.pointer (some ⟨w.heap.size, 0, none⟩), .pointer (some ⟨w.heap.size + 1, 0, none⟩)] (fun p => rPat s d p) b s q _ R2.out h5 hs enter_pinner (fun q' w' hq' hb' ho' => pinner_any s d b w.heap.size v q' w' ok (by omega) hb' hq' hs (F2.out.only ho' hbl).r (F2.out.only ho' hbl).v))
 have hm4 : w.heap.size + 1 + 1 + 1 < (w1.setCell ⟨w.heap.size + 1 + 1 + 1, 0, none⟩ (.int .i64 5)).heap.size := Bk.lt F2.out.t
 rw [hrr] at HG
 go_wp2_with fail
 clear r0 v0 x0 x1 x2 x3 x4 x5 x6 x7 x8 x9 x10 k0 k1 k2 k3 k4 k5 k6 k7 k8 k9 k10
 (with_reducible refine HG.out.mono ?_)
 intro e w2 h
 cases r with
 | ok l t =>
  obtain ⟨u, rfl, hu, g3, g4, g5⟩ := h
  have KU := Lib.hid hu
  unfold RL at hu
  simp only [DV] at hu
  obtain ⟨A, cap, rfl, -⟩ := hu
  have F3 := Lib.hid (F2.out.only g4 hbl)
  have O3 := Lib.hid (O2.out.trans g4 (fun i hi => .inl hi))
  have R3 := Lib.hid g3
  have F4 : Hid (FrQ _ w.heap.size b v #[.int .i64 5, .int .i64 0, .int .i64 0, .int .i64 0, .complex .f64 0 0, .string ⟨#[]⟩, .int .i64 0, .int .i64 0, .slice none 0 0, .slice A l.length cap, .slice none 0 0]) := Lib.hid (by simpa using F3.out.set 9 (.slice A l.length cap))
  have O4 := Lib.hid (O3.out.set (p := ⟨w.heap.size + 1 + 1 + 1, 9, none⟩) (.inr (by show w.heap.size ≤ w.heap.size + 1 + 1 + 1; omega)) (.slice A l.length cap))
  have R4 := Lib.hid (Bk.away R3.out (p := ⟨w.heap.size + 1 + 1 + 1, 9, none⟩) (by show b ≠ w.heap.size + 1 + 1 + 1; omega) (.slice A l.length cap))
  have OS := Lib.hid ((Only.refl [w.heap.size + 1 + 1 + 1, w.heap.size + 1 + 1] w2).set (p := ⟨w.heap.size + 1 + 1 + 1, 9, none⟩) (.inl (by simp)) (.slice A l.length cap))
  have r0 := (F3.out).r.cell0 (i := 0) rfl
  have v0 := (F3.out).v.cell0 (i := 0) rfl
  obtain ⟨x0, x1, x2, x3, x4, x5, x6, x7, x8, x9, x10⟩ := Bk.eleven (F3.out).t
  have k0 := (F3.out).t.free 0
  have k1 := (F3.out).t.free 1
  have k2 := (F3.out).t.free 2
  have k3 := (F3.out).t.free 3
  have k4 := (F3.out).t.free 4
  have k5 := (F3.out).t.free 5
  have k6 := (F3.out).t.free 6
  have k7 := (F3.out).t.free 7
  have k8 := (F3.out).t.free 8
  have k9 := (F3.out).t.free 9
  have k10 := (F3.out).t.free 10
  clear g3 g4
  have HE := Lib.hid (fun W' => FrQ.yes (W' := W') #[.int .i64 5, .int .i64 0, .int .i64 0, .int .i64 0, .complex .f64 0 0, .string ⟨#[]⟩, .int .i64 0, .int .i64 0, .slice none 0 0, .slice A l.length cap, .slice none 0 0] F4.out rfl hbl R4.out O4.out)
  go_wp2_with (first
   | (refine wpList_load_row (by rfl) 88 _ (by rfl) (w.heap.size + 1 + 1 + 1) (by rfl) 88 #[.int .i64 5, .int .i64 0, .int .i64 0, .int .i64 0, .complex .f64 0 0, .string ⟨#[]⟩, .int .i64 0, .int .i64 0, .slice none 0 0, .slice A l.length cap, .slice none 0 0] (0, 0) _ F4.out.t Tryz.underlying88 (by rfl) (by rw [size11]; rfl) ?_)
   | (refine wpList_store_row (by rfl) _ _ _ (by rfl) (w.heap.size + 1 + 1) #[.int .i64 5, .int .i64 0, .int .i64 0, .int .i64 0, .complex .f64 0 0, .string ⟨#[]⟩, .int .i64 0, .int .i64 0, .slice none 0 0, .slice A l.length cap, .slice none 0 0] (by rfl) (by rfl) 88 ZQ F4.out.o (by rw [size11]; rfl) (by rfl) (by simp [Value.oneCell']) ?_; have HE2 := HE.out _ rfl; generalize World.setRow _ _ _ = W5 at HE2 ⊢; clear HE; obtain ⟨e1, e2, e3, e4⟩ := HE2; have E2 := Lib.hid e2; have E3 := Lib.hid e3; have E4 := Lib.hid e4; obtain ⟨z0, z1, z2, z3, z4, z5, z6, z7, z8, z9, z10⟩ := Bk.eleven e1; clear e1 e2 e3 e4))
  try rw [Exit.jump_ret]
  exact bodyPost_ret (v := .tuple #[.agg #[.int .i64 5, .int .i64 0, .int .i64 0, .int .i64 0, .complex .f64 0 0, .string ⟨#[]⟩, .int .i64 0, .int .i64 0, .slice none 0 0, .slice A l.length cap, .slice none 0 0], .bool true]) (by simp [results, Tryz.results95, go_sem, z0, z1, z2, z3, z4, z5, z6, z7, z8, z9, z10]) rfl ⟨_, rfl, ⟨#[.int .i64 5, .int .i64 0, .int .i64 0, .int .i64 0, .complex .f64 0 0, .string ⟨#[]⟩, .int .i64 0, .int .i64 0, .slice none 0 0, .slice A l.length cap, .slice none 0 0], rfl, (by
   have hD := DV.only (F' := fun g => w.heap.size ≤ g) (OS.out.trans E4.out (fun i hi => .inl (by simp at hi; simp [hi]))) (fun g hg hf => by simp at hg; omega) (fun g hf => by omega) _ _ KU.out
   simp only [QT.ds, qdss_flat, List.length_nil, List.flatMap_nil]
   show DVs _ _ (([D.v (.int .i64 5), D.v (.int .i64 0)] ++ T.zero.ds) ++ [D.sl l.length (l.flatMap QT.ds), D.sl 0 []]) (([Value.int .i64 5, Value.int .i64 0] ++ ZT.toList) ++ [.slice A l.length cap, .slice none 0 0])
   exact DVs.app (DVs.nil2 hD (DV.none0 _ _)) (DVs.app (by simp only [T.ds]; exact ⟨_, _, rfl, DV.v.2 rfl, _, _, rfl, DV.v.2 rfl, _, _, rfl, DV.v.2 rfl, _, _, rfl, DV.v.2 rfl, _, _, rfl, DV.v.2 rfl, _, _, rfl, DV.v.2 rfl, _, _, rfl, DV.v.2 rfl, rfl⟩) (DVs.nil2 (DV.v.2 rfl) (DV.v.2 rfl))))⟩, E2.out, E3.out, g5⟩
 | bad t =>
  obtain ⟨rfl, g3, g4⟩ := h
  have F3 := Lib.hid (F2.out.only g4 hbl)
  have O3 := Lib.hid (O2.out.trans g4 (fun i hi => .inl hi))
  have R3 := Lib.hid g3
  have F4 : Hid (FrQ _ w.heap.size b v #[.int .i64 5, .int .i64 0, .int .i64 0, .int .i64 0, .complex .f64 0 0, .string ⟨#[]⟩, .int .i64 0, .int .i64 0, .slice none 0 0, .slice none 0 0, .slice none 0 0]) := Lib.hid (by simpa using F3.out.set 9 (.slice none 0 0))
  have O4 := Lib.hid (O3.out.set (p := ⟨w.heap.size + 1 + 1 + 1, 9, none⟩) (.inr (by show w.heap.size ≤ w.heap.size + 1 + 1 + 1; omega)) (.slice none 0 0))
  have R4 := Lib.hid (Bk.away R3.out (p := ⟨w.heap.size + 1 + 1 + 1, 9, none⟩) (by show b ≠ w.heap.size + 1 + 1 + 1; omega) (.slice none 0 0))
  have r0 := (F3.out).r.cell0 (i := 0) rfl
  have v0 := (F3.out).v.cell0 (i := 0) rfl
  obtain ⟨x0, x1, x2, x3, x4, x5, x6, x7, x8, x9, x10⟩ := Bk.eleven (F3.out).t
  have k0 := (F3.out).t.free 0
  have k1 := (F3.out).t.free 1
  have k2 := (F3.out).t.free 2
  have k3 := (F3.out).t.free 3
  have k4 := (F3.out).t.free 4
  have k5 := (F3.out).t.free 5
  have k6 := (F3.out).t.free 6
  have k7 := (F3.out).t.free 7
  have k8 := (F3.out).t.free 8
  have k9 := (F3.out).t.free 9
  have k10 := (F3.out).t.free 10
  clear g3 g4
  go_wp2_with fail
  refine wp_goto (And.intro rfl ?_)
  have HE := Lib.hid (fun W' => FrQ.yes (W' := W') ZQ F4.out rfl hbl R4.out O4.out)
  go_wp2_with (refine wpList_store_row (by rfl) _ _ _ (by rfl) (w.heap.size + 1 + 1) ZQ (by rfl) (by rfl) 88 ZQ F4.out.o (by rw [size11]; rfl) (by rfl) one11 ?_; have HE2 := HE.out _ rfl; generalize World.setRow _ _ _ = W5 at HE2 ⊢; clear HE; obtain ⟨e1, e2, e3, -⟩ := HE2; have E2 := Lib.hid e2; have E3 := Lib.hid e3; obtain ⟨z0, z1, z2, z3, z4, z5, z6, z7, z8, z9, z10⟩ := Bk.eleven e1; clear e1 e2 e3)
  try rw [Exit.last_ret]
  exact bodyPost_ret (v := .tuple #[.agg ZQ, .bool false]) (by simp [results, Tryz.results95, go_sem, z0, z1, z2, z3, z4, z5, z6, z7, z8, z9, z10]) rfl ⟨rfl, E2.out, E3.out⟩
end Go.Proofs.YtcdefnbehlcgeaaGreatDoor
