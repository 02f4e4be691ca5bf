/- The program's reader: as many as the count ahead of them says (carousel/api.Arm). The program's reader of an arm. Instructions, functions, modules as they are read from bytes: the trees, their cells, how . -/
import Derived.Test.YtcdefnbehlcgeaaGreatDoorWg
import Derived.Test.YtcdefnbehlcgeaaGreatDoorWn
import Derived.Test.YtcdefnbehlcgeaaGreatDoorWj
set_option maxHeartbeats 4000000
set_option maxRecDepth 20000
set_option linter.unusedSimpArgs false
namespace Go.Proofs.YtcdefnbehlcgeaaGreatDoor
open Go.RowKit
abbrev ZA : Array Value := #[.int .i64 0, .int .i64 0, .int .i64 0, .int .i64 0, .complex .f64 0 0, .string ⟨#[]⟩, .int .i64 0, .int .i64 0, .slice none 0 0, .slice none 0 0, .slice none 0 0, .int .i64 0]
theorem infoA : (Tryz.prog.info? 90).map (fun i => (i.size, i.zero)) = some (12, some (.agg ZA)) := by kernel_rfl
theorem infoAb : ((Tryz.prog.info? 90).map (fun i => decide (i.bytes ≤ 1024 ∧ 0 < i.bytes))) = some true := by kernel_rfl
theorem someA_any {α : Type} (ds : α → List D) (hds : ∀ x, (ds x).length = 12) (h1 : ∀ x, ∀ d ∈ ds x, d.One) (F : Nat) (fs cp : Array Value) (one : Nat → Rs α) (b : Nat) (s : ByteArray) (p : Nat) (w : World) (hb : Rdb w b s p) (hp : p ≤ s.size) (hs : s.size ≤ 262144)
 (hE : ∀ (args : Array Value) (w : World), (callFunc F args).run Tryz.prog w = .ok (.enter F args) w)
 (hF : ∀ q w1, q ≤ s.size → Rdb w1 b s q → Only [b] w w1 → Calls Tryz.prog F (fs ++ cp) w1 fun e w' => RdE b s (.agg ZA) (RD ds) (one q) w1 e w') :
 Calls Tryz.prog 80 #[.pointer (some ⟨b, 0, none⟩), .func (.func F) fs cp] w fun e w' => RdE b s (.slice none 0 0) (RL ds) (rSome one s p) w e w' := by
 have HL := Lib.hid (length_any b s p w hb hp hs)
 have HF := Lib.hid hF
 have hbl := Bk.lt hb
 obtain ⟨i0, hi0, hik, hiz⟩ : ∃ i, Tryz.prog.info? 90 = some i ∧ i.size = 12 ∧ i.zero = some (.agg ZA) := by
  have := infoA
  cases h : Tryz.prog.info? 90 with
  | none => rw [h] at this; cases this
  | some i =>
   rw [h] at this
   simp only [Option.map_some, Option.some.injEq, Prod.mk.injEq] at this
   exact ⟨i, rfl, this.1, this.2⟩
 have hib : i0.bytes ≤ 1024 ∧ 0 < i0.bytes := by
  have := infoAb
  rw [hi0] at this
  simpa using this
 cases hr : rLen s p with
 | bad q =>
  have hn : rSome one s p = .bad q := by unfold rSome; rw [hr]; rfl
  rw [hn]
  rw [hr] at HL
  clear hr hn hF
  go_enter Tryz.func80, Tryz.ntmps80
  go_wp2_with fail
  refine wp_scope_fwd 0 rfl ?_
  go_wp2_with fail
  (with_reducible refine HL.out.mono ?_)
  rintro e w1 ⟨rfl, h3, h4⟩
  have H3 := Lib.hid h3
  have H4 := Lib.hid h4
  clear h3 h4
  go_wp2_with fail
  refine wp_goto (And.intro rfl ?_)
  go_wp2_with fail
  try rw [Exit.last_ret]
  go_ret2
  exact ⟨rfl, H3.out, H4.out⟩
 | ok n q0 =>
  obtain ⟨R, hR⟩ : ∃ R, rMany one n q0 = R := ⟨_, rfl⟩
  have hn : rSome one s p = R := by unfold rSome; rw [hr]; exact hR
  obtain ⟨hn1, hq0, -⟩ := rLen_bd hr
  rw [hn]
  rw [hr] at HL
  clear hr hn hF
  go_enter Tryz.func80, Tryz.ntmps80
  go_wp2_with fail
  refine wp_scope_fwd 0 rfl ?_
  go_wp2_with fail
  (with_reducible refine HL.out.mono ?_)
  rintro e w1 ⟨u, rfl, rfl, h3, h4, -⟩
  have H3 := Lib.hid h3
  have H4 := Lib.hid h4
  clear h3 h4
  go_wp2_with fail
  go_loopw [6, 19] (fun lv iv wr => ∃ (xs : List α) (q : Nat), iv = .int .i64 xs.length ∧ xs.length ≤ n ∧ q ≤ s.size ∧ (rMany one (n - xs.length) q).map (fun l => xs ++ l) = R ∧ Rdb wr b s q ∧ Only [b] w wr ∧ OwnD wr w.heap.size (Beh w.heap.size wr lv) 90 12 lv xs.length (xs.flatMap ds)) (fun lv iv _ => n - (intOf iv).toNat)
  case atStart => exact ⟨[], q0, rfl, Nat.zero_le _, hq0, by rw [← hR]; simp [Rs.map, Rs.bind]; cases rMany one n q0 <;> rfl, H3.out, H4.out, OwnD.nil _ _ _ _ _⟩
  case round =>
   obtain ⟨xs, q, rfl, hxn, hq, hRR, hRb, hO, hOwn⟩ := hrel
   have KR := Lib.hid hRR
   have KB := Lib.hid hRb
   have KO := Lib.hid hO
   have KD := Lib.hid hOwn
   clear hR hRR hRb hO hOwn
   by_cases hlt : xs.length < n
   ·have hl' : (xs.length : Int) < (n : Int) := by omega
    have hrm : rMany one (n - xs.length) q = (one q).bind fun x q => (rMany one (n - (xs.length + 1)) q).bind fun l r => .ok (x :: l) r := by
     rw [show n - xs.length = (n - (xs.length + 1)) + 1 by omega]
     rfl
    rw [hrm] at KR
    clear hrm
    go_wp2_with fail
    (with_reducible refine (HF.out q _ hq KB.out KO.out).mono ?_)
    intro e w2 h
    cases ho : one q with
    | bad t =>
     rw [ho] at h KR
     obtain ⟨rfl, h3, h4⟩ := h
     have K3 := Lib.hid h3
     have K4 := Lib.hid (KO.out.trans h4 (fun i hi => .inl hi))
     have hlt2 := Bk.lt h3
     have hz1 : (ZA).all (·.oneCell') = true := by simp [Value.oneCell']
     have HM := Lib.hid (setRow_made w2 90 ZA ZA)
     clear h3 h4 ho
     go_wp2_with (refine wpList_store_row (by rfl) _ _ _ (by rfl) w2.heap.size ZA (by rfl) (by rfl) 90 ZA (Bk.made w2 _ _) (by rw [hi0]; simp [hik]) (by rfl) hz1 ?_; have HM2 := HM.out; generalize World.setRow _ _ _ = W3 at HM2 ⊢; clear HM; obtain ⟨B3, O3, S3⟩ := HM2)
     refine wp_goto (And.intro rfl ?_)
     go_wp2_with fail
     try rw [Exit.last_ret]
     go_ret2
     have hre : R = .bad t := by rw [← KR.out]; rfl
     rw [hre]
     exact ⟨rfl, Bk.only K3.out O3 (by simp), K4.out.trans O3 (by simp)⟩
    | ok x t =>
     rw [ho] at h KR
     obtain ⟨u, rfl, ⟨us, rfl, hd⟩, h3, h4, h5⟩ := h
     have husz : us.size = 12 := by rw [← Array.length_toList, DVs.len hd, hds]
     have hu1 : us.all (·.oneCell') = true := by
      rw [Array.all_eq_true']
      intro v hv
      exact DVs.one hd (h1 x) v (Array.mem_toList_iff.2 hv)
     have K3 := Lib.hid h3
     have K4 := Lib.hid (KO.out.trans h4 (fun i hi => .inl hi))
     have KU := Lib.hid hd
     have HM := Lib.hid (setRow_made w2 90 ZA us)
     have K42 := Lib.hid h4
     have hus1 : ∀ u ∈ us.toList, u.oneCell' = true := DVs.one hd (h1 x)
     have hsz2 := h4.size
     have hsz1 := KO.out.size
     have hvr : ∀ g, u6.ownBlock = some g → g < wr.heap.size := by
      obtain ⟨xsC, hrow, -⟩ := KD.out.row
      exact fun g hg => (Row.block hrow hg).2
     have hfill : ∀ (k : Nat) (zs : Array Value) (ps : List (Nat × Value)), k = 12 → zs.size = k → ps = [(0, .agg us)] → Instr.fill (fun i => some (i * k, k)) zs ps = some us := fun k zs ps hk hz hp => by subst hk hp; exact fill_row hz husz
     clear h3 h4 ho hd
     go_wp2_with (first
      | (refine wpList_store_row (by rfl) _ _ _ (by rfl) w2.heap.size us (by rfl) (by rfl) 90 ZA (Bk.made w2 _ _) (by rw [hi0, husz]; simp [hik]) (by rw [husz]; rfl) hu1 ?_; have HM2 := HM.out; generalize World.setRow _ _ _ = W3 at HM2 ⊢; clear HM; obtain ⟨B3, O3, -⟩ := HM2)
      | (refine wpList_load_row (by rfl) 90 _ (by rfl) w2.heap.size (by rfl) 90 us (0, 0) _ B3 Tryz.underlying90 (by rfl) (by rw [hi0, husz]; simp [hik]) ?_)
      | (refine wpList_buildSlice (by rfl) 53 90 1 _ (by rfl) us i0 (.agg ZA) Tryz.underlying53 hi0 hiz (by rw [hik]; decide) (by rw [hik]; decide) (hfill _ _ _ hik (by simp) (by simp only [List.map_toArray, List.map_cons, List.map_nil]; rfl)) ?_)
      | (have o4 : Only [] w2 (W3.alloc (.cells us 90)) := O3.alloc _
         have hsz4 := o4.size
         have hnews := row_at (Bk.made W3 90 us)
         obtain ⟨xsC, hdv, hrow⟩ := Beh.cells hbl KD.out (K42.out.trans o4 (by simp))
         refine wpList_append_lies _ (by rfl) _ _ 53 (by rfl) w.heap.size 90 i0 (.agg ZA) 12 i0.bytes Tryz.underlying53 hi0 hiz hik rfl (by rfl) (by decide) u6 xs.length xsC (by rfl) hrow ⟨W3.heap.size, 0, none⟩ 1 1 us.toList (by rfl) (by rw [Array.length_toList, husz]) hnews hus1 (by decide) (by unfold maxLen; omega) (Nat.le_trans (Nat.mul_le_mul (show xs.length + 1 ≤ 262144 by omega) hib.1) (by decide)) (by omega) _ rfl (fun g cap w5 hr hgrow hat hlt5 => ?_)
         have OD := Lib.hid (own_step (ds := ds) (x := x) KU.out hsz1 o4 hvr hdv hr hgrow hat)
         have o5 : Only u6.ownBlock.toList w2 w5 := (o4.more (by simp)).trans (Only.of_grown hgrow) (fun i hi => .inl hi)
         have hne : u6.ownBlock ≠ some b := fun hv => by
          obtain ⟨xs1, hrow1, -⟩ := KD.out.row
          have := (Row.block hrow1 hv).1
          omega
         have K5 := Lib.hid (Bk.only K3.out o5 (by simpa using hne))
         have K6 := Lib.hid (K4.out.trans o5 (fun i hi => .inr (by
          obtain ⟨xs1, hrow1, -⟩ := KD.out.row
          exact (Row.block hrow1 (by simpa using hi)).1)))
         clear o4 hnews hdv hrow hr hgrow hat o5))
     go_roundw
     case rel =>
      refine ⟨xs ++ [x], t, by simp, by simp; omega, h5, ?_, K5.out, K6.out, by simpa using OD.out⟩
      rw [← KR.out]
      simp only [Rs.map, Rs.bind, List.length_append, List.length_cons, List.length_nil]
      cases rMany one (n - (xs.length + 1)) t <;> simp
     case measure =>
      simp [intOf]
      omega
   ·have hl' : ¬ (xs.length : Int) < (n : Int) := by omega
    have hre : R = .ok xs q := by rw [← KR.out, show n - xs.length = 0 by omega]; simp [rMany, Rs.map, Rs.bind]
    go_wp2_with fail
    try rw [Exit.jump_ret]
    go_ret2
    rw [hre]
    refine ⟨_, rfl, DV.more ?_ (KD.out.done (flatD_len hds xs)), KB.out, KO.out, hq⟩
    intro g hg
    rcases hg with hg | hg
    ·exact hg.1
    ·obtain ⟨us, hrw, -⟩ := KD.out.row
     exact (Row.block hrw hg).1
open Go.RowKit
structure Fr2 (w : World) (m : Nat) (ty : TypeId) (zs cs : Array Value) : Prop where
 o : Bk w m ty zs
 t : Bk w (m + 1) ty cs
theorem Fr2.only {w w' : World} {m b : Nat} {ty : TypeId} {zs cs : Array Value} (h : Fr2 w m ty zs cs) (o : Only [b] w w') (hb : b < m) : Fr2 w' m ty zs cs :=
 ⟨h.o.only o (by simp; omega), h.t.only o (by simp; omega)⟩
theorem Fr2.set {w : World} {m : Nat} {ty : TypeId} {zs cs : Array Value} (h : Fr2 w m ty zs cs) (i : Nat) (u : Value) : Fr2 (w.setCell ⟨m + 1, i, none⟩ u) m ty zs (cs.setIfInBounds i u) :=
 ⟨h.o.away (by show m ≠ m + 1; omega) u, Bk.set h.t i u⟩
theorem Fr2.sets {m : Nat} {ty : TypeId} {zs : Array Value} : ∀ (ys : List Value) (o : Nat) {w : World} {cs : Array Value}, Fr2 w m ty zs cs → Fr2 (w.setCells (m + 1) o ys) m ty zs (ys.zipIdx o |>.foldl (fun c x => c.setIfInBounds x.2 x.1) cs)
 | [], _, _, _, h => h
 | y :: ys, o, _, _, h => Fr2.sets ys (o + 1) (h.set o y)
theorem Fr2.made (w : World) (ty : TypeId) (zs : Array Value) : Fr2 ((w.alloc (.cells zs ty)).alloc (.cells zs ty)) w.heap.size ty zs zs := ⟨Bk.alloc (Bk.made w _ _) _, Bk.newAt (by rw [size_al])⟩
theorem Fr2.yes {W W' : World} {m b p : Nat} {ty : TypeId} {zs cs : Array Value} {s : ByteArray} {w : World} (us : Array Value) (h : Fr2 W m ty zs cs) (hw : w.heap.size = m) (hb : b < m) (hr : Rdb W b s p) (o : Only [b] w W) (e : W' = W.setRow m us) :
 Bk W' m ty us ∧ Rdb W' b s p ∧ Only [b] w W' ∧ Only [m] W W' := by
 obtain ⟨h1, h2⟩ := setRow_bk h.o us
 subst e
 exact ⟨h1, Bk.only hr h2 (by simp; omega), o.trans h2 (fun i hi => .inr (by simp at hi; omega)), h2⟩
theorem Bk.twelve {w : World} {b : Nat} {t : TypeId} {v0 v1 v2 v3 v4 v5 v6 v7 v8 v9 v10 v11 : Value} (h : Bk w b t #[v0, v1, v2, v3, v4, v5, v6, v7, v8, v9, v10, v11]) :
 w.cell? ⟨b, 0, none⟩ = some v0 ∧ w.cell? ⟨b, 1, none⟩ = some v1 ∧ w.cell? ⟨b, 2, none⟩ = some v2 ∧ w.cell? ⟨b, 3, none⟩ = some v3 ∧ w.cell? ⟨b, 4, none⟩ = some v4 ∧ w.cell? ⟨b, 5, none⟩ = some v5 ∧ w.cell? ⟨b, 6, none⟩ = some v6 ∧ w.cell? ⟨b, 7, none⟩ = some v7 ∧ w.cell? ⟨b, 8, none⟩ = some v8 ∧ w.cell? ⟨b, 9, none⟩ = some v9 ∧ w.cell? ⟨b, 10, none⟩ = some v10 ∧ w.cell? ⟨b, 11, none⟩ = some v11 :=
 ⟨h.cell0 rfl, h.cell0 rfl, h.cell0 rfl, h.cell0 rfl, h.cell0 rfl, h.cell0 rfl, h.cell0 rfl, h.cell0 rfl, h.cell0 rfl, h.cell0 rfl, h.cell0 rfl, h.cell0 rfl⟩
theorem size12 : (Tryz.prog.info? 90).map (·.size) = some 12 := by kernel_rfl
theorem one12 : ZA.all (·.oneCell') = true := by simp [Value.oneCell']
theorem arm_len (a : Arm) : a.ds.length = 12 := by simp [Arm.ds, qds_len]
theorem arm_one (a : Arm) : ∀ d ∈ a.ds, d.One := by
 intro d hd
 simp only [Arm.ds, List.mem_append, List.mem_cons, List.not_mem_nil, or_false] at hd
 rcases hd with hd | rfl
 ·exact qds_one _ d hd
 ·rfl
theorem term_pat (s : ByteArray) (b p : Nat) (w : World) (hb : Rdb w b s p) (hp : p ≤ s.size) (hs : s.size ≤ 262144) :
 Calls Tryz.prog 95 #[.pointer (some ⟨b, 0, none⟩), .int .i64 0] w fun e w' => RdE b s (.agg ZQ) (RD QT.ds) (rPat s 64 p) w e w' := pat_any s 64 b p 0 w rfl hb hp hs
theorem arm_a (s : ByteArray) (b p : Nat) (w : World) (t : Nat) (h1 : rPat s 64 p = .bad t) (hb : Rdb w b s p) (hp : p ≤ s.size) (hs : s.size ≤ 262144) :
 Calls Tryz.prog 81 #[.pointer (some ⟨b, 0, none⟩)] w fun e w' => RdE b s (.agg ZA) (RD Arm.ds) (.bad t) w e w' := by
 have hbl := Bk.lt hb
 have F0 := Lib.hid (Fr2.made w 90 ZA)
 have O0 := Lib.hid (((Only.refl [b] w).alloc (.cells ZA 90)).alloc (.cells ZA 90))
 have hk := term_pat s b p _ (Bk.alloc (Bk.alloc hb (.cells ZA 90)) (.cells ZA 90)) hp hs
 rw [h1] at hk
 have HK := Lib.hid hk
 clear hk
 go_enter Tryz.func81, Tryz.ntmps81
 go_wp2_with fail
 refine wp_scope_fwd 0 rfl ?_
 go_wp2_with fail
 (with_reducible refine HK.out.mono ?_)
 rintro e w1 ⟨rfl, g3, g4⟩
 have F1 := Lib.hid (F0.out.only g4 hbl)
 have O1 := Lib.hid (O0.out.trans g4 (fun i hi => .inl hi))
 have R1 := Lib.hid g3
 have hth : w1.there (w.heap.size + 1) 0 11 := fun j hj => by
  obtain rfl | rfl | rfl | rfl | rfl | rfl | rfl | rfl | rfl | rfl | rfl : j = 0 ∨ j = 1 ∨ j = 2 ∨ j = 3 ∨ j = 4 ∨ j = 5 ∨ j = 6 ∨ j = 7 ∨ j = 8 ∨ j = 9 ∨ j = 10 := by omega
  all_goals exact ⟨by rw [Bk.cell F1.out.t]; rfl, Bk.free F1.out.t _⟩
 have f2 : Fr2 (w1.setCells (w.heap.size + 1) 0 [.int .i64 0, .int .i64 0, .int .i64 0, .int .i64 0, .complex .f64 0 0, .string ⟨#[]⟩, .int .i64 0, .int .i64 0, .slice none 0 0, .slice none 0 0, .slice none 0 0]) w.heap.size 90 ZA #[.int .i64 0, .int .i64 0, .int .i64 0, .int .i64 0, .complex .f64 0 0, .string ⟨#[]⟩, .int .i64 0, .int .i64 0, .slice none 0 0, .slice none 0 0, .slice none 0 0, .int .i64 0] := by
  have := ((((((((((F1.out.set 0 (.int .i64 0)).set (0 + 1) (.int .i64 0)).set (0 + 1 + 1) (.int .i64 0)).set (0 + 1 + 1 + 1) (.int .i64 0)).set (0 + 1 + 1 + 1 + 1) (.complex .f64 0 0)).set (0 + 1 + 1 + 1 + 1 + 1) (.string ⟨#[]⟩)).set (0 + 1 + 1 + 1 + 1 + 1 + 1) (.int .i64 0)).set (0 + 1 + 1 + 1 + 1 + 1 + 1 + 1) (.int .i64 0)).set (0 + 1 + 1 + 1 + 1 + 1 + 1 + 1 + 1) (.slice none 0 0)).set (0 + 1 + 1 + 1 + 1 + 1 + 1 + 1 + 1 + 1) (.slice none 0 0)).set (0 + 1 + 1 + 1 + 1 + 1 + 1 + 1 + 1 + 1 + 1) (.slice none 0 0)
  simpa [World.setCells] using this
 have o2 : Only [w.heap.size + 1] w1 (w1.setCells (w.heap.size + 1) 0 [.int .i64 0, .int .i64 0, .int .i64 0, .int .i64 0, .complex .f64 0 0, .string ⟨#[]⟩, .int .i64 0, .int .i64 0, .slice none 0 0, .slice none 0 0, .slice none 0 0]) := Only.sets (.inl (by simp)) _ _ (Only.refl _ _)
 have key := Lib.hid (And.intro f2 (And.intro o2 (And.intro (O1.out.trans o2 (fun i hi => .inr (by simp at hi; omega))) (Bk.only R1.out o2 (by simp; omega)))))
 clear f2 o2
 clear g3 g4
 go_wp2_with (first | (refine wpList_store_mid (by rfl) _ _ _ (by rfl) (w.heap.size + 1) 0 #[.int .i64 0, .int .i64 0, .int .i64 0, .int .i64 0, .complex .f64 0 0, .string ⟨#[]⟩, .int .i64 0, .int .i64 0, .slice none 0 0, .slice none 0 0, .slice none 0 0] (by rfl) (by rfl) hth (by rw [size11]; rfl) one11 ?_; have key2 := key.out; generalize World.setCells _ _ _ _ = W3 at key2 ⊢; clear key; obtain ⟨f4, os, o4, r4⟩ := key2; have F4 := Lib.hid f4; have OS := Lib.hid os; have O4 := Lib.hid o4; have R4 := Lib.hid r4; clear f4 os o4 r4))
 refine wp_goto (And.intro rfl ?_)
 have HE := Lib.hid (fun W' => Fr2.yes (W' := W') ZA F4.out rfl hbl R4.out O4.out)
 go_wp2_with (refine wpList_store_row (by rfl) _ _ _ (by rfl) w.heap.size ZA (by rfl) (by rfl) 90 ZA F4.out.o (by rw [size12]; rfl) (by rfl) one12 ?_; have HE2 := HE.out _ rfl; generalize World.setRow _ _ _ = W5 at HE2 ⊢; clear HE; obtain ⟨e1, e2, e3, -⟩ := HE2; have E2 := Lib.hid e2; have E3 := Lib.hid e3; obtain ⟨z0, z1, z2, z3, z4, z5, z6, z7, z8, z9, z10, z11⟩ := Bk.twelve e1; clear e1 e2 e3)
 try rw [Exit.last_ret]
 exact bodyPost_ret (v := .tuple #[.agg ZA, .bool false]) (by simp [results, Tryz.results81, go_sem, z0, z1, z2, z3, z4, z5, z6, z7, z8, z9, z10, z11]) rfl ⟨rfl, E2.out, E3.out⟩
theorem arm_b (s : ByteArray) (b p : Nat) (w : World) (x : QT) (q t : Nat) (h1 : rPat s 64 p = .ok x q) (h2 : rCnt s q = .bad t) (hb : Rdb w b s p) (hp : p ≤ s.size) (hs : s.size ≤ 262144) :
 Calls Tryz.prog 81 #[.pointer (some ⟨b, 0, none⟩)] w fun e w' => RdE b s (.agg ZA) (RD Arm.ds) (.bad t) w e w' := by
 have hbl := Bk.lt hb
 have F0 := Lib.hid (Fr2.made w 90 ZA)
 have O0 := Lib.hid (((Only.refl [b] w).alloc (.cells ZA 90)).alloc (.cells ZA 90))
 have hk := term_pat s b p _ (Bk.alloc (Bk.alloc hb (.cells ZA 90)) (.cells ZA 90)) hp hs
 rw [h1] at hk
 have HK := Lib.hid hk
 clear hk
 have HC : Hid (∀ w1, Rdb w1 b s q → q ≤ s.size → Calls Tryz.prog 45 #[.pointer (some ⟨b, 0, none⟩)] w1 fun e w' => RdE b s (.int .i64 0) RI (.bad t) w1 e w') := Lib.hid (fun w1 h hq => h2 ▸ count_rd b s q w1 h hq hs)
 go_enter Tryz.func81, Tryz.ntmps81
 go_wp2_with fail
 refine wp_scope_fwd 0 rfl ?_
 go_wp2_with fail
 (with_reducible refine HK.out.mono ?_)
 rintro e w1 ⟨u, rfl, ⟨us, rfl, hd⟩, g3, g4, g5⟩
 have hsz : us.size = 11 := by rw [← Array.length_toList, DVs.len hd, qds_len]
 obtain ⟨y0, y1, y2, y3, y4, y5, y6, y7, y8, y9, y10, rfl⟩ := eleven_of hsz
 have hu := DVs.one hd (qds_one x)
 have hu1 : (#[y0, y1, y2, y3, y4, y5, y6, y7, y8, y9, y10] : Array Value).all (·.oneCell') = true := by
  rw [Array.all_eq_true']
  intro v hv
  exact hu v (Array.mem_toList_iff.2 hv)
 have HD := Lib.hid hd
 have hw2 := g4.size
 rw [size_al, size_al] at hw2
 have F1 := Lib.hid (F0.out.only g4 hbl)
 have O1 := Lib.hid (O0.out.trans g4 (fun i hi => .inl hi))
 have R1 := Lib.hid g3
 have hth : w1.there (w.heap.size + 1) 0 11 := fun j hj => by
  obtain rfl | rfl | rfl | rfl | rfl | rfl | rfl | rfl | rfl | rfl | rfl : j = 0 ∨ j = 1 ∨ j = 2 ∨ j = 3 ∨ j = 4 ∨ j = 5 ∨ j = 6 ∨ j = 7 ∨ j = 8 ∨ j = 9 ∨ j = 10 := by omega
  all_goals exact ⟨by rw [Bk.cell F1.out.t]; rfl, Bk.free F1.out.t _⟩
 have f2 : Fr2 (w1.setCells (w.heap.size + 1) 0 [y0, y1, y2, y3, y4, y5, y6, y7, y8, y9, y10]) w.heap.size 90 ZA #[y0, y1, y2, y3, y4, y5, y6, y7, y8, y9, y10, .int .i64 0] := by
  have := ((((((((((F1.out.set 0 (y0)).set (0 + 1) (y1)).set (0 + 1 + 1) (y2)).set (0 + 1 + 1 + 1) (y3)).set (0 + 1 + 1 + 1 + 1) (y4)).set (0 + 1 + 1 + 1 + 1 + 1) (y5)).set (0 + 1 + 1 + 1 + 1 + 1 + 1) (y6)).set (0 + 1 + 1 + 1 + 1 + 1 + 1 + 1) (y7)).set (0 + 1 + 1 + 1 + 1 + 1 + 1 + 1 + 1) (y8)).set (0 + 1 + 1 + 1 + 1 + 1 + 1 + 1 + 1 + 1) (y9)).set (0 + 1 + 1 + 1 + 1 + 1 + 1 + 1 + 1 + 1 + 1) (y10)
  simpa [World.setCells] using this
 have o2 : Only [w.heap.size + 1] w1 (w1.setCells (w.heap.size + 1) 0 [y0, y1, y2, y3, y4, y5, y6, y7, y8, y9, y10]) := Only.sets (.inl (by simp)) _ _ (Only.refl _ _)
 have key := Lib.hid (And.intro f2 (And.intro o2 (And.intro (O1.out.trans o2 (fun i hi => .inr (by simp at hi; omega))) (Bk.only R1.out o2 (by simp; omega)))))
 clear f2 o2
 clear g3 g4 hd
 go_wp2_with (first | (refine wpList_store_mid (by rfl) _ _ _ (by rfl) (w.heap.size + 1) 0 #[y0, y1, y2, y3, y4, y5, y6, y7, y8, y9, y10] (by rfl) (by rfl) hth (by rw [size11]; rfl) hu1 ?_; have key2 := key.out; generalize World.setCells _ _ _ _ = W3 at key2 ⊢; clear key; obtain ⟨f4, os, o4, r4⟩ := key2; have F4 := Lib.hid f4; have OS := Lib.hid os; have O4 := Lib.hid o4; have R4 := Lib.hid r4; clear f4 os o4 r4))
 (with_reducible refine (HC.out _ R4.out g5).mono ?_)
 rintro e w2 ⟨rfl, g3, g4⟩
 have F5 := Lib.hid (F4.out.only g4 hbl)
 have f6 : Fr2 (w2.setCell ⟨w.heap.size + 1, 11, none⟩ (.int .i64 0)) w.heap.size 90 ZA #[y0, y1, y2, y3, y4, y5, y6, y7, y8, y9, y10, .int .i64 0] := by simpa using F5.out.set 11 (.int .i64 0)
 have F6 := Lib.hid f6
 have O6 := Lib.hid ((O4.out.trans g4 (fun i hi => .inl hi)).set (p := ⟨w.heap.size + 1, 11, none⟩) (.inr (by show w.heap.size ≤ w.heap.size + 1; omega)) (.int .i64 0))
 have R6 := Lib.hid (Bk.away g3 (p := ⟨w.heap.size + 1, 11, none⟩) (by show b ≠ w.heap.size + 1; omega) (.int .i64 0))
 have x11 := F5.out.t.cell0 (i := 11) rfl
 have k11 := F5.out.t.free 11
 clear g3 g4 f6
 go_wp2_with fail
 refine wp_goto (And.intro rfl ?_)
 have HE := Lib.hid (fun W' => Fr2.yes (W' := W') ZA F6.out rfl hbl R6.out O6.out)
 go_wp2_with (refine wpList_store_row (by rfl) _ _ _ (by rfl) w.heap.size ZA (by rfl) (by rfl) 90 ZA F6.out.o (by rw [size12]; rfl) (by rfl) one12 ?_; have HE2 := HE.out _ rfl; generalize World.setRow _ _ _ = W5 at HE2 ⊢; clear HE; obtain ⟨e1, e2, e3, -⟩ := HE2; have E2 := Lib.hid e2; have E3 := Lib.hid e3; obtain ⟨z0, z1, z2, z3, z4, z5, z6, z7, z8, z9, z10, z11⟩ := Bk.twelve e1; clear e1 e2 e3)
 try rw [Exit.last_ret]
 exact bodyPost_ret (v := .tuple #[.agg ZA, .bool false]) (by simp [results, Tryz.results81, go_sem, z0, z1, z2, z3, z4, z5, z6, z7, z8, z9, z10, z11]) rfl ⟨rfl, E2.out, E3.out⟩
theorem arm_c (s : ByteArray) (b p : Nat) (w : World) (x : QT) (q n t : Nat) (h1 : rPat s 64 p = .ok x q) (h2 : rCnt s q = .ok n t) (hb : Rdb w b s p) (hp : p ≤ s.size) (hs : s.size ≤ 262144) :
 Calls Tryz.prog 81 #[.pointer (some ⟨b, 0, none⟩)] w fun e w' => RdE b s (.agg ZA) (RD Arm.ds) (.ok ⟨x, (n : Int)⟩ t) w e w' := by
 have hbl := Bk.lt hb
 have F0 := Lib.hid (Fr2.made w 90 ZA)
 have O0 := Lib.hid (((Only.refl [b] w).alloc (.cells ZA 90)).alloc (.cells ZA 90))
 have hk := term_pat s b p _ (Bk.alloc (Bk.alloc hb (.cells ZA 90)) (.cells ZA 90)) hp hs
 rw [h1] at hk
 have HK := Lib.hid hk
 clear hk
 have HC : Hid (∀ w1, Rdb w1 b s q → q ≤ s.size → Calls Tryz.prog 45 #[.pointer (some ⟨b, 0, none⟩)] w1 fun e w' => RdE b s (.int .i64 0) RI (.ok n t) w1 e w') := Lib.hid (fun w1 h hq => h2 ▸ count_rd b s q w1 h hq hs)
 go_enter Tryz.func81, Tryz.ntmps81
 go_wp2_with fail
 refine wp_scope_fwd 0 rfl ?_
 go_wp2_with fail
 (with_reducible refine HK.out.mono ?_)
 rintro e w1 ⟨u, rfl, ⟨us, rfl, hd⟩, g3, g4, g5⟩
 have hsz : us.size = 11 := by rw [← Array.length_toList, DVs.len hd, qds_len]
 obtain ⟨y0, y1, y2, y3, y4, y5, y6, y7, y8, y9, y10, rfl⟩ := eleven_of hsz
 have hu := DVs.one hd (qds_one x)
 have hu1 : (#[y0, y1, y2, y3, y4, y5, y6, y7, y8, y9, y10] : Array Value).all (·.oneCell') = true := by
  rw [Array.all_eq_true']
  intro v hv
  exact hu v (Array.mem_toList_iff.2 hv)
 have HD := Lib.hid hd
 have hw2 := g4.size
 rw [size_al, size_al] at hw2
 have F1 := Lib.hid (F0.out.only g4 hbl)
 have O1 := Lib.hid (O0.out.trans g4 (fun i hi => .inl hi))
 have R1 := Lib.hid g3
 have hth : w1.there (w.heap.size + 1) 0 11 := fun j hj => by
  obtain rfl | rfl | rfl | rfl | rfl | rfl | rfl | rfl | rfl | rfl | rfl : j = 0 ∨ j = 1 ∨ j = 2 ∨ j = 3 ∨ j = 4 ∨ j = 5 ∨ j = 6 ∨ j = 7 ∨ j = 8 ∨ j = 9 ∨ j = 10 := by omega
  all_goals exact ⟨by rw [Bk.cell F1.out.t]; rfl, Bk.free F1.out.t _⟩
 have f2 : Fr2 (w1.setCells (w.heap.size + 1) 0 [y0, y1, y2, y3, y4, y5, y6, y7, y8, y9, y10]) w.heap.size 90 ZA #[y0, y1, y2, y3, y4, y5, y6, y7, y8, y9, y10, .int .i64 0] := by
  have := ((((((((((F1.out.set 0 (y0)).set (0 + 1) (y1)).set (0 + 1 + 1) (y2)).set (0 + 1 + 1 + 1) (y3)).set (0 + 1 + 1 + 1 + 1) (y4)).set (0 + 1 + 1 + 1 + 1 + 1) (y5)).set (0 + 1 + 1 + 1 + 1 + 1 + 1) (y6)).set (0 + 1 + 1 + 1 + 1 + 1 + 1 + 1) (y7)).set (0 + 1 + 1 + 1 + 1 + 1 + 1 + 1 + 1) (y8)).set (0 + 1 + 1 + 1 + 1 + 1 + 1 + 1 + 1 + 1) (y9)).set (0 + 1 + 1 + 1 + 1 + 1 + 1 + 1 + 1 + 1 + 1) (y10)
  simpa [World.setCells] using this
 have o2 : Only [w.heap.size + 1] w1 (w1.setCells (w.heap.size + 1) 0 [y0, y1, y2, y3, y4, y5, y6, y7, y8, y9, y10]) := Only.sets (.inl (by simp)) _ _ (Only.refl _ _)
 have key := Lib.hid (And.intro f2 (And.intro o2 (And.intro (O1.out.trans o2 (fun i hi => .inr (by simp at hi; omega))) (Bk.only R1.out o2 (by simp; omega)))))
 clear f2 o2
 clear g3 g4 hd
 go_wp2_with (first | (refine wpList_store_mid (by rfl) _ _ _ (by rfl) (w.heap.size + 1) 0 #[y0, y1, y2, y3, y4, y5, y6, y7, y8, y9, y10] (by rfl) (by rfl) hth (by rw [size11]; rfl) hu1 ?_; have key2 := key.out; generalize World.setCells _ _ _ _ = W3 at key2 ⊢; clear key; obtain ⟨f4, os, o4, r4⟩ := key2; have F4 := Lib.hid f4; have OS := Lib.hid os; have O4 := Lib.hid o4; have R4 := Lib.hid r4; clear f4 os o4 r4))
 (with_reducible refine (HC.out _ R4.out g5).mono ?_)
 rintro e w2 ⟨u, rfl, rfl, g3, g4, g6⟩
 have F5 := Lib.hid (F4.out.only g4 hbl)
 have f6 : Fr2 (w2.setCell ⟨w.heap.size + 1, 11, none⟩ (.int .i64 n)) w.heap.size 90 ZA #[y0, y1, y2, y3, y4, y5, y6, y7, y8, y9, y10, .int .i64 n] := by simpa using F5.out.set 11 (.int .i64 n)
 have F6 := Lib.hid f6
 have O6 := Lib.hid ((O4.out.trans g4 (fun i hi => .inl hi)).set (p := ⟨w.heap.size + 1, 11, none⟩) (.inr (by show w.heap.size ≤ w.heap.size + 1; omega)) (.int .i64 n))
 have R6 := Lib.hid (Bk.away g3 (p := ⟨w.heap.size + 1, 11, none⟩) (by show b ≠ w.heap.size + 1; omega) (.int .i64 n))
 have OT := Lib.hid ((((OS.out.more (T := [w.heap.size + 1, w.heap.size, b]) (by simp)).trans g4 (fun i hi => .inl (by simp at hi; simp [hi]))).set (p := ⟨w.heap.size + 1, 11, none⟩) (.inl (by simp)) (.int .i64 n)))
 have x11 := F5.out.t.cell0 (i := 11) rfl
 have k11 := F5.out.t.free 11
 have hall : (#[y0, y1, y2, y3, y4, y5, y6, y7, y8, y9, y10, .int .i64 n] : Array Value).all (·.oneCell') = true := by
  rw [Array.all_eq_true']
  intro v hv
  simp only [List.mem_toArray, List.mem_cons, List.not_mem_nil, or_false] at hv
  rcases hv with rfl | rfl | rfl | rfl | rfl | rfl | rfl | rfl | rfl | rfl | rfl | rfl <;> first | rfl | exact hu _ (by simp)
 have HE := Lib.hid (fun W' => Fr2.yes (W' := W') #[y0, y1, y2, y3, y4, y5, y6, y7, y8, y9, y10, .int .i64 n] F6.out rfl hbl R6.out O6.out)
 clear g3 g4 f6 hu
 go_wp2_with (first
  | (refine wpList_load_row (by rfl) 90 _ (by rfl) (w.heap.size + 1) (by rfl) 90 #[y0, y1, y2, y3, y4, y5, y6, y7, y8, y9, y10, .int .i64 n] (0, 0) _ F6.out.t Tryz.underlying90 (by rfl) (by rw [size12]; rfl) ?_)
  | (refine wpList_store_row (by rfl) _ _ _ (by rfl) w.heap.size #[y0, y1, y2, y3, y4, y5, y6, y7, y8, y9, y10, .int .i64 n] (by rfl) (by rfl) 90 ZA F6.out.o (by rw [size12]; rfl) (by rfl) hall ?_; have HE2 := HE.out _ rfl; generalize World.setRow _ _ _ = W5 at HE2 ⊢; clear HE; obtain ⟨e1, e2, e3, e4⟩ := HE2; have E2 := Lib.hid e2; have E3 := Lib.hid e3; have E4 := Lib.hid e4; obtain ⟨z0, z1, z2, z3, z4, z5, z6, z7, z8, z9, z10, z11⟩ := Bk.twelve e1; clear e1 e2 e3 e4))
 try rw [Exit.jump_ret]
 refine bodyPost_ret (v := .tuple #[.agg #[y0, y1, y2, y3, y4, y5, y6, y7, y8, y9, y10, .int .i64 n], .bool true]) (by simp [results, Tryz.results81, go_sem, z0, z1, z2, z3, z4, z5, z6, z7, z8, z9, z10, z11]) rfl ⟨_, rfl, ⟨#[y0, y1, y2, y3, y4, y5, y6, y7, y8, y9, y10, .int .i64 n], rfl, ?_⟩, E2.out, E3.out, g6⟩
 have hD := DVs.only (F' := fun g => w.heap.size ≤ g) (OT.out.trans E4.out (fun i hi => .inl (by simp at hi; simp [hi]))) (fun g hg hf => by rw [size_al, size_al] at hf; simp at hg; omega) (fun g hf => by rw [size_al, size_al] at hf; omega) HD.out
 exact DVs.app (l' := [.v (.int .i64 n)]) (vs := [.int .i64 n]) ⟨_, _, rfl, DV.v.2 rfl, rfl⟩ hD
theorem arm_any (s : ByteArray) (b p : Nat) (w : World) (hb : Rdb w b s p) (hp : p ≤ s.size) (hs : s.size ≤ 262144) :
 Calls Tryz.prog 81 #[.pointer (some ⟨b, 0, none⟩)] w fun e w' => RdE b s (.agg ZA) (RD Arm.ds) (rArm s p) w e w' := by
 cases h1 : rPat s 64 p with
 | bad t =>
  have e : rArm s p = .bad t := by unfold rArm; rw [h1]; rfl
  rw [e]
  exact arm_a s b p w t h1 hb hp hs
 | ok x q =>
  cases h2 : rCnt s q with
  | bad t =>
   have e : rArm s p = .bad t := by unfold rArm; rw [h1]; simp only [Rs.bind, h2, Rs.map]
   rw [e]
   exact arm_b s b p w x q t h1 h2 hb hp hs
  | ok n t =>
   have e : rArm s p = .ok ⟨x, (n : Int)⟩ t := by unfold rArm; rw [h1]; simp only [Rs.bind, h2, Rs.map]
   rw [e]
   exact arm_c s b p w x q n t h1 h2 hb hp hs
open Go
structure In where
 op : Int
 a : Int
 b : Int
 t : T
 arms : List Arm
def In.ds (i : In) : List D := [.v (.int .i64 i.op), .v (.int .i64 i.a), .v (.int .i64 i.b)] ++ i.t.ds ++ [.sl i.arms.length (i.arms.flatMap Arm.ds)]
structure Fu where
 name : ByteArray
 params : Int
 locals : Int
 code : List In
def Fu.ds (f : Fu) : List D := [.v (.string f.name), .v (.int .i64 f.params), .v (.int .i64 f.locals), .sl f.code.length (f.code.flatMap In.ds)]
structure Md where
 name : ByteArray
 funcs : List Fu
def Md.ds (m : Md) : List D := [.v (.string m.name), .sl m.funcs.length (m.funcs.flatMap Fu.ds)]
theorem in_len (i : In) : i.ds.length = 11 := by simp [In.ds, ds_len]
theorem fu_len (f : Fu) : f.ds.length = 4 := rfl
inductive Fld where
 | term | a | b | ticks | arms
def fldsOf (op : Nat) : List Fld :=
 if op = 1 then [.term]
 else if op = 3 ∨ op = 4 ∨ op = 5 ∨ op = 17 ∨ op = 18 ∨ op = 19 ∨ op = 25 ∨ op = 26 ∨ op = 28 then [.a]
 else if op = 34 then [.a, .b]
 else if op = 27 then [.a, .arms]
 else if op = 33 then [.a, .ticks, .arms]
 else []
def rFld (s : ByteArray) (i : In) : Fld → Nat → Rs In
 | .term, p => (rTerm s 64 p).map fun t => { i with t := t }
 | .a, p => (rCnt s p).map fun (n : Nat) => { i with a := n }
 | .b, p => (rCnt s p).map fun (n : Nat) => { i with b := n }
 | .ticks, p => (rNum s p).map fun n => { i with b := n }
 | .arms, p => (rSome (rArm s) s p).map fun l => { i with arms := l }
def rFlds (s : ByteArray) : List Fld → In → Nat → Rs In
 | [], i, p => .ok i p
 | f :: r, i, p => (rFld s i f p).bind fun i q => rFlds s r i q
def rIn (s : ByteArray) (p : Nat) : Rs In := (rOne 46 s p).bind fun op q => rFlds s (fldsOf op) ⟨op, 0, 0, .zero, []⟩ q
def rFn (s : ByteArray) (p : Nat) : Rs Fu := (rName s p).bind fun n q => (rCnt s q).bind fun a q => (rCnt s q).bind fun b q => (rSome (rIn s) s q).map fun l => ⟨n, a, b, l⟩
def rMd (s : ByteArray) (p : Nat) : Rs Md := (rName s p).bind fun n q => (rSome (rFn s) s q).map fun l => ⟨n, l⟩
end Go.Proofs.YtcdefnbehlcgeaaGreatDoor
