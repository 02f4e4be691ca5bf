/- The program's reader: as many as the count ahead of them says (carousel/api.Func). The program's reader of a module, given instr's contract. -/
import Derived.Test.YtcdefnbehlcgeaaGreatDoorWg
import Derived.Test.YtcdefnbehlcgeaaGreatDoorWq
set_option maxHeartbeats 4000000
set_option maxRecDepth 20000
set_option linter.unusedSimpArgs false
set_option linter.unusedVariables false
namespace Go.Proofs.YtcdefnbehlcgeaaGreatDoor
open Go.RowKit
abbrev ZF : Array Value := #[.string ⟨#[]⟩, .int .i64 0, .int .i64 0, .slice none 0 0]
theorem infoF : (Tryz.prog.info? 45).map (fun i => (i.size, i.zero)) = some (4, some (.agg ZF)) := by kernel_rfl
theorem infoFb : ((Tryz.prog.info? 45).map (fun i => decide (i.bytes ≤ 1024 ∧ 0 < i.bytes))) = some true := by kernel_rfl
theorem someF_any {α : Type} (ds : α → List D) (hds : ∀ x, (ds x).length = 4) (h1 : ∀ x, ∀ d ∈ ds x, d.One) (F : Nat) (fs cp : Array Value) (one : Nat → Rs α) (b : Nat) (s : ByteArray) (p : Nat) (w : World) (hb : Rdb w b s p) (hp : p ≤ s.size) (hs : s.size ≤ 262144)
 (hE : ∀ (args : Array Value) (w : World), (callFunc F args).run Tryz.prog w = .ok (.enter F args) w)
 (hF : ∀ q w1, q ≤ s.size → Rdb w1 b s q → Only [b] w w1 → Calls Tryz.prog F (fs ++ cp) w1 fun e w' => RdE b s (.agg ZF) (RD ds) (one q) w1 e w') :
 Calls Tryz.prog 20 #[.pointer (some ⟨b, 0, none⟩), .func (.func F) fs cp] w fun e w' => RdE b s (.slice none 0 0) (RL ds) (rSome one s p) w e w' := by
 have HL := Lib.hid (length_any b s p w hb hp hs)
 have HF := Lib.hid hF
 have hbl := Bk.lt hb
 obtain ⟨i0, hi0, hik, hiz⟩ : ∃ i, Tryz.prog.info? 45 = some i ∧ i.size = 4 ∧ i.zero = some (.agg ZF) := by
  have := infoF
  cases h : Tryz.prog.info? 45 with
  | none => rw [h] at this; cases this
  | some i =>
   rw [h] at this
   simp only [Option.map_some, Option.some.injEq, Prod.mk.injEq] at this
   exact ⟨i, rfl, this.1, this.2⟩
 have hib : i0.bytes ≤ 1024 ∧ 0 < i0.bytes := by
  have := infoFb
  rw [hi0] at this
  simpa using this
 cases hr : rLen s p with
 | bad q =>
  have hn : rSome one s p = .bad q := by unfold rSome; rw [hr]; rfl
  rw [hn]
  rw [hr] at HL
  clear hr hn hF
  go_enter Tryz.func20, Tryz.ntmps20
  go_wp2_with fail
  refine wp_scope_fwd 0 rfl ?_
  go_wp2_with fail
  (with_reducible refine HL.out.mono ?_)
  rintro e w1 ⟨rfl, h3, h4⟩
  have H3 := Lib.hid h3
  have H4 := Lib.hid h4
  clear h3 h4
  go_wp2_with fail
  refine wp_goto (And.intro rfl ?_)
  go_wp2_with fail
  try rw [Exit.last_ret]
  go_ret2
  exact ⟨rfl, H3.out, H4.out⟩
 | ok n q0 =>
  obtain ⟨R, hR⟩ : ∃ R, rMany one n q0 = R := ⟨_, rfl⟩
  have hn : rSome one s p = R := by unfold rSome; rw [hr]; exact hR
  obtain ⟨hn1, hq0, -⟩ := rLen_bd hr
  rw [hn]
  rw [hr] at HL
  clear hr hn hF
  go_enter Tryz.func20, Tryz.ntmps20
  go_wp2_with fail
  refine wp_scope_fwd 0 rfl ?_
  go_wp2_with fail
  (with_reducible refine HL.out.mono ?_)
  rintro e w1 ⟨u, rfl, rfl, h3, h4, -⟩
  have H3 := Lib.hid h3
  have H4 := Lib.hid h4
  clear h3 h4
  go_wp2_with fail
  go_loopw [6, 19] (fun lv iv wr => ∃ (xs : List α) (q : Nat), iv = .int .i64 xs.length ∧ xs.length ≤ n ∧ q ≤ s.size ∧ (rMany one (n - xs.length) q).map (fun l => xs ++ l) = R ∧ Rdb wr b s q ∧ Only [b] w wr ∧ OwnD wr w.heap.size (Beh w.heap.size wr lv) 45 4 lv xs.length (xs.flatMap ds)) (fun lv iv _ => n - (intOf iv).toNat)
  case atStart => exact ⟨[], q0, rfl, Nat.zero_le _, hq0, by rw [← hR]; simp [Rs.map, Rs.bind]; cases rMany one n q0 <;> rfl, H3.out, H4.out, OwnD.nil _ _ _ _ _⟩
  case round =>
   obtain ⟨xs, q, rfl, hxn, hq, hRR, hRb, hO, hOwn⟩ := hrel
   have KR := Lib.hid hRR
   have KB := Lib.hid hRb
   have KO := Lib.hid hO
   have KD := Lib.hid hOwn
   clear hR hRR hRb hO hOwn
   by_cases hlt : xs.length < n
   ·have hl' : (xs.length : Int) < (n : Int) := by omega
    have hrm : rMany one (n - xs.length) q = (one q).bind fun x q => (rMany one (n - (xs.length + 1)) q).bind fun l r => .ok (x :: l) r := by
     rw [show n - xs.length = (n - (xs.length + 1)) + 1 by omega]
     rfl
    rw [hrm] at KR
    clear hrm
    go_wp2_with fail
    (with_reducible refine (HF.out q _ hq KB.out KO.out).mono ?_)
    intro e w2 h
    cases ho : one q with
    | bad t =>
     rw [ho] at h KR
     obtain ⟨rfl, h3, h4⟩ := h
     have K3 := Lib.hid h3
     have K4 := Lib.hid (KO.out.trans h4 (fun i hi => .inl hi))
     have hlt2 := Bk.lt h3
     have hz1 : (ZF).all (·.oneCell') = true := by simp [Value.oneCell']
     have HM := Lib.hid (setRow_made w2 45 ZF ZF)
     clear h3 h4 ho
     go_wp2_with (refine wpList_store_row (by rfl) _ _ _ (by rfl) w2.heap.size ZF (by rfl) (by rfl) 45 ZF (Bk.made w2 _ _) (by rw [hi0]; simp [hik]) (by rfl) hz1 ?_; have HM2 := HM.out; generalize World.setRow _ _ _ = W3 at HM2 ⊢; clear HM; obtain ⟨B3, O3, S3⟩ := HM2)
     refine wp_goto (And.intro rfl ?_)
     go_wp2_with fail
     try rw [Exit.last_ret]
     go_ret2
     have hre : R = .bad t := by rw [← KR.out]; rfl
     rw [hre]
     exact ⟨rfl, Bk.only K3.out O3 (by simp), K4.out.trans O3 (by simp)⟩
    | ok x t =>
     rw [ho] at h KR
     obtain ⟨u, rfl, ⟨us, rfl, hd⟩, h3, h4, h5⟩ := h
     have husz : us.size = 4 := by rw [← Array.length_toList, DVs.len hd, hds]
     have hu1 : us.all (·.oneCell') = true := by
      rw [Array.all_eq_true']
      intro v hv
      exact DVs.one hd (h1 x) v (Array.mem_toList_iff.2 hv)
     have K3 := Lib.hid h3
     have K4 := Lib.hid (KO.out.trans h4 (fun i hi => .inl hi))
     have KU := Lib.hid hd
     have HM := Lib.hid (setRow_made w2 45 ZF us)
     have K42 := Lib.hid h4
     have hus1 : ∀ u ∈ us.toList, u.oneCell' = true := DVs.one hd (h1 x)
     have hsz2 := h4.size
     have hsz1 := KO.out.size
     have hvr : ∀ g, u6.ownBlock = some g → g < wr.heap.size := by
      obtain ⟨xsC, hrow, -⟩ := KD.out.row
      exact fun g hg => (Row.block hrow hg).2
     have hfill : ∀ (k : Nat) (zs : Array Value) (ps : List (Nat × Value)), k = 4 → zs.size = k → ps = [(0, .agg us)] → Instr.fill (fun i => some (i * k, k)) zs ps = some us := fun k zs ps hk hz hp => by subst hk hp; exact fill_row hz husz
     clear h3 h4 ho hd
     go_wp2_with (first
      | (refine wpList_store_row (by rfl) _ _ _ (by rfl) w2.heap.size us (by rfl) (by rfl) 45 ZF (Bk.made w2 _ _) (by rw [hi0, husz]; simp [hik]) (by rw [husz]; rfl) hu1 ?_; have HM2 := HM.out; generalize World.setRow _ _ _ = W3 at HM2 ⊢; clear HM; obtain ⟨B3, O3, -⟩ := HM2)
      | (refine wpList_load_row (by rfl) 45 _ (by rfl) w2.heap.size (by rfl) 45 us (0, 0) _ B3 Tryz.underlying45 (by rfl) (by rw [hi0, husz]; simp [hik]) ?_)
      | (refine wpList_buildSlice (by rfl) 22 45 1 _ (by rfl) us i0 (.agg ZF) Tryz.underlying22 hi0 hiz (by rw [hik]; decide) (by rw [hik]; decide) (hfill _ _ _ hik (by simp) (by simp only [List.map_toArray, List.map_cons, List.map_nil]; rfl)) ?_)
      | (have o4 : Only [] w2 (W3.alloc (.cells us 45)) := O3.alloc _
         have hsz4 := o4.size
         have hnews := row_at (Bk.made W3 45 us)
         obtain ⟨xsC, hdv, hrow⟩ := Beh.cells hbl KD.out (K42.out.trans o4 (by simp))
         refine wpList_append_lies _ (by rfl) _ _ 22 (by rfl) w.heap.size 45 i0 (.agg ZF) 4 i0.bytes Tryz.underlying22 hi0 hiz hik rfl (by rfl) (by decide) u6 xs.length xsC (by rfl) hrow ⟨W3.heap.size, 0, none⟩ 1 1 us.toList (by rfl) (by rw [Array.length_toList, husz]) hnews hus1 (by decide) (by unfold maxLen; omega) (Nat.le_trans (Nat.mul_le_mul (show xs.length + 1 ≤ 262144 by omega) hib.1) (by decide)) (by omega) _ rfl (fun g cap w5 hr hgrow hat hlt5 => ?_)
         have OD := Lib.hid (own_step (ds := ds) (x := x) KU.out hsz1 o4 hvr hdv hr hgrow hat)
         have o5 : Only u6.ownBlock.toList w2 w5 := (o4.more (by simp)).trans (Only.of_grown hgrow) (fun i hi => .inl hi)
         have hne : u6.ownBlock ≠ some b := fun hv => by
          obtain ⟨xs1, hrow1, -⟩ := KD.out.row
          have := (Row.block hrow1 hv).1
          omega
         have K5 := Lib.hid (Bk.only K3.out o5 (by simpa using hne))
         have K6 := Lib.hid (K4.out.trans o5 (fun i hi => .inr (by
          obtain ⟨xs1, hrow1, -⟩ := KD.out.row
          exact (Row.block hrow1 (by simpa using hi)).1)))
         clear o4 hnews hdv hrow hr hgrow hat o5))
     go_roundw
     case rel =>
      refine ⟨xs ++ [x], t, by simp, by simp; omega, h5, ?_, K5.out, K6.out, by simpa using OD.out⟩
      rw [← KR.out]
      simp only [Rs.map, Rs.bind, List.length_append, List.length_cons, List.length_nil]
      cases rMany one (n - (xs.length + 1)) t <;> simp
     case measure =>
      simp [intOf]
      omega
   ·have hl' : ¬ (xs.length : Int) < (n : Int) := by omega
    have hre : R = .ok xs q := by rw [← KR.out, show n - xs.length = 0 by omega]; simp [rMany, Rs.map, Rs.bind]
    go_wp2_with fail
    try rw [Exit.jump_ret]
    go_ret2
    rw [hre]
    refine ⟨_, rfl, DV.more ?_ (KD.out.done (flatD_len hds xs)), KB.out, KO.out, hq⟩
    intro g hg
    rcases hg with hg | hg
    ·exact hg.1
    ·obtain ⟨us, hrw, -⟩ := KD.out.row
     exact (Row.block hrw hg).1
open Go.RowKit
def isMod (s : ByteArray) : Bool := decide ((⟨#[67, 82, 77, 49]⟩ : ByteArray).size ≤ s.size) && ((s.extract 0 (⟨#[67, 82, 77, 49]⟩ : ByteArray).size).toList == (⟨#[67, 82, 77, 49]⟩ : ByteArray).toList)
def rMod (s : ByteArray) : Rs Md := if isMod s = true then rMd s 4 else .bad 0
theorem isMod_size {s : ByteArray} (h : isMod s = true) : 4 ≤ s.size := by
 unfold isMod at h
 rw [Bool.and_eq_true] at h
 exact of_decide_eq_true h.1
theorem fu_one (f : Fu) : ∀ d ∈ f.ds, d.One := by
 intro d hd
 simp only [Fu.ds, List.mem_cons, List.not_mem_nil, or_false] at hd
 rcases hd with rfl | rfl | rfl | rfl <;> first | rfl | trivial
abbrev ZM : Array Value := #[.string ⟨#[]⟩, .slice none 0 0]
theorem size2 : (Tryz.prog.info? 24).map (·.size) = some 2 := by kernel_rfl
theorem one2 : ZM.all (·.oneCell') = true := by simp [Value.oneCell']
theorem enter_fn (args : Array Value) (w : World) : (callFunc 21 args).run Tryz.prog w = .ok (.enter 21 args) w := by kernel_rfl
theorem pre_mod (s : ByteArray) (w : World) (hs : s.size ≤ 262144) : Calls Tryz.prog 18 #[.string s, .string ⟨#[67, 82, 77, 49]⟩] w fun e w' => e = .returned (.bool (isMod s)) ∧ w = w' := pre_any s ⟨#[67, 82, 77, 49]⟩ w hs (by decide)
theorem mod_h (s : ByteArray) (ok : InOk s) (b : Nat) (w : World) (hm : isMod s = false) (hb : Rdb w b s 0) (hs : s.size ≤ 262144) :
 Calls Tryz.prog 8 #[.pointer (some ⟨b, 0, none⟩)] w fun e w' => RdE b s (.agg ZM) (RD Md.ds) (.bad 0) w e w' := by
 have hbl := Bk.lt hb
 have F0 := Lib.hid (Fr2.made w 24 ZM)
 have O0 := Lib.hid (((Only.refl [b] w).alloc (.cells ZM 24)).alloc (.cells ZM 24))
 have R0 := Lib.hid (Bk.alloc (Bk.alloc hb (.cells ZM 24)) (.cells ZM 24))
 have s0 : w.heap.size + 1 < ((w.alloc (.cells ZM 24)).alloc (.cells ZM 24)).heap.size := Bk.lt F0.out.t
 have c0 : ((w.alloc (.cells #[.string ⟨#[]⟩, .slice none 0 0] 24)).alloc (.cells #[.string ⟨#[]⟩, .slice none 0 0] 24)).cell? ⟨b, 0, none⟩ = some (.string s) := R0.out.cell0 (i := 0) rfl
 have c1 : ((w.alloc (.cells #[.string ⟨#[]⟩, .slice none 0 0] 24)).alloc (.cells #[.string ⟨#[]⟩, .slice none 0 0] 24)).cell? ⟨b, 1, none⟩ = some (.int .i64 0) := R0.out.cell0 (i := 1) rfl
 have d1 : ((w.alloc (.cells #[.string ⟨#[]⟩, .slice none 0 0] 24)).alloc (.cells #[.string ⟨#[]⟩, .slice none 0 0] 24)).frozen? ⟨b, 1, none⟩ = false := R0.out.free 1
 have HP := Lib.hid (fun w => pre_mod s w hs)
 rw [hm] at HP
 go_enter Tryz.func8, Tryz.ntmps8
 go_wp2_with fail
 refine wp_scope_fwd 0 rfl ?_
 go_wp2_with fail
 (with_reducible refine (HP.out _).mono ?_)
 rintro e w0 ⟨rfl, rfl⟩
 go_wp2_with fail
 refine wp_goto (And.intro rfl ?_)
 have HE := Lib.hid (fun W' => Fr2.yes (W' := W') ZM F0.out rfl hbl R0.out O0.out)
 go_wp2_with (refine wpList_store_row (by rfl) _ _ _ (by rfl) w.heap.size ZM (by rfl) (by rfl) 24 ZM F0.out.o (by rw [size2]; rfl) (by rfl) one2 ?_; have HE2 := HE.out _ rfl; generalize World.setRow _ _ _ = W5 at HE2 ⊢; clear HE; obtain ⟨e1, e2, e3, -⟩ := HE2; have E2 := Lib.hid e2; have E3 := Lib.hid e3; obtain ⟨z0, z1⟩ := Bk.two' e1; clear e1 e2 e3)
 try rw [Exit.last_ret]
 exact bodyPost_ret (v := .tuple #[.agg ZM, .bool false]) (by simp [results, Tryz.results8, go_sem, z0, z1]) rfl ⟨rfl, E2.out, E3.out⟩
theorem mod_0 (s : ByteArray) (ok : InOk s) (b : Nat) (w : World) (t : Nat) (hm : isMod s = true) (h0 : rName s 4 = .bad t) (hb : Rdb w b s 0) (hs : s.size ≤ 262144) :
 Calls Tryz.prog 8 #[.pointer (some ⟨b, 0, none⟩)] w fun e w' => RdE b s (.agg ZM) (RD Md.ds) (.bad t) w e w' := by
 have hbl := Bk.lt hb
 have F00 := Lib.hid (Fr2.made w 24 ZM)
 have O00 := Lib.hid (((Only.refl [b] w).alloc (.cells ZM 24)).alloc (.cells ZM 24))
 have R00 := Lib.hid (Bk.alloc (Bk.alloc hb (.cells ZM 24)) (.cells ZM 24))
 have s0 : w.heap.size + 1 < ((w.alloc (.cells ZM 24)).alloc (.cells ZM 24)).heap.size := Bk.lt F00.out.t
 have c0 : ((w.alloc (.cells #[.string ⟨#[]⟩, .slice none 0 0] 24)).alloc (.cells #[.string ⟨#[]⟩, .slice none 0 0] 24)).cell? ⟨b, 0, none⟩ = some (.string s) := R00.out.cell0 (i := 0) rfl
 have c1 : ((w.alloc (.cells #[.string ⟨#[]⟩, .slice none 0 0] 24)).alloc (.cells #[.string ⟨#[]⟩, .slice none 0 0] 24)).cell? ⟨b, 1, none⟩ = some (.int .i64 0) := R00.out.cell0 (i := 1) rfl
 have d1 : ((w.alloc (.cells #[.string ⟨#[]⟩, .slice none 0 0] 24)).alloc (.cells #[.string ⟨#[]⟩, .slice none 0 0] 24)).frozen? ⟨b, 1, none⟩ = false := R00.out.free 1
 have HP := Lib.hid (fun w => pre_mod s w hs)
 rw [hm] at HP
 go_enter Tryz.func8, Tryz.ntmps8
 go_wp2_with fail
 refine wp_scope_fwd 0 rfl ?_
 go_wp2_with fail
 (with_reducible refine (HP.out _).mono ?_)
 rintro e w0 ⟨rfl, rfl⟩
 go_wp2_with fail
 clear c0 c1 d1
 have h4 := isMod_size hm
 have f0 : Fr2 (((w.setCell ⟨b, 1, none⟩ (.int .i64 4)).alloc (.cells ZM 24)).alloc (.cells ZM 24)) w.heap.size 24 ZM ZM := by
  have := Fr2.made (w.setCell ⟨b, 1, none⟩ (.int .i64 4)) 24 ZM
  rwa [show (w.setCell ⟨b, 1, none⟩ (.int .i64 4)).heap.size = w.heap.size by simp [World.setCell]] at this
 have r0 : Rdb (((w.setCell ⟨b, 1, none⟩ (.int .i64 4)).alloc (.cells ZM 24)).alloc (.cells ZM 24)) b s 4 := Bk.alloc (Bk.alloc (Bk.set hb 1 (.int .i64 4)) _) _
 have F0 := Lib.hid f0
 have R0 := Lib.hid r0
 have O0 := Lib.hid ((((Only.refl [b] w).set (p := ⟨b, 1, none⟩) (.inl (by simp)) (.int .i64 4)).alloc (.cells ZM 24)).alloc (.cells ZM 24))
 clear f0 r0
 have HK := name_any b s 4 _ R0.out h4 hs
 rw [h0] at HK
 have HK := Lib.hid HK
 go_wp2_with fail
 (with_reducible refine HK.out.mono ?_)
 rintro e w1 ⟨rfl, g3, g4⟩
 have F1 := Lib.hid (F0.out.only g4 hbl)
 have f : Fr2 (w1.setCell ⟨w.heap.size + 1, 0, none⟩ (.string ⟨#[]⟩)) w.heap.size 24 ZM #[.string ⟨#[]⟩, .slice none 0 0] := by simpa using F1.out.set 0 (.string ⟨#[]⟩)
 have F2 := Lib.hid f
 have O2 := Lib.hid ((O0.out.trans g4 (fun i hi => .inl hi)).set (p := ⟨w.heap.size + 1, 0, none⟩) (.inr (by show w.heap.size ≤ w.heap.size + 1; omega)) (.string ⟨#[]⟩))
 have R2 := Lib.hid (Bk.away g3 (p := ⟨w.heap.size + 1, 0, none⟩) (by show b ≠ w.heap.size + 1; omega) (.string ⟨#[]⟩))
 have s3 : w.heap.size + 1 < (w1.setCell ⟨w.heap.size + 1, 0, none⟩ (.string ⟨#[]⟩)).heap.size := Bk.lt f.t
 obtain ⟨x0, x1⟩ := Bk.two' (F1.out).t
 have k0 := (F1.out).t.free 0
 have k1 := (F1.out).t.free 1
 clear g3 g4 f HK
 go_wp2_with fail
 refine wp_goto (And.intro rfl ?_)
 have HE := Lib.hid (fun W' => Fr2.yes (W' := W') ZM F2.out rfl hbl R2.out O2.out)
 go_wp2_with (refine wpList_store_row (by rfl) _ _ _ (by rfl) w.heap.size ZM (by rfl) (by rfl) 24 ZM F2.out.o (by rw [size2]; rfl) (by rfl) one2 ?_; have HE2 := HE.out _ rfl; generalize World.setRow _ _ _ = W5 at HE2 ⊢; clear HE; obtain ⟨e1, e2, e3, -⟩ := HE2; have E2 := Lib.hid e2; have E3 := Lib.hid e3; obtain ⟨z0, z1⟩ := Bk.two' e1; clear e1 e2 e3)
 try rw [Exit.last_ret]
 exact bodyPost_ret (v := .tuple #[.agg ZM, .bool false]) (by simp [results, Tryz.results8, go_sem, z0, z1]) rfl ⟨rfl, E2.out, E3.out⟩
theorem mod_1 (s : ByteArray) (ok : InOk s) (b : Nat) (w : World) (n : ByteArray) (q1 : Nat) (t : Nat) (hm : isMod s = true) (h0 : rName s 4 = .ok n q1) (h1 : rSome (rFn s) s q1 = .bad t) (hb : Rdb w b s 0) (hs : s.size ≤ 262144) :
 Calls Tryz.prog 8 #[.pointer (some ⟨b, 0, none⟩)] w fun e w' => RdE b s (.agg ZM) (RD Md.ds) (.bad t) w e w' := by
 have hbl := Bk.lt hb
 have F00 := Lib.hid (Fr2.made w 24 ZM)
 have O00 := Lib.hid (((Only.refl [b] w).alloc (.cells ZM 24)).alloc (.cells ZM 24))
 have R00 := Lib.hid (Bk.alloc (Bk.alloc hb (.cells ZM 24)) (.cells ZM 24))
 have s0 : w.heap.size + 1 < ((w.alloc (.cells ZM 24)).alloc (.cells ZM 24)).heap.size := Bk.lt F00.out.t
 have c0 : ((w.alloc (.cells #[.string ⟨#[]⟩, .slice none 0 0] 24)).alloc (.cells #[.string ⟨#[]⟩, .slice none 0 0] 24)).cell? ⟨b, 0, none⟩ = some (.string s) := R00.out.cell0 (i := 0) rfl
 have c1 : ((w.alloc (.cells #[.string ⟨#[]⟩, .slice none 0 0] 24)).alloc (.cells #[.string ⟨#[]⟩, .slice none 0 0] 24)).cell? ⟨b, 1, none⟩ = some (.int .i64 0) := R00.out.cell0 (i := 1) rfl
 have d1 : ((w.alloc (.cells #[.string ⟨#[]⟩, .slice none 0 0] 24)).alloc (.cells #[.string ⟨#[]⟩, .slice none 0 0] 24)).frozen? ⟨b, 1, none⟩ = false := R00.out.free 1
 have HP := Lib.hid (fun w => pre_mod s w hs)
 rw [hm] at HP
 go_enter Tryz.func8, Tryz.ntmps8
 go_wp2_with fail
 refine wp_scope_fwd 0 rfl ?_
 go_wp2_with fail
 (with_reducible refine (HP.out _).mono ?_)
 rintro e w0 ⟨rfl, rfl⟩
 go_wp2_with fail
 clear c0 c1 d1
 have h4 := isMod_size hm
 have f0 : Fr2 (((w.setCell ⟨b, 1, none⟩ (.int .i64 4)).alloc (.cells ZM 24)).alloc (.cells ZM 24)) w.heap.size 24 ZM ZM := by
  have := Fr2.made (w.setCell ⟨b, 1, none⟩ (.int .i64 4)) 24 ZM
  rwa [show (w.setCell ⟨b, 1, none⟩ (.int .i64 4)).heap.size = w.heap.size by simp [World.setCell]] at this
 have r0 : Rdb (((w.setCell ⟨b, 1, none⟩ (.int .i64 4)).alloc (.cells ZM 24)).alloc (.cells ZM 24)) b s 4 := Bk.alloc (Bk.alloc (Bk.set hb 1 (.int .i64 4)) _) _
 have F0 := Lib.hid f0
 have R0 := Lib.hid r0
 have O0 := Lib.hid ((((Only.refl [b] w).set (p := ⟨b, 1, none⟩) (.inl (by simp)) (.int .i64 4)).alloc (.cells ZM 24)).alloc (.cells ZM 24))
 clear f0 r0
 have HK := name_any b s 4 _ R0.out h4 hs
 rw [h0] at HK
 have HK := Lib.hid HK
 go_wp2_with fail
 (with_reducible refine HK.out.mono ?_)
 rintro e w1 ⟨u, rfl, rfl, g3, g4, g5⟩
 have F1 := Lib.hid (F0.out.only g4 hbl)
 have f : Fr2 (w1.setCell ⟨w.heap.size + 1, 0, none⟩ (.string n)) w.heap.size 24 ZM #[.string n, .slice none 0 0] := by simpa using F1.out.set 0 (.string n)
 have F2 := Lib.hid f
 have O2 := Lib.hid ((O0.out.trans g4 (fun i hi => .inl hi)).set (p := ⟨w.heap.size + 1, 0, none⟩) (.inr (by show w.heap.size ≤ w.heap.size + 1; omega)) (.string n))
 have R2 := Lib.hid (Bk.away g3 (p := ⟨w.heap.size + 1, 0, none⟩) (by show b ≠ w.heap.size + 1; omega) (.string n))
 have s3 : w.heap.size + 1 < (w1.setCell ⟨w.heap.size + 1, 0, none⟩ (.string n)).heap.size := Bk.lt f.t
 obtain ⟨x0, x1⟩ := Bk.two' (F1.out).t
 have k0 := (F1.out).t.free 0
 have k1 := (F1.out).t.free 1
 clear g3 g4 f HK
 have HK := someF_any Fu.ds fu_len fu_one 21 #[.pointer (some ⟨b, 0, none⟩)] #[] (rFn s) b s q1 _ R2.out g5 hs enter_fn (fun q' w' hq' hb' ho' => fn_any s ok b q' w' hb' hq' hs)
 rw [h1] at HK
 have HK := Lib.hid HK
 go_wp2_with fail
 clear x0 x1 k0 k1
 (with_reducible refine HK.out.mono ?_)
 rintro e w2 ⟨rfl, g3, g4⟩
 have F3 := Lib.hid (F2.out.only g4 hbl)
 have f : Fr2 (w2.setCell ⟨w.heap.size + 1, 1, none⟩ (.slice none 0 0)) w.heap.size 24 ZM #[.string n, .slice none 0 0] := by simpa using F3.out.set 1 (.slice none 0 0)
 have F4 := Lib.hid f
 have O4 := Lib.hid ((O2.out.trans g4 (fun i hi => .inl hi)).set (p := ⟨w.heap.size + 1, 1, none⟩) (.inr (by show w.heap.size ≤ w.heap.size + 1; omega)) (.slice none 0 0))
 have R4 := Lib.hid (Bk.away g3 (p := ⟨w.heap.size + 1, 1, none⟩) (by show b ≠ w.heap.size + 1; omega) (.slice none 0 0))
 obtain ⟨x0, x1⟩ := Bk.two' (F3.out).t
 have k0 := (F3.out).t.free 0
 have k1 := (F3.out).t.free 1
 clear g3 g4 f HK
 go_wp2_with fail
 refine wp_goto (And.intro rfl ?_)
 have HE := Lib.hid (fun W' => Fr2.yes (W' := W') ZM F4.out rfl hbl R4.out O4.out)
 go_wp2_with (refine wpList_store_row (by rfl) _ _ _ (by rfl) w.heap.size ZM (by rfl) (by rfl) 24 ZM F4.out.o (by rw [size2]; rfl) (by rfl) one2 ?_; have HE2 := HE.out _ rfl; generalize World.setRow _ _ _ = W5 at HE2 ⊢; clear HE; obtain ⟨e1, e2, e3, -⟩ := HE2; have E2 := Lib.hid e2; have E3 := Lib.hid e3; obtain ⟨z0, z1⟩ := Bk.two' e1; clear e1 e2 e3)
 try rw [Exit.last_ret]
 exact bodyPost_ret (v := .tuple #[.agg ZM, .bool false]) (by simp [results, Tryz.results8, go_sem, z0, z1]) rfl ⟨rfl, E2.out, E3.out⟩
theorem mod_2 (s : ByteArray) (ok : InOk s) (b : Nat) (w : World) (n : ByteArray) (q1 : Nat) (l : List Fu) (q2 : Nat) (hm : isMod s = true) (h0 : rName s 4 = .ok n q1) (h1 : rSome (rFn s) s q1 = .ok l q2) (hb : Rdb w b s 0) (hs : s.size ≤ 262144) :
 Calls Tryz.prog 8 #[.pointer (some ⟨b, 0, none⟩)] w fun e w' => RdE b s (.agg ZM) (RD Md.ds) (.ok ⟨n, l⟩ q2) w e w' := by
 have hbl := Bk.lt hb
 have F00 := Lib.hid (Fr2.made w 24 ZM)
 have O00 := Lib.hid (((Only.refl [b] w).alloc (.cells ZM 24)).alloc (.cells ZM 24))
 have R00 := Lib.hid (Bk.alloc (Bk.alloc hb (.cells ZM 24)) (.cells ZM 24))
 have s0 : w.heap.size + 1 < ((w.alloc (.cells ZM 24)).alloc (.cells ZM 24)).heap.size := Bk.lt F00.out.t
 have c0 : ((w.alloc (.cells #[.string ⟨#[]⟩, .slice none 0 0] 24)).alloc (.cells #[.string ⟨#[]⟩, .slice none 0 0] 24)).cell? ⟨b, 0, none⟩ = some (.string s) := R00.out.cell0 (i := 0) rfl
 have c1 : ((w.alloc (.cells #[.string ⟨#[]⟩, .slice none 0 0] 24)).alloc (.cells #[.string ⟨#[]⟩, .slice none 0 0] 24)).cell? ⟨b, 1, none⟩ = some (.int .i64 0) := R00.out.cell0 (i := 1) rfl
 have d1 : ((w.alloc (.cells #[.string ⟨#[]⟩, .slice none 0 0] 24)).alloc (.cells #[.string ⟨#[]⟩, .slice none 0 0] 24)).frozen? ⟨b, 1, none⟩ = false := R00.out.free 1
 have HP := Lib.hid (fun w => pre_mod s w hs)
 rw [hm] at HP
 go_enter Tryz.func8, Tryz.ntmps8
 go_wp2_with fail
 refine wp_scope_fwd 0 rfl ?_
 go_wp2_with fail
 (with_reducible refine (HP.out _).mono ?_)
 rintro e w0 ⟨rfl, rfl⟩
 go_wp2_with fail
 clear c0 c1 d1
 have h4 := isMod_size hm
 have f0 : Fr2 (((w.setCell ⟨b, 1, none⟩ (.int .i64 4)).alloc (.cells ZM 24)).alloc (.cells ZM 24)) w.heap.size 24 ZM ZM := by
  have := Fr2.made (w.setCell ⟨b, 1, none⟩ (.int .i64 4)) 24 ZM
  rwa [show (w.setCell ⟨b, 1, none⟩ (.int .i64 4)).heap.size = w.heap.size by simp [World.setCell]] at this
 have r0 : Rdb (((w.setCell ⟨b, 1, none⟩ (.int .i64 4)).alloc (.cells ZM 24)).alloc (.cells ZM 24)) b s 4 := Bk.alloc (Bk.alloc (Bk.set hb 1 (.int .i64 4)) _) _
 have F0 := Lib.hid f0
 have R0 := Lib.hid r0
 have O0 := Lib.hid ((((Only.refl [b] w).set (p := ⟨b, 1, none⟩) (.inl (by simp)) (.int .i64 4)).alloc (.cells ZM 24)).alloc (.cells ZM 24))
 clear f0 r0
 have HK := name_any b s 4 _ R0.out h4 hs
 rw [h0] at HK
 have HK := Lib.hid HK
 go_wp2_with fail
 (with_reducible refine HK.out.mono ?_)
 rintro e w1 ⟨u, rfl, rfl, g3, g4, g5⟩
 have F1 := Lib.hid (F0.out.only g4 hbl)
 have f : Fr2 (w1.setCell ⟨w.heap.size + 1, 0, none⟩ (.string n)) w.heap.size 24 ZM #[.string n, .slice none 0 0] := by simpa using F1.out.set 0 (.string n)
 have F2 := Lib.hid f
 have O2 := Lib.hid ((O0.out.trans g4 (fun i hi => .inl hi)).set (p := ⟨w.heap.size + 1, 0, none⟩) (.inr (by show w.heap.size ≤ w.heap.size + 1; omega)) (.string n))
 have R2 := Lib.hid (Bk.away g3 (p := ⟨w.heap.size + 1, 0, none⟩) (by show b ≠ w.heap.size + 1; omega) (.string n))
 have s3 : w.heap.size + 1 < (w1.setCell ⟨w.heap.size + 1, 0, none⟩ (.string n)).heap.size := Bk.lt f.t
 obtain ⟨x0, x1⟩ := Bk.two' (F1.out).t
 have k0 := (F1.out).t.free 0
 have k1 := (F1.out).t.free 1
 clear g3 g4 f HK
 have HK := someF_any Fu.ds fu_len fu_one 21 #[.pointer (some ⟨b, 0, none⟩)] #[] (rFn s) b s q1 _ R2.out g5 hs enter_fn (fun q' w' hq' hb' ho' => fn_any s ok b q' w' hb' hq' hs)
 rw [h1] at HK
 have HK := Lib.hid HK
 go_wp2_with fail
 clear x0 x1 k0 k1
 (with_reducible refine HK.out.mono ?_)
 rintro e w2 ⟨u, rfl, hu, g3, g4, g6⟩
 have KU := Lib.hid hu
 unfold RL at hu
 simp only [DV] at hu
 obtain ⟨A, cap, rfl, -⟩ := hu
 have F3 := Lib.hid (F2.out.only g4 hbl)
 have f : Fr2 (w2.setCell ⟨w.heap.size + 1, 1, none⟩ (.slice A l.length cap)) w.heap.size 24 ZM #[.string n, .slice A l.length cap] := by simpa using F3.out.set 1 (.slice A l.length cap)
 have F4 := Lib.hid f
 have O4 := Lib.hid ((O2.out.trans g4 (fun i hi => .inl hi)).set (p := ⟨w.heap.size + 1, 1, none⟩) (.inr (by show w.heap.size ≤ w.heap.size + 1; omega)) (.slice A l.length cap))
 have R4 := Lib.hid (Bk.away g3 (p := ⟨w.heap.size + 1, 1, none⟩) (by show b ≠ w.heap.size + 1; omega) (.slice A l.length cap))
 have OV := Lib.hid ((Only.refl [w.heap.size + 1, w.heap.size] w2).set (p := ⟨w.heap.size + 1, 1, none⟩) (.inl (by simp)) (.slice A l.length cap))
 obtain ⟨x0, x1⟩ := Bk.two' (F3.out).t
 have k0 := (F3.out).t.free 0
 have k1 := (F3.out).t.free 1
 clear g3 g4 f HK
 have HE := Lib.hid (fun W' => Fr2.yes (W' := W') #[.string n, .slice A l.length cap] F4.out rfl hbl R4.out O4.out)
 go_wp2_with (first
  | (refine wpList_load_row (by rfl) 24 _ (by rfl) (w.heap.size + 1) (by rfl) 24 #[.string n, .slice A l.length cap] (0, 0) _ F4.out.t Tryz.underlying24 (by rfl) (by rw [size2]; rfl) ?_)
  | (refine wpList_store_row (by rfl) _ _ _ (by rfl) w.heap.size #[.string n, .slice A l.length cap] (by rfl) (by rfl) 24 ZM F4.out.o (by rw [size2]; rfl) (by rfl) (by simp [Value.oneCell']) ?_; have HE2 := HE.out _ rfl; generalize World.setRow _ _ _ = W5 at HE2 ⊢; clear HE; obtain ⟨e1, e2, e3, e4⟩ := HE2; have E2 := Lib.hid e2; have E3 := Lib.hid e3; have E4 := Lib.hid e4; obtain ⟨z0, z1⟩ := Bk.two' e1; clear e1 e2 e3 e4))
 try rw [Exit.jump_ret]
 refine bodyPost_ret (v := .tuple #[.agg #[.string n, .slice A l.length cap], .bool true]) (by simp [results, Tryz.results8, go_sem, z0, z1]) rfl ⟨_, rfl, ⟨#[.string n, .slice A l.length cap], rfl, ?_⟩, E2.out, E3.out, g6⟩
 have hD := DV.only (F' := fun g => w.heap.size ≤ g) (OV.out.trans E4.out (fun i hi => .inl (by simp at hi; simp [hi]))) (fun g hg hf => by simp at hg; omega) (fun g hf => by omega) _ _ KU.out
 exact ⟨_, _, rfl, DV.v.2 rfl, _, _, rfl, hD, rfl⟩
theorem mod_any (s : ByteArray) (ok : InOk s) (b : Nat) (w : World) (hb : Rdb w b s 0) (hs : s.size ≤ 262144) :
 Calls Tryz.prog 8 #[.pointer (some ⟨b, 0, none⟩)] w fun e w' => RdE b s (.agg ZM) (RD Md.ds) (rMod s) w e w' := by
 unfold rMod
 cases hm : isMod s with
 | false =>
  rw [if_neg (by decide)]
  exact mod_h s ok b w hm hb hs
 | true =>
  rw [if_pos rfl]
  cases h0 : rName s 4 with
  | bad t =>
   rw [show rMd s 4 = .bad t by unfold rMd; simp only [h0, Rs.bind]]
   exact mod_0 s ok b w t hm h0 hb hs
  | ok n q1 =>
   cases h1 : rSome (rFn s) s q1 with
   | bad t =>
    rw [show rMd s 4 = .bad t by unfold rMd; simp only [h0, h1, Rs.bind, Rs.map]]
    exact mod_1 s ok b w n q1 t hm h0 h1 hb hs
   | ok l q2 =>
    rw [show rMd s 4 = .ok ⟨n, l⟩ q2 by unfold rMd; simp only [h0, h1, Rs.bind, Rs.map]]
    exact mod_2 s ok b w n q1 l q2 hm h0 h1 hb hs
end Go.Proofs.YtcdefnbehlcgeaaGreatDoor
