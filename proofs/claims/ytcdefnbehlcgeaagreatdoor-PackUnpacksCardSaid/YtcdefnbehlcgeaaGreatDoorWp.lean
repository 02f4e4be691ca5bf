/- The program's reader: as many as the count ahead of them says (carousel/api.Instr). -/
import Derived.Test.YtcdefnbehlcgeaaGreatDoorWg
set_option maxHeartbeats 4000000
set_option maxRecDepth 20000
namespace Go.Proofs.YtcdefnbehlcgeaaGreatDoor
open Go.RowKit
abbrev ZI : Array Value := #[.int .i64 0, .int .i64 0, .int .i64 0, .int .i64 0, .int .i64 0, .complex .f64 0 0, .string ⟨#[]⟩, .int .i64 0, .int .i64 0, .slice none 0 0, .slice none 0 0]
theorem infoI : (Tryz.prog.info? 55).map (fun i => (i.size, i.zero)) = some (11, some (.agg ZI)) := by kernel_rfl
theorem infoIb : ((Tryz.prog.info? 55).map (fun i => decide (i.bytes ≤ 1024 ∧ 0 < i.bytes))) = some true := by kernel_rfl
theorem someI_any {α : Type} (ds : α → List D) (hds : ∀ x, (ds x).length = 11) (h1 : ∀ x, ∀ d ∈ ds x, d.One) (F : Nat) (fs cp : Array Value) (one : Nat → Rs α) (b : Nat) (s : ByteArray) (p : Nat) (w : World) (hb : Rdb w b s p) (hp : p ≤ s.size) (hs : s.size ≤ 262144)
 (hE : ∀ (args : Array Value) (w : World), (callFunc F args).run Tryz.prog w = .ok (.enter F args) w)
 (hF : ∀ q w1, q ≤ s.size → Rdb w1 b s q → Only [b] w w1 → Calls Tryz.prog F (fs ++ cp) w1 fun e w' => RdE b s (.agg ZI) (RD ds) (one q) w1 e w') :
 Calls Tryz.prog 46 #[.pointer (some ⟨b, 0, none⟩), .func (.func F) fs cp] w fun e w' => RdE b s (.slice none 0 0) (RL ds) (rSome one s p) w e w' := by
 have HL := Lib.hid (length_any b s p w hb hp hs)
 have HF := Lib.hid hF
 have hbl := Bk.lt hb
 obtain ⟨i0, hi0, hik, hiz⟩ : ∃ i, Tryz.prog.info? 55 = some i ∧ i.size = 11 ∧ i.zero = some (.agg ZI) := by
  have := infoI
  cases h : Tryz.prog.info? 55 with
  | none => rw [h] at this; cases this
  | some i =>
   rw [h] at this
   simp only [Option.map_some, Option.some.injEq, Prod.mk.injEq] at this
   exact ⟨i, rfl, this.1, this.2⟩
 have hib : i0.bytes ≤ 1024 ∧ 0 < i0.bytes := by
  have := infoIb
  rw [hi0] at this
  simpa using this
 cases hr : rLen s p with
 | bad q =>
  have hn : rSome one s p = .bad q := by unfold rSome; rw [hr]; rfl
  rw [hn]
  rw [hr] at HL
  clear hr hn hF
  go_enter Tryz.func46, Tryz.ntmps46
  go_wp2_with fail
  refine wp_scope_fwd 0 rfl ?_
  go_wp2_with fail
  (with_reducible refine HL.out.mono ?_)
  rintro e w1 ⟨rfl, h3, h4⟩
  have H3 := Lib.hid h3
  have H4 := Lib.hid h4
  clear h3 h4
  go_wp2_with fail
  refine wp_goto (And.intro rfl ?_)
  go_wp2_with fail
  try rw [Exit.last_ret]
  go_ret2
  exact ⟨rfl, H3.out, H4.out⟩
 | ok n q0 =>
  obtain ⟨R, hR⟩ : ∃ R, rMany one n q0 = R := ⟨_, rfl⟩
  have hn : rSome one s p = R := by unfold rSome; rw [hr]; exact hR
  obtain ⟨hn1, hq0, -⟩ := rLen_bd hr
  rw [hn]
  rw [hr] at HL
  clear hr hn hF
  go_enter Tryz.func46, Tryz.ntmps46
  go_wp2_with fail
  refine wp_scope_fwd 0 rfl ?_
  go_wp2_with fail
  (with_reducible refine HL.out.mono ?_)
  rintro e w1 ⟨u, rfl, rfl, h3, h4, -⟩
  have H3 := Lib.hid h3
  have H4 := Lib.hid h4
  clear h3 h4
  go_wp2_with fail
  go_loopw [6, 19] (fun lv iv wr => ∃ (xs : List α) (q : Nat), iv = .int .i64 xs.length ∧ xs.length ≤ n ∧ q ≤ s.size ∧ (rMany one (n - xs.length) q).map (fun l => xs ++ l) = R ∧ Rdb wr b s q ∧ Only [b] w wr ∧ OwnD wr w.heap.size (Beh w.heap.size wr lv) 55 11 lv xs.length (xs.flatMap ds)) (fun lv iv _ => n - (intOf iv).toNat)
  case atStart => exact ⟨[], q0, rfl, Nat.zero_le _, hq0, by rw [← hR]; simp [Rs.map, Rs.bind]; cases rMany one n q0 <;> rfl, H3.out, H4.out, OwnD.nil _ _ _ _ _⟩
  case round =>
   obtain ⟨xs, q, rfl, hxn, hq, hRR, hRb, hO, hOwn⟩ := hrel
   have KR := Lib.hid hRR
   have KB := Lib.hid hRb
   have KO := Lib.hid hO
   have KD := Lib.hid hOwn
   clear hR hRR hRb hO hOwn
   by_cases hlt : xs.length < n
   ·have hl' : (xs.length : Int) < (n : Int) := by omega
    have hrm : rMany one (n - xs.length) q = (one q).bind fun x q => (rMany one (n - (xs.length + 1)) q).bind fun l r => .ok (x :: l) r := by
     rw [show n - xs.length = (n - (xs.length + 1)) + 1 by omega]
     rfl
    rw [hrm] at KR
    clear hrm
    go_wp2_with fail
    (with_reducible refine (HF.out q _ hq KB.out KO.out).mono ?_)
    intro e w2 h
    cases ho : one q with
    | bad t =>
     rw [ho] at h KR
     obtain ⟨rfl, h3, h4⟩ := h
     have K3 := Lib.hid h3
     have K4 := Lib.hid (KO.out.trans h4 (fun i hi => .inl hi))
     have hlt2 := Bk.lt h3
     have hz1 : (ZI).all (·.oneCell') = true := by simp [Value.oneCell']
     have HM := Lib.hid (setRow_made w2 55 ZI ZI)
     clear h3 h4 ho
     go_wp2_with (refine wpList_store_row (by rfl) _ _ _ (by rfl) w2.heap.size ZI (by rfl) (by rfl) 55 ZI (Bk.made w2 _ _) (by rw [hi0]; simp [hik]) (by rfl) hz1 ?_; have HM2 := HM.out; generalize World.setRow _ _ _ = W3 at HM2 ⊢; clear HM; obtain ⟨B3, O3, S3⟩ := HM2)
     refine wp_goto (And.intro rfl ?_)
     go_wp2_with fail
     try rw [Exit.last_ret]
     go_ret2
     have hre : R = .bad t := by rw [← KR.out]; rfl
     rw [hre]
     exact ⟨rfl, Bk.only K3.out O3 (by simp), K4.out.trans O3 (by simp)⟩
    | ok x t =>
     rw [ho] at h KR
     obtain ⟨u, rfl, ⟨us, rfl, hd⟩, h3, h4, h5⟩ := h
     have husz : us.size = 11 := by rw [← Array.length_toList, DVs.len hd, hds]
     have hu1 : us.all (·.oneCell') = true := by
      rw [Array.all_eq_true']
      intro v hv
      exact DVs.one hd (h1 x) v (Array.mem_toList_iff.2 hv)
     have K3 := Lib.hid h3
     have K4 := Lib.hid (KO.out.trans h4 (fun i hi => .inl hi))
     have KU := Lib.hid hd
     have HM := Lib.hid (setRow_made w2 55 ZI us)
     have K42 := Lib.hid h4
     have hus1 : ∀ u ∈ us.toList, u.oneCell' = true := DVs.one hd (h1 x)
     have hsz2 := h4.size
     have hsz1 := KO.out.size
     have hvr : ∀ g, u6.ownBlock = some g → g < wr.heap.size := by
      obtain ⟨xsC, hrow, -⟩ := KD.out.row
      exact fun g hg => (Row.block hrow hg).2
     have hfill : ∀ (k : Nat) (zs : Array Value) (ps : List (Nat × Value)), k = 11 → zs.size = k → ps = [(0, .agg us)] → Instr.fill (fun i => some (i * k, k)) zs ps = some us := fun k zs ps hk hz hp => by subst hk hp; exact fill_row hz husz
     clear h3 h4 ho hd
     go_wp2_with (first
      | (refine wpList_store_row (by rfl) _ _ _ (by rfl) w2.heap.size us (by rfl) (by rfl) 55 ZI (Bk.made w2 _ _) (by rw [hi0, husz]; simp [hik]) (by rw [husz]; rfl) hu1 ?_; have HM2 := HM.out; generalize World.setRow _ _ _ = W3 at HM2 ⊢; clear HM; obtain ⟨B3, O3, -⟩ := HM2)
      | (refine wpList_load_row (by rfl) 55 _ (by rfl) w2.heap.size (by rfl) 55 us (0, 0) _ B3 Tryz.underlying55 (by rfl) (by rw [hi0, husz]; simp [hik]) ?_)
      | (refine wpList_buildSlice (by rfl) 43 55 1 _ (by rfl) us i0 (.agg ZI) Tryz.underlying43 hi0 hiz (by rw [hik]; decide) (by rw [hik]; decide) (hfill _ _ _ hik (by simp) (by simp only [List.map_toArray, List.map_cons, List.map_nil]; rfl)) ?_)
      | (have o4 : Only [] w2 (W3.alloc (.cells us 55)) := O3.alloc _
         have hsz4 := o4.size
         have hnews := row_at (Bk.made W3 55 us)
         obtain ⟨xsC, hdv, hrow⟩ := Beh.cells hbl KD.out (K42.out.trans o4 (by simp))
         refine wpList_append_lies _ (by rfl) _ _ 43 (by rfl) w.heap.size 55 i0 (.agg ZI) 11 i0.bytes Tryz.underlying43 hi0 hiz hik rfl (by rfl) (by decide) u6 xs.length xsC (by rfl) hrow ⟨W3.heap.size, 0, none⟩ 1 1 us.toList (by rfl) (by rw [Array.length_toList, husz]) hnews hus1 (by decide) (by unfold maxLen; omega) (Nat.le_trans (Nat.mul_le_mul (show xs.length + 1 ≤ 262144 by omega) hib.1) (by decide)) (by omega) _ rfl (fun g cap w5 hr hgrow hat hlt5 => ?_)
         have OD := Lib.hid (own_step (ds := ds) (x := x) KU.out hsz1 o4 hvr hdv hr hgrow hat)
         have o5 : Only u6.ownBlock.toList w2 w5 := (o4.more (by simp)).trans (Only.of_grown hgrow) (fun i hi => .inl hi)
         have hne : u6.ownBlock ≠ some b := fun hv => by
          obtain ⟨xs1, hrow1, -⟩ := KD.out.row
          have := (Row.block hrow1 hv).1
          omega
         have K5 := Lib.hid (Bk.only K3.out o5 (by simpa using hne))
         have K6 := Lib.hid (K4.out.trans o5 (fun i hi => .inr (by
          obtain ⟨xs1, hrow1, -⟩ := KD.out.row
          exact (Row.block hrow1 (by simpa using hi)).1)))
         clear o4 hnews hdv hrow hr hgrow hat o5))
     go_roundw
     case rel =>
      refine ⟨xs ++ [x], t, by simp, by simp; omega, h5, ?_, K5.out, K6.out, by simpa using OD.out⟩
      rw [← KR.out]
      simp only [Rs.map, Rs.bind, List.length_append, List.length_cons, List.length_nil]
      cases rMany one (n - (xs.length + 1)) t <;> simp
     case measure =>
      simp [intOf]
      omega
   ·have hl' : ¬ (xs.length : Int) < (n : Int) := by omega
    have hre : R = .ok xs q := by rw [← KR.out, show n - xs.length = 0 by omega]; simp [rMany, Rs.map, Rs.bind]
    go_wp2_with fail
    try rw [Exit.jump_ret]
    go_ret2
    rw [hre]
    refine ⟨_, rfl, DV.more ?_ (KD.out.done (flatD_len hds xs)), KB.out, KO.out, hq⟩
    intro g hg
    rcases hg with hg | hg
    ·exact hg.1
    ·obtain ⟨us, hrw, -⟩ := KD.out.row
     exact (Row.block hrw hg).1
end Go.Proofs.YtcdefnbehlcgeaaGreatDoor
