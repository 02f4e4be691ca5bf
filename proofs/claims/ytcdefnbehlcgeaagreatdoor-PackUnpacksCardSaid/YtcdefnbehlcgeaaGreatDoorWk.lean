/- The program's reader: the pattern of what is left, or none.. -/
import Derived.Test.YtcdefnbehlcgeaaGreatDoorWg
import Derived.Test.YtcdefnbehlcgeaaGreatDoorWj
set_option maxHeartbeats 4000000
set_option maxRecDepth 20000
namespace Go.Proofs.YtcdefnbehlcgeaaGreatDoor
open Go.RowKit
theorem rest1_any (b m n q : Nat) (s : ByteArray) (w : World) (hb : Rdb w b s q) (hm : Bk w m 61 #[.pointer (some ⟨b, 0, none⟩)]) (hq : q ≤ s.size) (hs : s.size ≤ 262144) :
 Calls Tryz.prog 123 #[.int .i64 n, .pointer (some ⟨m, 0, none⟩)] w fun e w' => e = .returned (.bool (decide (n ≤ 1 ∧ n ≤ s.size - q))) ∧ Only [] w w' := by
 have c0 := hm.cell0 (i := 0) rfl
 have HK := Lib.hid (fun w1 (o : Only [] w w1) => has_any b s q n w1 (Bk.only hb o (by simp)) hq hs)
 have O := Lib.hid (Only.refl [] w)
 by_cases h : n ≤ 1
 ·have h' : (n : Int) ≤ 1 := by omega
  go_enter Tryz.func123, Tryz.ntmps123
  go_wp2_with fail
  (with_reducible refine (HK.out _ O.out).mono ?_)
  rintro e w1 ⟨rfl, o1⟩
  go_wp2_with fail
  go_ret
  exact ⟨ret_bool (by rw [Bool.eq_iff_iff]; simp [h]), o1⟩
 ·have h' : ¬ (n : Int) ≤ 1 := by omega
  go_enter Tryz.func123, Tryz.ntmps123
  go_wp2_with fail
  go_ret
  exact ⟨ret_bool (by rw [Bool.eq_iff_iff] <;> simp [h]), O.out⟩
theorem enter_rest (args : Array Value) (w : World) : (callFunc 123 args).run Tryz.prog w = .ok (.enter 123 args) w := by kernel_rfl
theorem size11 : (Tryz.prog.info? 88).map (·.size) = some 11 := by kernel_rfl
theorem one11 : ZQ.all (·.oneCell') = true := by simp [Value.oneCell']
theorem rest_any (F : Nat) (fs cp : Array Value) (one : Nat → Rs QT) (b : Nat) (s : ByteArray) (p : Nat) (w : World) (hb : Rdb w b s p) (hp : p ≤ s.size) (hs : s.size ≤ 262144)
 (hE : ∀ (args : Array Value) (w : World), (callFunc F args).run Tryz.prog w = .ok (.enter F args) w)
 (hF : ∀ q w1, q ≤ s.size → Rdb w1 b s q → Only [b] w w1 → Calls Tryz.prog F (fs ++ cp) w1 fun e w' => RdE b s (.agg ZQ) (RD QT.ds) (one q) w1 e w') :
 Calls Tryz.prog 110 #[.pointer (some ⟨b, 0, none⟩), .func (.func F) fs cp] w fun e w' => RdE b s (.slice none 0 0) (RL QT.ds) (rRest one s p) w e w' := by
 have hbl := Bk.lt hb
 obtain ⟨W, hW⟩ : ∃ W, W = (w.alloc (.cells #[.pointer (some ⟨b, 0, none⟩)] 61)).alloc (.cells ZQ 88) := ⟨_, rfl⟩
 have hWb : Rdb W b s p := by rw [hW]; exact Bk.alloc (Bk.alloc hb _) _
 have hWr : Bk W w.heap.size 61 #[.pointer (some ⟨b, 0, none⟩)] := by rw [hW]; exact Bk.alloc (Bk.made w _ _) _
 have hWp : Bk W (w.heap.size + 1) 88 ZQ := by rw [hW]; exact Bk.newAt (by rw [size_al])
 have hWo : Only [b] w W := by rw [hW]; exact ((Only.refl [b] w).alloc _).alloc _
 have HK := Lib.hid (fit_any 123 #[] #[.pointer (some ⟨w.heap.size, 0, none⟩)] (fun n q => decide (n ≤ 1 ∧ n ≤ s.size - q)) b s p W hWb hp hs enter_rest
  (fun n q w1 hc hb1 o => rest1_any b w.heap.size n q s w1 hb1 (Bk.only hWr o (by simp; omega)) (cnt_bd hc).2.2 hs))
 have c0 := hWr.cell0 (i := 0) rfl
 have HF := Lib.hid hF
 rw [hW] at HK c0
 cases hr : rFit (fun n q => decide (n ≤ 1 ∧ n ≤ s.size - q)) s p with
 | bad q =>
  have e : rRest one s p = .bad q := by unfold rRest; rw [hr]; rfl
  rw [e]
  rw [hr] at HK
  go_enter Tryz.func110, Tryz.ntmps110
  go_wp2_with fail
  refine wp_scope_fwd 0 rfl ?_
  go_wp2_with fail
  (with_reducible refine HK.out.mono ?_)
  rintro e w1 ⟨rfl, h3, h4⟩
  have H3 := Lib.hid h3
  have H4 := Lib.hid (hWo.trans (hW ▸ h4) (fun i hi => .inl hi))
  clear h3 h4
  go_wp2_with fail
  refine wp_goto (And.intro rfl ?_)
  go_wp2_with fail
  try rw [Exit.last_ret]
  go_ret2
  exact ⟨rfl, H3.out, H4.out⟩
 | ok n q =>
  have hn1 : n ≤ 1 ∧ q ≤ s.size := by
   unfold rFit at hr
   split at hr
   ·split at hr
    ·rename_i n' q' hc hf
     injection hr with h1 h2
     subst h1 h2
     exact ⟨by simp at hf; exact hf.1, (cnt_bd hc).2.2⟩
    ·cases hr
   ·cases hr
  have e : rRest one s p = if n = 0 then .ok [] q else (one q).map fun x => [x] := by unfold rRest; rw [hr]; rfl
  rw [e]
  rw [hr] at HK
  have hB0 := Lib.hid hWp
  have hO0 := Lib.hid hWo
  rw [hW] at hB0 hO0
  by_cases h0 : n = 0
  ·subst h0
   rw [if_pos rfl]
   go_enter Tryz.func110, Tryz.ntmps110
   go_wp2_with fail
   refine wp_scope_fwd 0 rfl ?_
   go_wp2_with fail
   (with_reducible refine HK.out.mono ?_)
   rintro e w1 ⟨u, rfl, rfl, h3, h4, -⟩
   have H3 := Lib.hid h3
   have H4 := Lib.hid (hO0.out.trans h4 (fun i hi => .inl hi))
   clear h3 h4
   go_wp2_with fail
   try rw [Exit.jump_ret]
   go_ret2
   refine ⟨_, rfl, ?_, H3.out, H4.out, hn1.2⟩
   unfold RL
   simp only [DV]
   exact ⟨none, 0, rfl, Nat.le_refl _, by omega, .inl ⟨rfl, rfl⟩⟩
  ·obtain rfl : n = 1 := by omega
   rw [if_neg h0]
   cases ho : one q with
   | bad t =>
    have hF2 := HF.out q
    rw [ho] at hF2
    have HF3 := Lib.hid hF2
    clear hF2 HF hF
    show Calls Tryz.prog _ _ w fun e w' => RdE b s (.slice none 0 0) (RL QT.ds) (.bad t) w e w'
    go_enter Tryz.func110, Tryz.ntmps110
    go_wp2_with fail
    refine wp_scope_fwd 0 rfl ?_
    go_wp2_with fail
    (with_reducible refine HK.out.mono ?_)
    rintro e w1 ⟨u, rfl, rfl, h3, h4, -⟩
    have B1 := Lib.hid (Bk.only hB0.out h4 (by simp; omega))
    have H3 := Lib.hid h3
    have H4 := Lib.hid (hO0.out.trans h4 (fun i hi => .inl hi))
    clear h3 h4
    go_wp2_with fail
    (with_reducible refine (HF3.out _ hn1.2 H3.out H4.out).mono ?_)
    rintro e w2 ⟨rfl, h3, h4⟩
    have B2 := Lib.hid (Bk.only B1.out h4 (by simp; omega))
    have SB := Lib.hid (setRow_bk B2.out ZQ)
    have G3 := Lib.hid h3
    have G4 := Lib.hid (H4.out.trans h4 (fun i hi => .inl hi))
    clear h3 h4
    go_wp2_with (refine wpList_store_row (by rfl) _ _ _ (by rfl) (w.heap.size + 1) ZQ (by rfl) (by rfl) 88 ZQ B2.out (by rw [size11]; rfl) (by rfl) one11 ?_; have SB2 := SB.out; generalize World.setRow _ _ _ = W5 at SB2 ⊢; clear SB; obtain ⟨e1, e2⟩ := SB2; have E2 := Lib.hid e2; clear e1 e2)
    refine wp_goto (And.intro rfl ?_)
    go_wp2_with fail
    try rw [Exit.last_ret]
    go_ret2
    exact ⟨rfl, Bk.only G3.out E2.out (by simp; omega), G4.out.trans E2.out (fun i hi => .inr (by simp at hi; omega))⟩
   | ok x t =>
    have hF2 := HF.out q
    rw [ho] at hF2
    have HF3 := Lib.hid hF2
    clear hF2 HF hF
    show Calls Tryz.prog _ _ w fun e w' => RdE b s (.slice none 0 0) (RL QT.ds) (.ok [x] t) w e w'
    obtain ⟨i0, hi0, hik, hiz⟩ : ∃ i, Tryz.prog.info? 88 = some i ∧ i.size = 11 ∧ i.zero = some (.agg ZQ) := by
     have := infoQ
     cases h : Tryz.prog.info? 88 with
     | none => rw [h] at this; cases this
     | some i =>
      rw [h] at this
      simp only [Option.map_some, Option.some.injEq, Prod.mk.injEq] at this
      exact ⟨i, rfl, this.1, this.2⟩
    go_enter Tryz.func110, Tryz.ntmps110
    go_wp2_with fail
    refine wp_scope_fwd 0 rfl ?_
    go_wp2_with fail
    (with_reducible refine HK.out.mono ?_)
    rintro e w1 ⟨u, rfl, rfl, h3, h4, -⟩
    have B1 := Lib.hid (Bk.only hB0.out h4 (by simp; omega))
    have H3 := Lib.hid h3
    have H4 := Lib.hid (hO0.out.trans h4 (fun i hi => .inl hi))
    clear h3 h4
    go_wp2_with fail
    (with_reducible refine (HF3.out _ hn1.2 H3.out H4.out).mono ?_)
    rintro e w2 ⟨u, rfl, ⟨us, rfl, hd⟩, h3, h4, h5⟩
    have husz : us.size = 11 := by rw [← Array.length_toList, DVs.len hd, qds_len]
    have hu1 : us.all (·.oneCell') = true := by
     rw [Array.all_eq_true']
     intro v hv
     exact DVs.one hd (qds_one x) v (Array.mem_toList_iff.2 hv)
    have hfill : ∀ (k : Nat) (zs : Array Value) (ps : List (Nat × Value)), k = 11 → zs.size = k → ps = [(0, .agg us)] → Instr.fill (fun i => some (i * k, k)) zs ps = some us := fun k zs ps hk hz hp => by subst hk hp; exact fill_row hz husz
    have hlt1 := Bk.lt B1.out
    have B2 := Lib.hid (Bk.only B1.out h4 (by simp; omega))
    have SB := Lib.hid (setRow_bk B2.out us)
    have G3 := Lib.hid h3
    have G4 := Lib.hid (H4.out.trans h4 (fun i hi => .inl hi))
    have HD := Lib.hid hd
    have hs12 := H4.out.size
    clear h3 h4 hd
    go_wp2_with (first
     | (refine wpList_store_row (by rfl) _ _ _ (by rfl) (w.heap.size + 1) us (by rfl) (by rfl) 88 ZQ B2.out (by rw [size11, husz]) (by rw [husz]; rfl) hu1 ?_; have SB2 := SB.out; generalize World.setRow _ _ _ = W5 at SB2 ⊢; clear SB; obtain ⟨e1, e2⟩ := SB2; have E1 := Lib.hid e1; have E2 := Lib.hid e2; clear e1 e2)
     | (refine wpList_load_row (by rfl) 88 _ (by rfl) (w.heap.size + 1) (by rfl) 88 us (0, 0) _ E1.out Tryz.underlying88 (by rfl) (by rw [size11, husz]) ?_)
     | (refine wpList_buildSlice (by rfl) 86 88 1 _ (by rfl) us i0 (.agg ZQ) Tryz.underlying86 hi0 hiz (by rw [hik]; decide) (by rw [hik]; decide) (hfill _ _ _ hik (by simp) (by simp only [List.map_toArray, List.map_cons, List.map_nil]; rfl)) ?_))
    try rw [Exit.jump_ret]
    go_ret2
    have o6 := E2.out.alloc (.cells us 88)
    have hB6 := Bk.made W5 88 us
    have hsz5 := E2.out.size
    refine ⟨_, rfl, ?_, Bk.only G3.out o6 (by simp; omega), G4.out.trans o6 (fun i hi => .inr (by simp at hi; omega)), h5⟩
    unfold RL
    simp only [DV]
    refine ⟨some ⟨W5.heap.size, 0, none⟩, 1, rfl, Nat.le_refl _, by omega, .inr ⟨W5.heap.size, 0, rfl, Bk.lt hB6, by have := Bk.lt G3.out; have := Bk.lt B2.out; omega, ?_⟩⟩
    refine DVs.dcs (us := us.toList) ?_ fun j u hj => ?_
    ·simp only [List.flatMap_cons, List.flatMap_nil, List.append_nil]
     exact DVs.only o6 (fun g hg hf => by simp at hg; omega) (fun g hf => by omega) HD.out
    ·rw [Nat.zero_add]
     exact hB6.cell0 (by rw [← Array.getElem?_toList]; exact hj)
end Go.Proofs.YtcdefnbehlcgeaaGreatDoor
