/- The law HomeKeeps, given what the program's accounts answer. -/
import Derived.Test.YtcchahgfjnphgaaM3
namespace Go.Proofs.Ytcchahgfjnphgaa
open Go.RowKit

theorem rnew_no (c : Int) (w : World) (hc : ¬ (1 ≤ c ∧ c ≤ 16)) :
    Calls Try.prog 10 #[.int .i64 c] w fun e w' => e = .returned (.tuple #[.agg #[.slice none 0 0], .int .i64 1]) ∧ Only [] w w' := by
  have O := Lib.hid ((Only.refl [] w).alloc (.cells #[.slice none 0 0] 33))
  by_cases h1 : c < 1
  · go_enter Try.func10, Try.ntmps10
    go_wp2_with fail
    refine bodyPost_ret (v := .tuple #[.agg #[.slice none 0 0], .int .i64 1]) (by simp [results, Try.results10, go_sem]) rfl ⟨rfl, O.out⟩
  · have q0 : decide (c < 1) = false := decide_eq_false h1
    have q1 : decide (16 < c) = true := decide_eq_true (by omega)
    go_enter Try.func10, Try.ntmps10
    go_wp2_with fail
    refine bodyPost_ret (v := .tuple #[.agg #[.slice none 0 0], .int .i64 1]) (by simp [results, Try.results10, go_sem]) rfl ⟨rfl, O.out⟩

/-- The sums of the law, as they stand. -/
abbrev s3V (C : Cn) (n : Nat) : Array Value := #[.int .i64 (sumC C 0 n), .int .i64 (sumC C 1 n), .int .i64 (sumC C 2 n)]
theorem s3V_at (C : Cn) (n : Nat) {k : Nat} (h : k < 3) : (s3V C n)[k]? = some (.int .i64 (sumC C k n)) := by
  match k, h with
  | 0, _ => rfl
  | 1, _ => rfl
  | 2, _ => rfl
/-- The loop over the script: where it stands. -/
structure KRel (R : AccRep) (w : World) (b n h9 : Nat) (wr : World) : Prop where
  ex : ∃ F C, R.rep wr b F n C ∧ AccOk n C ∧ Bk wr h9 36 (s3V C n) ∧ Only [] w wr ∧ h9 ∉ F ∧ ∀ g ∈ F, w.heap.size ≤ g
set_option maxHeartbeats 8000000 in
set_option maxRecDepth 20000 in
theorem keeps_any (R : AccRep) (hA : AwakeOk17) (c : Int) (A : Option Addr) (xs : List HOp) (cap : Nat) (w : World) (h : RdS KH w A xs) (hx : ∀ x ∈ xs, x.ok) (hl : xs.length ≤ 17592186044416) :
    Calls Try.prog 4 #[.int .i64 c, .slice A xs.length cap] w fun e w' => e = .returned (.bool true) ∧ Only [] w w' := by
  have H := Lib.hid h
  have HX := Lib.hid hx
  have K1 := Lib.hid (R.new c w)
  clear h hx
  go_enter Try.func4, Try.ntmps4
  go_wp2_with fail
  (with_reducible refine K1.out.mono ?_)
  rintro e w1 ⟨o1, ⟨hc1, hc2, b, F, rfl, hr, hF⟩ | ⟨hno, rfl⟩⟩
  · obtain ⟨n, rfl⟩ := Int.eq_ofNat_of_zero_le (show 0 ≤ c by omega)
    rw [Int.toNat_natCast] at hr
    have O1 := Lib.hid o1
    have hn16 : n ≤ 16 := by omega
    have rel0 : KRel R w b n w1.heap.size (w1.alloc (.cells (s3V (fun _ _ => 0) n) 36)) := ⟨F, _, R.only hr ((Only.refl [] w1).alloc _) (by simp), AccOk.zero n, Bk.made w1 _ _, o1.alloc _, fun hm => by have := R.lt hr _ hm; omega, hF⟩
    have hz : ∀ c' m, sumC (fun _ _ => 0) c' m = 0 := fun c' m => by
      induction m with
      | zero => rfl
      | succ m ih => rw [sumC, ih]; rfl
    simp only [s3V, hz] at rel0
    have REL0 := Lib.hid rel0
    have hlt9 : w.heap.size ≤ w1.heap.size := o1.size
    clear hr hF rel0 hz K1 o1
    go_wp2_with fail
    generalize hh9 : w1.heap.size = h9 at *
    clear hh9
    go_loopw [10] (fun iv wr => ∃ i : Nat, iv = .int .i64 i ∧ i ≤ xs.length ∧ KRel R w b n h9 wr) (fun iv _ => xs.length - (intOf iv).toNat)
    case atStart => exact ⟨0, rfl, Nat.zero_le _, REL0.out⟩
    case round =>
      clear REL0
      obtain ⟨i, rfl, hi, F, C, hr, hok, hb9, o, h9F, hF⟩ := hrel
      by_cases hlt : i < xs.length
      · obtain ⟨bl, off, rfl, hb, hc⟩ := RdH.at5 (H.out.only o (by simp)) (by omega)
        obtain ⟨x, hx⟩ := some_at hlt
        obtain ⟨x0, x1, x2, x3, x4⟩ := hc i x hx
        have hxm := HX.out x (List.mem_of_getElem? hx)
        clear hx
        obtain ⟨kd, ka, kb, kt, km⟩ := x
        dsimp only at x0 x1 x2 x3 x4
        have HM := Lib.hid (show -9223372036854775808 ≤ km ∧ km ≤ 9223372036854775807 from hxm)
        clear hxm
        have RR := Lib.hid (R.only hr ((Only.refl [] wr).alloc (.cells #[.int .i64 kd, .int .i64 ka, .int .i64 kb, .int .i64 kt, .int .i64 km] 38)) (by simp))
        have OK := Lib.hid hok
        have B9 := Lib.hid (hb9.alloc (.cells #[.int .i64 kd, .int .i64 ka, .int .i64 kb, .int .i64 kt, .int .i64 km] 38))
        have O := Lib.hid (o.alloc (.cells #[.int .i64 kd, .int .i64 ka, .int .i64 kb, .int .i64 kt, .int .i64 km] 38))
        have BX := Lib.hid (Bk.made wr 38 #[.int .i64 kd, .int .i64 ka, .int .i64 kb, .int .i64 kt, .int .i64 km])
        have HF := Lib.hid hF
        have H9 := Lib.hid h9F
        have hlr : h9 < wr.heap.size := hb9.lt
        have XF := Lib.hid (show wr.heap.size ∉ F from fun hm => by have := R.lt hr _ hm; omega)
        clear hc hb hr hok hb9 o h9F hF
        by_cases hk1 : kd = 1
        · subst hk1
          have K2 := Lib.hid (R.take ka kb RR.out)
          have HT1 := Lib.hid (fun h => take_sum (n := n) (C := C) (k := ka) (c := kb) h)
          have HT2 := Lib.hid (fun h => take_no (n := n) (C := C) (k := ka) (c := kb) h)
          have OK2 := Lib.hid (OK.out.take ka kb)
          generalize takeF n C ka kb = tf at *
          obtain ⟨C2, er⟩ := tf
          dsimp only at K2 HT1 HT2 OK2
          go_wp2_with fail
          (with_reducible refine K2.out.mono ?_)
          rintro e w2 ⟨rfl, F', hr2, hF2, o2⟩
          have B92 := Lib.hid (B9.out.only o2 H9.out)
          have O2 := Lib.hid (O.out.trans o2 (fun g hg => .inr (HF.out g hg)))
          have bx := BX.out.only o2 XF.out
          have y2 := bx.cell0 (i := 2) rfl
          have REL : Hid (∀ wq, Only [] w2 wq ∨ Only [h9] w2 wq → Bk wq h9 36 (s3V C2 n) → KRel R w b n h9 wq) := Lib.hid (fun wq hq hb => by
            have hlw : w.heap.size ≤ (wr.alloc (.cells #[.int .i64 1, .int .i64 ka, .int .i64 kb, .int .i64 kt, .int .i64 km] 38)).heap.size := O.out.size
            have n9 : h9 ∉ F' := fun hm => by
              rcases hF2 h9 hm with h | h
              · exact H9.out h
              · simp at h; omega
            refine ⟨F', C2, ?_, OK2.out, hb, ?_, n9, fun g hg => ?_⟩
            · rcases hq with hq | hq
              · exact R.only hr2 hq (by simp)
              · exact R.only hr2 hq (fun g hg hm => n9 (by simp at hm; rw [← hm]; exact hg))
            · rcases hq with hq | hq
              · exact O2.out.trans hq (by simp)
              · exact O2.out.trans hq (fun g hg => .inr (by simp at hg; omega))
            · rcases hF2 g hg with h | h
              · exact HF.out g h
              · omega)
          clear hr2 hF2 o2 bx K2
          by_cases he : er = 0
          · subst he
            obtain ⟨hin, hs⟩ := HT1.out rfl
            unfold isAt at hin
            obtain ⟨kc, rfl⟩ := Int.eq_ofNat_of_zero_le hin.2.1
            have hc3 : kc < 3 := by omega
            have g1 := B92.out.cell0 (s3V_at C n hc3)
            have f1 := B92.out.free kc
            have hbd := sumC_bd OK.out hc3 n (Nat.le_refl n)
            have HSU := Lib.hid hs
            have q0 : decide ((kc : Int) < 0) = false := decide_eq_false (by omega)
            have q1 : decide ((3 : Int) ≤ (kc : Int)) = false := decide_eq_false (by omega)
            have ws : IntKind.i64.wrap (sumC C kc n + 1) = sumC C kc n + 1 := IntWalk.i64_in _ (by omega)
            have hlo := hbd.1
            have hhi : sumC C kc n ≤ 1024 := by omega
            clear hs hin hbd HT1 HT2
            go_wp2_with fail
            go_roundw
            case rel =>
              refine ⟨i + 1, by go_num, by omega, REL.out _ (.inr ((Only.refl _ w2).set (.inl (by simp)) _)) ?_⟩
              have e0 := HSU.out 0
              have e1 := HSU.out 1
              have e2 := HSU.out 2
              rw [Int.toNat_natCast] at e0 e1 e2
              have hb' := B92.out.set kc (.int .i64 (sumC C kc n + 1))
              match kc, hc3, e0, e1, e2, hb' with
              | 0, _, e0, e1, e2, hb' => simp at e0 e1 e2; simp only [s3V, e0, e1, e2]; exact hb'
              | 1, _, e0, e1, e2, hb' => simp at e0 e1 e2; simp only [s3V, e0, e1, e2]; exact hb'
              | 2, _, e0, e1, e2, hb' => simp at e0 e1 e2; simp only [s3V, e0, e1, e2]; exact hb'
            case measure => simp [intOf]; omega
          · have hCC := HT2.out he
            subst hCC
            have te : (er == 0) = false := by simpa using he
            go_wp2_with fail
            go_roundw
            case rel => exact ⟨i + 1, by go_num, by omega, REL.out _ (.inl (Only.refl _ _)) B92.out⟩
            case measure => simp [intOf]; omega
        · have t1 : (kd == 1) = false := by simpa using hk1
          by_cases hk2 : kd = 2
          · subst hk2
            have K2 := Lib.hid (R.give ka kb RR.out)
            have HT1 := Lib.hid (fun h => give_sum (n := n) (C := C) (k := ka) (c := kb) h)
            have HT2 := Lib.hid (fun h => give_no (n := n) (C := C) (k := ka) (c := kb) h)
            have OK2 := Lib.hid (OK.out.give ka kb)
            generalize giveF n C ka kb = tf at *
            obtain ⟨C2, er⟩ := tf
            dsimp only at K2 HT1 HT2 OK2
            go_wp2_with fail
            (with_reducible refine K2.out.mono ?_)
            rintro e w2 ⟨rfl, F', hr2, hF2, o2⟩
            have B92 := Lib.hid (B9.out.only o2 H9.out)
            have O2 := Lib.hid (O.out.trans o2 (fun g hg => .inr (HF.out g hg)))
            have bx := BX.out.only o2 XF.out
            have y2 := bx.cell0 (i := 2) rfl
            have REL : Hid (∀ wq, Only [] w2 wq ∨ Only [h9] w2 wq → Bk wq h9 36 (s3V C2 n) → KRel R w b n h9 wq) := Lib.hid (fun wq hq hb => by
              have hlw : w.heap.size ≤ (wr.alloc (.cells #[.int .i64 2, .int .i64 ka, .int .i64 kb, .int .i64 kt, .int .i64 km] 38)).heap.size := O.out.size
              have n9 : h9 ∉ F' := fun hm => by
                rcases hF2 h9 hm with h | h
                · exact H9.out h
                · simp at h; omega
              refine ⟨F', C2, ?_, OK2.out, hb, ?_, n9, fun g hg => ?_⟩
              · rcases hq with hq | hq
                · exact R.only hr2 hq (by simp)
                · exact R.only hr2 hq (fun g hg hm => n9 (by simp at hm; rw [← hm]; exact hg))
              · rcases hq with hq | hq
                · exact O2.out.trans hq (by simp)
                · exact O2.out.trans hq (fun g hg => .inr (by simp at hg; omega))
              · rcases hF2 g hg with h | h
                · exact HF.out g h
                · omega)
            clear hr2 hF2 o2 bx K2
            by_cases he : er = 0
            · subst he
              obtain ⟨hin, hs⟩ := HT1.out rfl
              unfold isAt at hin
              obtain ⟨kc, rfl⟩ := Int.eq_ofNat_of_zero_le hin.2.1
              have hc3 : kc < 3 := by omega
              have g1 := B92.out.cell0 (s3V_at C n hc3)
              have f1 := B92.out.free kc
              have hbd := sumC_bd OK.out hc3 n (Nat.le_refl n)
              have HSU := Lib.hid hs
              have q0 : decide ((kc : Int) < 0) = false := decide_eq_false (by omega)
              have q1 : decide ((3 : Int) ≤ (kc : Int)) = false := decide_eq_false (by omega)
              have ws : IntKind.i64.wrap (sumC C kc n - 1) = sumC C kc n - 1 := IntWalk.i64_in _ (by omega)
              have hlo := hbd.1
              have hhi : sumC C kc n ≤ 1024 := by omega
              clear hs hin hbd HT1 HT2
              go_wp2_with fail
              go_roundw
              case rel =>
                refine ⟨i + 1, by go_num, by omega, REL.out _ (.inr ((Only.refl _ w2).set (.inl (by simp)) _)) ?_⟩
                have e0 := HSU.out 0
                have e1 := HSU.out 1
                have e2 := HSU.out 2
                rw [Int.toNat_natCast] at e0 e1 e2
                have hb' := B92.out.set kc (.int .i64 (sumC C kc n - 1))
                match kc, hc3, e0, e1, e2, hb' with
                | 0, _, e0, e1, e2, hb' => simp at e0 e1 e2; simp only [s3V, e0, e1, e2]; exact hb'
                | 1, _, e0, e1, e2, hb' => simp at e0 e1 e2; simp only [s3V, e0, e1, e2]; exact hb'
                | 2, _, e0, e1, e2, hb' => simp at e0 e1 e2; simp only [s3V, e0, e1, e2]; exact hb'
              case measure => simp [intOf]; omega
            · have hCC := HT2.out he
              subst hCC
              have te : (er == 0) = false := by simpa using he
              go_wp2_with fail
              go_roundw
              case rel => exact ⟨i + 1, by go_num, by omega, REL.out _ (.inl (Only.refl _ _)) B92.out⟩
              case measure => simp [intOf]; omega
          · have t2 : (kd == 2) = false := by simpa using hk2
            by_cases hk3 : kd = 3
            · subst hk3
              have K2 := Lib.hid (R.move ka kt kb km HM.out RR.out)
              have HM := Lib.hid (fun c' => move_sum (n := n) (C := C) (k := ka) (t := kt) (c := kb) (m := km) c')
              have OK2 := Lib.hid (OK.out.move ka kt kb km)
              generalize moveF n C ka kt kb km = tf at *
              obtain ⟨C2, er⟩ := tf
              dsimp only at K2 HM OK2
              go_wp2_with fail
              (with_reducible refine K2.out.mono ?_)
              rintro e w2 ⟨rfl, F', hr2, hF2, o2⟩
              have B92 := Lib.hid (B9.out.only o2 H9.out)
              have O2 := Lib.hid (O.out.trans o2 (fun g hg => .inr (HF.out g hg)))
              have bx := BX.out.only o2 XF.out
              have y2 := bx.cell0 (i := 2) rfl
              have REL : Hid (∀ wq, Only [] w2 wq ∨ Only [h9] w2 wq → Bk wq h9 36 (s3V C2 n) → KRel R w b n h9 wq) := Lib.hid (fun wq hq hb => by
                have hlw : w.heap.size ≤ (wr.alloc (.cells #[.int .i64 3, .int .i64 ka, .int .i64 kb, .int .i64 kt, .int .i64 km] 38)).heap.size := O.out.size
                have n9 : h9 ∉ F' := fun hm => by
                  rcases hF2 h9 hm with h | h
                  · exact H9.out h
                  · simp at h; omega
                refine ⟨F', C2, ?_, OK2.out, hb, ?_, n9, fun g hg => ?_⟩
                · rcases hq with hq | hq
                  · exact R.only hr2 hq (by simp)
                  · exact R.only hr2 hq (fun g hg hm => n9 (by simp at hm; rw [← hm]; exact hg))
                · rcases hq with hq | hq
                  · exact O2.out.trans hq (by simp)
                  · exact O2.out.trans hq (fun g hg => .inr (by simp at hg; omega))
                · rcases hF2 g hg with h | h
                  · exact HF.out g h
                  · omega)
              clear hr2 hF2 o2 bx K2
              go_wp2_with fail
              go_roundw
              case rel =>
                have b9 := B92.out
                simp only [s3V, ← HM.out 0, ← HM.out 1, ← HM.out 2] at b9
                exact ⟨i + 1, by go_num, by omega, REL.out _ (.inl (Only.refl _ _)) b9⟩
              case measure => simp [intOf]; omega
            · have t3 : (kd == 3) = false := by simpa using hk3
              go_wp2_with fail
              go_roundw
              case rel => exact ⟨i + 1, by go_num, by omega, ⟨F, C, RR.out, OK.out, B9.out, O.out, H9.out, HF.out⟩⟩
              case measure => simp [intOf]; omega
      · have RR := Lib.hid hr
        have OK := Lib.hid hok
        have B9 := Lib.hid hb9
        have O := Lib.hid o
        clear hr hok hb9 o h9F hF
        go_wp2_with fail
        go_loopw [12] (fun cv wq => ∃ cc : Nat, cv = .int .i64 cc ∧ cc ≤ 3 ∧ R.rep wq b F n C ∧ Bk wq h9 36 (s3V C n) ∧ Only [] w wq) (fun cv _ => 3 - (intOf cv).toNat)
        case atStart => exact ⟨0, rfl, by omega, RR.out, B9.out, O.out⟩
        case round =>
          clear RR B9 O
          obtain ⟨cc, rfl, hcc, hr, hb9, o⟩ := hrel
          have RR := Lib.hid hr
          have B9 := Lib.hid hb9
          have O := Lib.hid o
          clear hr hb9 o
          have h4 : cc = 0 ∨ cc = 1 ∨ cc = 2 ∨ cc = 3 := by omega
          rcases h4 with rfl | rfl | rfl | rfl
          · rw [show ((0 : Nat) : Int) = 0 from rfl]
            have c9 := B9.out.cell0 (i := 0) rfl
            go_wp2_with fail
            go_loopw [13, 14] (fun sv kv wq => ∃ k : Nat, kv = .int .i64 k ∧ sv = .int .i64 (sumC C 0 k) ∧ k ≤ n ∧ R.rep wq b F n C ∧ Bk wq h9 36 (s3V C n) ∧ Only [] w wq) (fun _ kv _ => n - (intOf kv).toNat)
            case atStart => exact ⟨0, rfl, rfl, Nat.zero_le _, RR.out, B9.out, O.out⟩
            case round =>
              clear RR B9 O c9
              obtain ⟨k, rfl, rfl, hk, hr, hb9, o⟩ := hrel
              have O := Lib.hid o
              have RR := Lib.hid hr
              have B9 := Lib.hid hb9
              by_cases hlt : k < n
              · have K2 : Hid (Calls Try.prog 14 #[ptA b, .int .i64 k, .int .i64 0] wr fun e w' => e = .returned (.int .i64 (C k 0)) ∧ Only [] wr w') := Lib.hid (R.count k 0 hlt (by omega) hr)
                have hbd := OK.out k 0 hlt (by omega)
                have hsb := sumC_bd OK.out (show 0 < 3 by omega) k (by omega)
                have ws : IntKind.i64.wrap (sumC C 0 k + C k 0) = sumC C 0 k + C k 0 := IntWalk.i64_in _ (by omega)
                have wd : IntKind.i64.wrap (64 - C k 0) = 64 - C k 0 := IntWalk.i64_in _ (by omega)
                have q0 : decide (C k 0 < 0) = false := decide_eq_false (by omega)
                have q1 : decide (64 < C k 0) = false := decide_eq_false (by omega)
                have t0 : (64 - C k 0 != 64 - C k 0) = false := bne_self_eq_false _
                have HSU : Hid (sumC C 0 (k + 1) = sumC C 0 k + C k 0) := Lib.hid rfl
                clear o hr hb9
                go_wp2_with fail
                (with_reducible refine K2.out.mono ?_)
                rintro e w2 ⟨rfl, o2⟩
                have R2 := Lib.hid (R.only RR.out o2 (by simp))
                have K3 := Lib.hid (R.room k hlt R2.out)
                have B2 := Lib.hid (B9.out.only o2 (by simp))
                have O2 := Lib.hid (O.out.trans o2 (by simp))
                generalize C k 0 = ck at *
                clear o2 K2
                go_wp2_with fail
                (with_reducible refine K3.out.mono ?_)
                rintro e w3 ⟨rfl, o3⟩
                have R3 := Lib.hid (R.only R2.out o3 (by simp))
                have B3 := Lib.hid (B2.out.only o3 (by simp))
                have O3 := Lib.hid (O2.out.trans o3 (by simp))
                clear o3 K3
                go_wp2_with fail
                go_roundw
                case rel => exact ⟨k + 1, by go_num, by rw [HSU.out], by omega, R3.out, B3.out, O3.out⟩
                case measure => simp [intOf]; omega
              · have e : k = n := by omega
                subst e
                have c9 := hb9.cell0 (i := 0) rfl
                have t0 : (sumC C 0 k != sumC C 0 k) = false := bne_self_eq_false _
                clear o hr hb9
                go_wp2_with fail
                go_roundw
                case rel => exact ⟨0 + 1, by go_num, by omega, RR.out, B9.out, O.out⟩
                case measure => simp [intOf]
          · rw [show ((1 : Nat) : Int) = 1 from rfl]
            have c9 := B9.out.cell0 (i := 1) rfl
            go_wp2_with fail
            go_loopw [13, 14] (fun sv kv wq => ∃ k : Nat, kv = .int .i64 k ∧ sv = .int .i64 (sumC C 1 k) ∧ k ≤ n ∧ R.rep wq b F n C ∧ Bk wq h9 36 (s3V C n) ∧ Only [] w wq) (fun _ kv _ => n - (intOf kv).toNat)
            case atStart => exact ⟨0, rfl, rfl, Nat.zero_le _, RR.out, B9.out, O.out⟩
            case round =>
              clear RR B9 O c9
              obtain ⟨k, rfl, rfl, hk, hr, hb9, o⟩ := hrel
              have O := Lib.hid o
              have RR := Lib.hid hr
              have B9 := Lib.hid hb9
              by_cases hlt : k < n
              · have K2 : Hid (Calls Try.prog 14 #[ptA b, .int .i64 k, .int .i64 1] wr fun e w' => e = .returned (.int .i64 (C k 1)) ∧ Only [] wr w') := Lib.hid (R.count k 1 hlt (by omega) hr)
                have hbd := OK.out k 1 hlt (by omega)
                have hsb := sumC_bd OK.out (show 1 < 3 by omega) k (by omega)
                have ws : IntKind.i64.wrap (sumC C 1 k + C k 1) = sumC C 1 k + C k 1 := IntWalk.i64_in _ (by omega)
                have wd : IntKind.i64.wrap (64 - C k 1) = 64 - C k 1 := IntWalk.i64_in _ (by omega)
                have q0 : decide (C k 1 < 0) = false := decide_eq_false (by omega)
                have q1 : decide (64 < C k 1) = false := decide_eq_false (by omega)
                have t0 : (64 - C k 1 != 64 - C k 1) = false := bne_self_eq_false _
                have HSU : Hid (sumC C 1 (k + 1) = sumC C 1 k + C k 1) := Lib.hid rfl
                clear o hr hb9
                go_wp2_with fail
                (with_reducible refine K2.out.mono ?_)
                rintro e w2 ⟨rfl, o2⟩
                have R2 := Lib.hid (R.only RR.out o2 (by simp))
                have K3 := Lib.hid (R.room k hlt R2.out)
                have B2 := Lib.hid (B9.out.only o2 (by simp))
                have O2 := Lib.hid (O.out.trans o2 (by simp))
                generalize C k 1 = ck at *
                clear o2 K2
                go_wp2_with fail
                (with_reducible refine K3.out.mono ?_)
                rintro e w3 ⟨rfl, o3⟩
                have R3 := Lib.hid (R.only R2.out o3 (by simp))
                have B3 := Lib.hid (B2.out.only o3 (by simp))
                have O3 := Lib.hid (O2.out.trans o3 (by simp))
                clear o3 K3
                go_wp2_with fail
                go_roundw
                case rel => exact ⟨k + 1, by go_num, by rw [HSU.out], by omega, R3.out, B3.out, O3.out⟩
                case measure => simp [intOf]; omega
              · have e : k = n := by omega
                subst e
                have c9 := hb9.cell0 (i := 1) rfl
                have t0 : (sumC C 1 k != sumC C 1 k) = false := bne_self_eq_false _
                clear o hr hb9
                go_wp2_with fail
                go_roundw
                case rel => exact ⟨1 + 1, by go_num, by omega, RR.out, B9.out, O.out⟩
                case measure => simp [intOf]
          · rw [show ((2 : Nat) : Int) = 2 from rfl]
            have c9 := B9.out.cell0 (i := 2) rfl
            go_wp2_with fail
            go_loopw [13, 14] (fun sv kv wq => ∃ k : Nat, kv = .int .i64 k ∧ sv = .int .i64 (sumC C 2 k) ∧ k ≤ n ∧ R.rep wq b F n C ∧ Bk wq h9 36 (s3V C n) ∧ Only [] w wq) (fun _ kv _ => n - (intOf kv).toNat)
            case atStart => exact ⟨0, rfl, rfl, Nat.zero_le _, RR.out, B9.out, O.out⟩
            case round =>
              clear RR B9 O c9
              obtain ⟨k, rfl, rfl, hk, hr, hb9, o⟩ := hrel
              have O := Lib.hid o
              have RR := Lib.hid hr
              have B9 := Lib.hid hb9
              by_cases hlt : k < n
              · have K2 : Hid (Calls Try.prog 14 #[ptA b, .int .i64 k, .int .i64 2] wr fun e w' => e = .returned (.int .i64 (C k 2)) ∧ Only [] wr w') := Lib.hid (R.count k 2 hlt (by omega) hr)
                have hbd := OK.out k 2 hlt (by omega)
                have hsb := sumC_bd OK.out (show 2 < 3 by omega) k (by omega)
                have ws : IntKind.i64.wrap (sumC C 2 k + C k 2) = sumC C 2 k + C k 2 := IntWalk.i64_in _ (by omega)
                have wd : IntKind.i64.wrap (64 - C k 2) = 64 - C k 2 := IntWalk.i64_in _ (by omega)
                have q0 : decide (C k 2 < 0) = false := decide_eq_false (by omega)
                have q1 : decide (64 < C k 2) = false := decide_eq_false (by omega)
                have t0 : (64 - C k 2 != 64 - C k 2) = false := bne_self_eq_false _
                have HSU : Hid (sumC C 2 (k + 1) = sumC C 2 k + C k 2) := Lib.hid rfl
                clear o hr hb9
                go_wp2_with fail
                (with_reducible refine K2.out.mono ?_)
                rintro e w2 ⟨rfl, o2⟩
                have R2 := Lib.hid (R.only RR.out o2 (by simp))
                have K3 := Lib.hid (R.room k hlt R2.out)
                have B2 := Lib.hid (B9.out.only o2 (by simp))
                have O2 := Lib.hid (O.out.trans o2 (by simp))
                generalize C k 2 = ck at *
                clear o2 K2
                go_wp2_with fail
                (with_reducible refine K3.out.mono ?_)
                rintro e w3 ⟨rfl, o3⟩
                have R3 := Lib.hid (R.only R2.out o3 (by simp))
                have B3 := Lib.hid (B2.out.only o3 (by simp))
                have O3 := Lib.hid (O2.out.trans o3 (by simp))
                clear o3 K3
                go_wp2_with fail
                go_roundw
                case rel => exact ⟨k + 1, by go_num, by rw [HSU.out], by omega, R3.out, B3.out, O3.out⟩
                case measure => simp [intOf]; omega
              · have e : k = n := by omega
                subst e
                have c9 := hb9.cell0 (i := 2) rfl
                have t0 : (sumC C 2 k != sumC C 2 k) = false := bne_self_eq_false _
                clear o hr hb9
                go_wp2_with fail
                go_roundw
                case rel => exact ⟨2 + 1, by go_num, by omega, RR.out, B9.out, O.out⟩
                case measure => simp [intOf]
          · have K5 := Lib.hid (hA wr)
            go_wp2_with fail
            (with_reducible refine K5.out.mono ?_)
            rintro e w5 ⟨rfl, o5⟩
            go_wp2_with fail
            go_ret
            exact ⟨rfl, O.out.trans o5 (by simp)⟩
  · have O1 := Lib.hid o1
    have K2 := Lib.hid (rnew_no c w1 hno)
    clear o1 K1
    go_wp2_with fail
    (with_reducible refine K2.out.mono ?_)
    rintro e w2 ⟨rfl, o2⟩
    have O2 := Lib.hid (O1.out.trans o2 (by simp))
    have K3 := Lib.hid (hA (w2.alloc (.cells #[.slice none 0 0] 33)))
    clear o2 K2
    go_wp2_with fail
    (with_reducible refine K3.out.mono ?_)
    rintro e w3 ⟨rfl, o3⟩
    go_wp2_with fail
    go_ret
    exact ⟨rfl, (O2.out.alloc _).trans o3 (by simp)⟩
end Go.Proofs.Ytcchahgfjnphgaa
