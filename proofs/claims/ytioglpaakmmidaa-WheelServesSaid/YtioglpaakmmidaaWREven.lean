/- Even, the document's. -/
import Derived.Test.YtioglpaakmmidaaWEven
import Derived.Test.YtioglpaakmmidaaWHelp
namespace Go.Proofs.Ytioglpaakmmidaa
open Go.RowKit

theorem own_ne {w : World} {base : Nat} {v : Value} {xs : List Int} (h : OwnL w base v xs) {B : Nat} {t : TypeId} {cs : Array Value} (hb : Bk w B t cs) (hne : t ≠ 3) : v.ownBlock ≠ some B := by
  rcases h.2 with ⟨rfl, _⟩ | ⟨g, cap, cur, rfl, _, hh, _⟩
  · simp [Value.ownBlock]
  · intro he
    have : g = B := by simpa [Value.ownBlock] using he
    subst this
    exact hne (Bk.uniq hb hh).1

def R1 (w : World) (W : Cred) (v5 v : Value) (wr : World) : Prop :=
  ∃ k : Nat, v = .int .i64 k ∧ v5 = .int .i64 (psum W k) ∧ k ≤ 3 ∧ (∀ j : Nat, j < k → 1 ≤ W j) ∧ 0 ≤ psum W k ∧ psum W k ≤ 1000 ∧ (k < 3 → psum W k ≤ 500) ∧ (k < 2 → psum W k ≤ 250) ∧ wr = w.alloc (.cells (c3 W) 35)
theorem R1.step {w wr : World} {W : Cred} {k : Nat} (hk : k < 3) (h1 : 1 ≤ W k) (h2 : W k ≤ 64) (hall : ∀ j : Nat, j < k → 1 ≤ W j) (a0 : 0 ≤ psum W k) (a2 : k < 3 → psum W k ≤ 500) (a3 : k < 2 → psum W k ≤ 250) (hw : wr = w.alloc (.cells (c3 W) 35)) :
    R1 w W (.int .i64 (psum W k + W k)) (.int .i64 ((k : Int) + 1)) wr := by
  have hc : k = 0 ∨ k = 1 ∨ k = 2 := by omega
  have h2' := a2 hk
  refine ⟨k + 1, by go_num, rfl, by omega, fun j hj => ?_, by simp only [psum]; omega, by simp only [psum]; omega, ?_, ?_, hw⟩
  · by_cases e : j = k
    · subst e; exact h1
    · exact hall j (by omega)
  · intro h
    have := a3 (by omega)
    simp only [psum]
    omega
  · intro h
    obtain rfl : k = 0 := by omega
    simp only [psum] at *
    omega
theorem not_okR {W : Cred} {k : Nat} (hk : k < 3) (hbad : W k < 1 ∨ 64 < W k) : ¬ OkW W := by
  intro ok
  have := ok.w0
  have := ok.w1
  have := ok.w2
  have := ok.top
  have hc : k = 0 ∨ k = 1 ∨ k = 2 := by omega
  rcases hc with rfl | rfl | rfl <;> simp at hbad <;> omega

set_option maxHeartbeats 2000000 in
theorem reven_no (W : Cred) (w : World) (hno : ¬ OkW W) :
    Calls Try.prog 22 #[.agg (c3 W)] w fun e w' => e = .returned (.tuple #[.slice none 0 0, .int .i64 1]) ∧ Only [] w w' := by
  have HNO := Lib.hid hno
  clear hno
  unfold c3
  go_enter Try.func22, Try.ntmps22
  go_wp2_with fail
  go_loopw [5, 6] (fun v5 v wr => R1 w W v5 v wr) (fun _ v _ => 3 - (intOf v).toNat)
  case atStart => exact ⟨0, rfl, rfl, by omega, fun j hj => absurd hj (Nat.not_lt_zero j), Int.le_refl _, (by decide : (0 : Int) ≤ 1000), fun _ => (by decide : (0 : Int) ≤ 500), fun _ => (by decide : (0 : Int) ≤ 250), rfl⟩
  case round =>
    obtain ⟨k, rfl, rfl, hk, hall, hs0, hs1, hs2, hs3, hw⟩ := hrel
    by_cases hk3 : k < 3
    · have hb : Bk wr w.heap.size 35 (c3 W) := by rw [hw]; exact Bk.made w 35 (c3 W)
      have g1 := hb.cell0 (c3_at W hk3)
      by_cases h1 : W k < 1
      · have HW := Lib.hid hw
        generalize hx : W k = x at *
        generalize hs : psum W k = s at *
        clear hall hx hs hb hw hs2 hs3
        go_wp2_with fail
        go_ret2
        exact ⟨rfl, by rw [HW.out]; exact (Only.refl _ _).alloc _⟩
      · by_cases h2 : 64 < W k
        · have HW := Lib.hid hw
          generalize hx : W k = x at *
          generalize hs : psum W k = s at *
          clear hall hx hs hb hw hs2 hs3
          go_wp2_with fail
          go_ret2
          exact ⟨rfl, by rw [HW.out]; exact (Only.refl _ _).alloc _⟩
        · have HN := Lib.hid (R1.step hk3 (by omega) (by omega) hall hs0 hs2 hs3 hw)
          generalize hx : W k = x at *
          generalize hs : psum W k = s at *
          clear hall hx hs hb hw hs2 hs3
          go_wp2_with fail
          go_roundw
          case rel => exact HN.out
          case measure => simp [intOf]; omega
    · obtain rfl : k = 3 := by omega
      have hbig : 64 < psum W 3 := by
        apply Int.lt_of_not_ge
        intro hle
        exact HNO.out (psum_ok hall hle).1
      have HW := Lib.hid hw
      generalize psum W 3 = s at *
      clear hall hw hs2 hs3
      go_wp2_with fail
      go_ret2
      exact ⟨rfl, by rw [HW.out]; exact (Only.refl _ _).alloc _⟩

/-- What the document's Even hands back. -/
def NewR (w : World) (W : Cred) (e : Ending) (w' : World) : Prop :=
  ∃ A cap, e = .returned (.tuple #[.slice A (allW W) cap, .int .i64 0]) ∧ Rd w' A (evs W (allW W) (allW W)) ∧ (∀ bl off, A = some ⟨bl, off, none⟩ → w.heap.size ≤ bl) ∧ Only [] w w'
def R2 (w : World) (W : Cred) (n B1 B : Nat) (v4 v : Value) (wr : World) : Prop :=
  ∃ i : Nat, v = .int .i64 i ∧ i ≤ n ∧ OwnL wr w.heap.size v4 (evs W n i) ∧ Bk wr B1 35 (c3 W) ∧ Bk wr B 35 (c3 (crd W n i)) ∧ Only [] w wr
theorem R2.step {w wr wx w' : World} {W : Cred} {n B1 B i : Nat} {v4 v' : Value} {v : Int} {obj : Obj} (hi : i < n) (h2 : B1 ≠ B) (hB : w.heap.size ≤ B) (b0 : OwnL wr w.heap.size v4 (evs W n i)) (b1 : Bk wr B1 35 (c3 W))
    (b3 : Bk wr B 35 (c3 (fun c => crd W n i c + W c))) (ho : Only [] w wr) (hv : v = crd W n i (pickE W n i : Nat) + W (pickE W n i : Nat) - n)
    (hx : wx = (wr.setCell ⟨B, pickE W n i, none⟩ (.int .i64 v)).alloc obj) (hown : OwnL w' w.heap.size v' (evs W n i ++ [(pickE W n i : Int)])) (hg : wx.grownBy w' v4.ownBlock) :
    R2 w W n B1 B v' (.int .i64 ((i : Int) + 1)) w' := by
  have hp := pick_lt W n i
  have o1 := Only.of_grown hg
  have n1 : B1 ∉ v4.ownBlock.toList := by
    have := own_ne b0 b1 (by decide)
    simpa using this
  have n3 : B ∉ v4.ownBlock.toList := by
    have := own_ne b0 b3 (by decide)
    simpa using this
  subst hx
  refine ⟨i + 1, by go_num, by omega, by rw [evs_succ]; exact hown, ((b1.away h2 _).alloc _).only o1 n1, ?_, ((ho.set (.inr hB) _).alloc _).trans o1 (fun j hj => ?_)⟩
  · have h := ((b3.set (pickE W n i) (.int .i64 v)).alloc obj).only o1 n3
    rw [c3_set (g := crd W n (i + 1)) _ hp (by rw [hv, crd_succ, if_pos rfl]) (fun j hj hne => by
      rw [crd_succ, if_neg (by omega)]
      omega)] at h
    exact h
  · obtain ⟨A, cap, e, _, _, _, hA⟩ := b0.form
    subst e
    cases A with
    | none => simp [Value.ownBlock] at hj
    | some a => exact .inr (World.ownsRow.lt b0 j (by simpa using hj)).1
def R3 (wo : World) (W f : Cred) (B : Nat) (v9 v : Value) (wr : World) : Prop :=
  ∃ k : Nat, v = .int .i64 k ∧ v9 = .int .i64 (bst (fun c => f c + W c) k) ∧ k ≤ 3 ∧ Bk wr B 35 (c3 (addK W f k)) ∧ Only [B] wo wr

set_option maxHeartbeats 4000000 in
theorem reven_yes (W : Cred) (w : World) (ok : OkW W) :
    Calls Try.prog 22 #[.agg (c3 W)] w (NewR w W) := by
  have OK := Lib.hid ok
  clear ok
  unfold c3
  go_enter Try.func22, Try.ntmps22
  go_wp2_with fail
  go_loopw [5, 6] (fun v5 v wr => R1 w W v5 v wr) (fun _ v _ => 3 - (intOf v).toNat)
  case atStart => exact ⟨0, rfl, rfl, by omega, fun j hj => absurd hj (Nat.not_lt_zero j), Int.le_refl _, (by decide : (0 : Int) ≤ 1000), fun _ => (by decide : (0 : Int) ≤ 500), fun _ => (by decide : (0 : Int) ≤ 250), rfl⟩
  case round =>
    obtain ⟨k, rfl, rfl, hk, hall, hs0, hs1, hs2, hs3, hw⟩ := hrel
    by_cases hk3 : k < 3
    · have hb : Bk wr w.heap.size 35 (c3 W) := by rw [hw]; exact Bk.made w 35 (c3 W)
      have g1 := hb.cell0 (c3_at W hk3)
      by_cases h1 : W k < 1
      · exact absurd OK.out (not_okR hk3 (.inl h1))
      · by_cases h2 : 64 < W k
        · exact absurd OK.out (not_okR hk3 (.inr h2))
        · have HN := Lib.hid (R1.step hk3 (by omega) (by omega) hall hs0 hs2 hs3 hw)
          generalize hx : W k = x at *
          generalize hs : psum W k = s at *
          clear hall hx hs hb hw hs2 hs3
          go_wp2_with fail
          go_roundw
          case rel => exact HN.out
          case measure => simp [intOf]; omega
    · obtain rfl : k = 3 := by omega
      have hle : psum W 3 ≤ 64 := by
        have := OK.out.top
        simp [psum]
        omega
      rw [(psum_ok hall hle).2, show ((3 : Nat) : Int) = (3 : Int) from rfl]
      obtain ⟨_, hn1, hn2⟩ := OK.out.all
      have hsz0 : w.heap.size < wr.heap.size := by rw [hw]; simp
      have HB1 := Lib.hid (show Bk wr w.heap.size 35 (c3 W) by rw [hw]; exact Bk.made w 35 (c3 W))
      have HO1 := Lib.hid (show Only [] w wr by rw [hw]; exact (Only.refl [] w).alloc _)
      clear hall hs0 hs1 hs2 hs3 hk hk3 hw hle
      obtain ⟨n, hn⟩ : ∃ n, n = allW W := ⟨_, rfl⟩
      rw [← hn]
      rw [← hn] at hn1 hn2
      have HN := Lib.hid hn
      clear hn
      obtain ⟨B, hB⟩ : ∃ B, B = wr.heap.size := ⟨_, rfl⟩
      have E20 := Lib.hid (show R2 w W n w.heap.size B (.slice none 0 0) (.int .i64 0) (wr.alloc (.cells (c3 fun _ => 0) 35)) from
        ⟨0, rfl, by omega, OwnL.nil _ _, HB1.out.alloc _, by rw [hB]; exact Bk.made _ _ _, HO1.out.alloc _⟩)
      have hgB : w.heap.size < B := by omega
      have HBB := Lib.hid hB
      go_wp2_with fail
      rw [← hB]
      clear hB HB1 HO1
      obtain ⟨wz, hwz⟩ : ∃ wz : World, wz = wr := ⟨_, rfl⟩
      go_loopw [4, 8] (fun v4 v wr => R2 w W n w.heap.size B v4 v wr) (fun _ v _ => n - (intOf v).toNat)
      case atStart => exact E20.out
      case round =>
        clear E20 hwz
        obtain ⟨i, rfl, hi, b0, b1, b3, ho⟩ := hrel
        by_cases hlt : i < n
        · have B0' := Lib.hid b0
          have B1' := Lib.hid b1
          have B3' := Lib.hid b3
          have HO := Lib.hid ho
          clear b0 b1 b3 ho
          obtain ⟨wo, rfl⟩ : ∃ wo : World, wo = wr := ⟨_, rfl⟩
          go_wp2_with fail
          go_loopw [9, 10] (fun v9 v wr => R3 wo W (crd W n i) B v9 v wr) (fun _ v _ => 3 - (intOf v).toNat)
          case atStart => exact ⟨0, rfl, rfl, by omega, by rw [addK_zero]; exact B3'.out, Only.refl _ _⟩
          case round =>
            obtain ⟨k, rfl, rfl, hk, hb, h3o⟩ := hrel
            by_cases hk3 : k < 3
            · have e1 : addK W (crd W n i) k k = crd W n i k := by
                unfold addK
                rw [if_neg (by omega)]
                omega
              have g1 := hb.cell0 (c3_at _ hk3)
              rw [e1] at g1
              have f1 := hb.free k
              have g2 := (B1'.out.only h3o (by simp; omega)).cell0 (c3_at W hk3)
              have hcb := crd_bound OK.out i hk3
              rw [← HN.out] at hcb
              have hwb : -1000 ≤ W k ∧ W k ≤ 1000 := by
                have := OK.out.w0
                have := OK.out.w1
                have := OK.out.w2
                have := OK.out.top
                have hc : k = 0 ∨ k = 1 ∨ k = 2 := by omega
                rcases hc with rfl | rfl | rfl <;> simp <;> omega
              have HS := Lib.hid (fun q v a => E3.step (v := v) q hk3 hb h3o a)
              have hm : bst (fun c => crd W n i c + W c) k < 3 := bst_lt3 _ hk
              have hmk : bst (fun c => crd W n i c + W c) k ≤ k := by have := bst_lt (fun c => crd W n i c + W c) k; omega
              have HM : Hid (bst (fun c => crd W n i c + W c) (k + 1) = if (fun c => crd W n i c + W c) (bst (fun c => crd W n i c + W c) k) < (fun c => crd W n i c + W c) k then k else bst (fun c => crd W n i c + W c) k) := Lib.hid rfl
              have HA : Hid (∀ j : Nat, j ≤ k → addK W (crd W n i) (k + 1) j = crd W n i j + W j) := Lib.hid (fun j hj => by unfold addK; rw [if_pos (by omega)])
              generalize hx : W k = x at *
              generalize hy : crd W n i k = y at *
              have p1 : 0 ≤ (k : Int) := by omega
              have p2 : (k : Int) < 3 := by omega
              have HX := Lib.hid hx
              have HY := Lib.hid hy
              have HE6 := Lib.hid (show IntKind.i64.wrap (y + x) = y + x from IntWalk.i64_in _ (by omega))
              clear hb h3o e1 hx hy
              have e6 := HE6.out
              go_wp2_with fail
              refine wp_region_quiet_then 9 (by kernel_rfl) (by kernel_rfl) ?_
              simp only [List.take_succ_cons, List.take_zero, List.drop_succ_cons, List.drop_zero]
              repeat (go_big_quiet_step (fail))
              refine wpQuiet_nil ?_
              intro q
              clear e6
              go_wp2_with fail
              obtain ⟨k', hk', _, hb2, h3o2⟩ := HS.out q _ rfl
              have hkk : k' = k + 1 := by
                have : ((k : Int) + 1) = (k' : Int) := by injection hk'
                omega
              subst hkk
              have c1 := hb2.cell0 (c3_at _ hk3)
              have c2 := hb2.cell0 (c3_at _ hm)
              rw [HA.out _ (Nat.le_refl _)] at c1
              rw [HA.out _ hmk] at c2
              generalize (wr.drewN q).setCell ⟨B, k, none⟩ (.int .i64 (y + x)) = w2 at *
              have p3 : 0 ≤ (bst (fun c => crd W n i c + W c) k : Int) := by omega
              have p4 : (bst (fun c => crd W n i c + W c) k : Int) < 3 := by omega
              obtain ⟨x1, hx1⟩ : ∃ x1, x1 = crd W n i k + W k := ⟨_, rfl⟩
              obtain ⟨x2, hx2⟩ : ∃ x2, x2 = crd W n i (bst (fun c => crd W n i c + W c) k : Nat) + W (bst (fun c => crd W n i c + W c) k : Nat) := ⟨_, rfl⟩
              have HM2 : Hid (bst (fun c => crd W n i c + W c) (k + 1) = if x2 < x1 then k else bst (fun c => crd W n i c + W c) k) := Lib.hid (by rw [hx1, hx2]; exact HM.out)
              rw [← hx1] at c1
              rw [← hx2] at c2
              clear hx1 hx2 HM HS HA g1 g2 f1
              by_cases hlt2 : x2 < x1
              · have HN2 := Lib.hid (fun q => show R3 wo W (crd W n i) B (.int .i64 k) (.int .i64 ((k : Int) + 1)) (w2.drewN q) from ⟨k + 1, by go_num, by rw [HM2.out, if_pos hlt2], by omega, hb2.drewN q, h3o2.drewN q⟩)
                have hd : decide (x2 < x1) = true := decide_eq_true hlt2
                clear hb2 h3o2 hlt2 HM2
                generalize bst (fun c => crd W n i c + W c) k = m at *
                go_quiet (fail)
                go_wp2_with fail
                go_roundw
                case rel => exact HN2.out _
                case measure => simp [intOf]; omega
              · have HN2 := Lib.hid (fun q => show R3 wo W (crd W n i) B (.int .i64 (bst (fun c => crd W n i c + W c) k)) (.int .i64 ((k : Int) + 1)) (w2.drewN q) from ⟨k + 1, by go_num, by rw [HM2.out, if_neg hlt2], by omega, hb2.drewN q, h3o2.drewN q⟩)
                have hd : decide (x2 < x1) = false := decide_eq_false hlt2
                clear hb2 h3o2 hlt2 HM2
                generalize bst (fun c => crd W n i c + W c) k = m at *
                go_quiet (fail)
                go_wp2_with fail
                go_roundw
                case rel => exact HN2.out _
                case measure => simp [intOf]; omega
            · obtain rfl : k = 3 := by omega
              rw [addK_full] at hb
              have hpk : bst (fun c => crd W n i c + W c) 3 = pickE W n i := rfl
              rw [hpk]
              have hp := pick_lt W n i
              have hcb := crd_bound OK.out i hp
              rw [← HN.out] at hcb
              have hwb : -1000 ≤ W (pickE W n i : Nat) ∧ W (pickE W n i : Nat) ≤ 1000 := by
                have := OK.out.w0
                have := OK.out.w1
                have := OK.out.w2
                have := OK.out.top
                have hc : pickE W n i = 0 ∨ pickE W n i = 1 ∨ pickE W n i = 2 := by omega
                rcases hc with hc | hc | hc <;> rw [hc] <;> simp <;> omega
              have b0 : OwnL wr w.heap.size u4 (evs W n i) := B0'.out.only h3o (fun g hg => by
                have := own_ne B0'.out B3'.out (by decide)
                intro hm
                simp at hm
                subst hm
                exact this hg)
              have b1 := B1'.out.only h3o (by simp; omega)
              have ho := HO.out.trans h3o (by simp; omega)
              have c1 := hb.cell0 (c3_at _ hp)
              have f1 := hb.free (pickE W n i)
              have HS := Lib.hid (fun v v' w' wx obj a b c d => R2.step (v := v) (v' := v') (w' := w') (wx := wx) (obj := obj) hlt (by omega) (by omega) b0 b1 hb ho a b c d)
              obtain ⟨x1, hx1⟩ : ∃ x1, x1 = crd W n i (pickE W n i : Nat) + W (pickE W n i : Nat) := ⟨_, rfl⟩
              rw [← hx1] at c1 HS
              have hxb : -2000 ≤ x1 ∧ x1 ≤ 2000 := by omega
              have HB0 := Lib.hid (fun v => show OwnL (wr.setCell ⟨B, pickE W n i, none⟩ v) w.heap.size u4 (evs W n i) from b0.only ((Only.refl [B] _).set (.inl (by simp)) v) (fun g hg => by
                have := own_ne b0 hb (by decide)
                intro hm
                simp at hm
                subst hm
                exact this hg))
              have hsz := ho.size
              have hsz2 : ∀ v, (wr.setCell ⟨B, pickE W n i, none⟩ v).heap.size = wr.heap.size := fun v => by simp [World.setCell]
              have HSZ := Lib.hid hsz2
              have hev : (evs W n i).length = i := evs_len W n i
              have HEV := Lib.hid hev
              clear hx1 hpk hb b0 b1 ho h3o hcb hwb hsz2 hev
              have p1 : 0 ≤ (pickE W n i : Int) := by omega
              have p2 : (pickE W n i : Int) < 3 := by omega
              generalize pickE W n i = p at *
              go_wp2_with (at_builtin; refine wpList_app _ (by rfl) (.tmp 67) (.tmp 69) (by rfl) (by rfl) ((HB0.out (.int .i64 (x1 - n))).alloc (.cells #[.int .i64 p] 3)) (some ⟨wr.heap.size, 0, none⟩) [(p : Int)] 1 1 (by rfl) rfl (by rw [← HSZ.out (.int .i64 (x1 - n))]; exact Rd.of_bk (Bk.made _ 3 (ics [_]))) (by simp; omega) (by rw [HEV.out]; simp; omega) ?_; intro v' w1 hown1 hg1 _; have N1 := Lib.hid (HS.out _ _ _ _ _ rfl rfl hown1 hg1); clear hown1 hg1)
              go_roundw
              case rel => exact N1.out
              case measure => simp [intOf]; omega
        · obtain rfl : i = n := by omega
          obtain ⟨A, cap, rfl, h1, h2, h3, h4⟩ := b0.form
          rw [evs_len]
          have HF := Lib.hid (show NewR w W (.returned (.tuple #[.slice A i cap, .int .i64 0])) wr from ⟨A, cap, by rw [HN.out], by rw [← HN.out]; exact h3, fun bl off e => (h4 bl off e).1, ho⟩)
          clear b0 b1 b3 ho h1 h2 h3 h4
          go_wp2_with fail
          go_ret2
          exact HF.out
end Go.Proofs.Ytioglpaakmmidaa
