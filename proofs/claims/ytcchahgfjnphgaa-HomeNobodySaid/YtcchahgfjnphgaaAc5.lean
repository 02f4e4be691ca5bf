/- Accounts turned: Move; asked: Count, Room. -/
import Derived.Test.YtcchahgfjnphgaaAc4
namespace Go.Proofs.Ytcchahgfjnphgaa
open Go.RowKit
set_option maxRecDepth 20000

/-- What comes of Move. -/
def moveU (n : Nat) (u : Nat → Int) (k t c m : Int) : (Nat → Int) × Int :=
  if isAt n k c ∧ isAt n t c ∧ 0 ≤ m then
    (if (withF u (k.toNat * 3 + c.toNat) (-m)).2 = 0 then
      (if (withF (withF u (k.toNat * 3 + c.toNat) (-m)).1 (t.toNat * 3 + c.toNat) m).2 = 0 then ((withF (withF u (k.toNat * 3 + c.toNat) (-m)).1 (t.toNat * 3 + c.toNat) m).1, 0)
        else (u, (withF (withF u (k.toNat * 3 + c.toNat) (-m)).1 (t.toNat * 3 + c.toNat) m).2))
      else (u, (withF u (k.toNat * 3 + c.toNat) (-m)).2))
  else (u, 1)
set_option maxHeartbeats 4000000 in
theorem move_no {w : World} {b n : Nat} {u : Nat → Int} (h : AccIs w b n u) (k t c m : Int) (hno : ¬ (isAt n k c ∧ isAt n t c ∧ 0 ≤ m)) : Calls Try.prog 13 #[ptA b, .int .i64 k, .int .i64 t, .int .i64 c, .int .i64 m] w (TurnE w b n (u, 1)) := by
  have K1 := Lib.hid (has_yes h k c)
  have K2 := Lib.hid (has_yes h t c)
  have FIN := Lib.hid (show TurnE w b n (u, 1) (.returned (.int .i64 1)) w from ⟨rfl, h, Only.refl _ _⟩)
  clear h
  by_cases h1 : isAt n k c
  · rw [decide_eq_true h1] at K1
    by_cases h2 : isAt n t c
    · rw [decide_eq_true h2] at K2
      have h3 : m < 0 := by
        rcases Int.lt_or_le m 0 with h | h
        · exact h
        · exact absurd ⟨h1, h2, h⟩ hno
      clear hno h1 h2
      go_enter Try.func13, Try.ntmps13
      go_wp2_with fail
      (with_reducible refine K1.out.mono ?_)
      rintro e w1 ⟨rfl, rfl⟩
      clear K1
      go_wp2_with fail
      (with_reducible refine K2.out.mono ?_)
      rintro e w1 ⟨rfl, rfl⟩
      clear K2
      go_wp2_with fail
      go_ret
      exact FIN.out
    · rw [decide_eq_false h2] at K2
      clear hno h1 h2
      go_enter Try.func13, Try.ntmps13
      go_wp2_with fail
      (with_reducible refine K1.out.mono ?_)
      rintro e w1 ⟨rfl, rfl⟩
      clear K1
      go_wp2_with fail
      (with_reducible refine K2.out.mono ?_)
      rintro e w1 ⟨rfl, rfl⟩
      clear K2
      go_wp2_with fail
      go_ret
      exact FIN.out
  · rw [decide_eq_false h1] at K1
    clear hno h1
    go_enter Try.func13, Try.ntmps13
    go_wp2_with fail
    (with_reducible refine K1.out.mono ?_)
    rintro e w1 ⟨rfl, rfl⟩
    clear K1
    go_wp2_with fail
    go_ret
    exact FIN.out
set_option maxHeartbeats 8000000 in
theorem move_yes {w : World} {b n : Nat} {u : Nat → Int} (h : AccIs w b n u) (k t c m : Int) (hm : m ≤ 9223372036854775807) (hyes : isAt n k c ∧ isAt n t c ∧ 0 ≤ m) : Calls Try.prog 13 #[ptA b, .int .i64 k, .int .i64 t, .int .i64 c, .int .i64 m] w (TurnE w b n (moveU n u k t c m)) := by
  have K1 := has_yes h k c
  have K2 := has_yes h t c
  rw [decide_eq_true hyes.1] at K1
  rw [decide_eq_true hyes.2.1] at K2
  have e1 : moveU n u k t c m = _ := if_pos hyes
  rw [e1]
  clear e1
  obtain ⟨h1, h2, h3⟩ := hyes
  unfold isAt at h1 h2
  obtain ⟨k, rfl⟩ := Int.eq_ofNat_of_zero_le h1.1.1
  obtain ⟨c, rfl⟩ := Int.eq_ofNat_of_zero_le h1.2.1
  obtain ⟨t, rfl⟩ := Int.eq_ofNat_of_zero_le h2.1.1
  rw [Int.toNat_natCast, Int.toNat_natCast, Int.toNat_natCast]
  have hn := h.n16
  have hui := h.ok (k * 3 + c) (by omega)
  have K1 := Lib.hid K1
  have K2 := Lib.hid K2
  have KW := Lib.hid (fun w' => with_any u k c (-m) w' h.ok (by omega) (by omega) (by omega))
  have RG := Lib.hid (acc_range h.blk)
  have HI := Lib.hid (isz2 u)
  have HH := Lib.hid h
  have WO := Lib.hid (withF_ok (i := k * 3 + c) (n := -m) h.ok)
  have WB : Hid ((withF u (k * 3 + c) (-m)).2 = 0 → m ≤ 64) := Lib.hid (fun h => by
    unfold withF at h
    split at h
    · rename_i hv; omega
    · dsimp only at h
      split at h <;> cases h)
  clear hui h
  generalize withF u (k * 3 + c) (-m) = r at *
  obtain ⟨v, er⟩ := r
  dsimp only at KW WO WB ⊢
  have hneg : IntKind.i64.wrap (-m) = -m := IntWalk.i64_in _ ⟨by omega, by omega⟩
  have hm0 : (m < 0) = False := by simp; omega
  by_cases he : er = 0
  · subst he
    have hv := WO.out
    have hmb := WB.out rfl
    have KV := Lib.hid (fun w' => with_any v t c m w' hv (by omega) (by omega) (by have := hv (t * 3 + c) (by omega); omega))
    have WV := Lib.hid (withF_ok (i := t * 3 + c) (n := m) hv)
    clear hv hmb WO WB h1 h2
    rw [if_pos rfl]
    generalize withF v (t * 3 + c) m = s at *
    obtain ⟨v', es⟩ := s
    dsimp only at KV WV ⊢
    generalize hR : (if es = 0 then (v', (0 : Int)) else (u, es)) = R
    have HR := Lib.hid hR
    clear hR
    go_enter Try.func13, Try.ntmps13
    go_wp2_with fail
    (with_reducible refine K1.out.mono ?_)
    rintro e w1 ⟨rfl, rfl⟩
    clear K1
    go_wp2_with fail
    (with_reducible refine K2.out.mono ?_)
    rintro e w1 ⟨rfl, rfl⟩
    clear K2
    go_wp2_with (refine wpList_load_mid (by rfl) 45 _ (by rfl) b 2 (by rfl) (cL u) _ RG.out Try.underlying45 (by rfl) HI.out ?_)
    (with_reducible refine (KW.out _).mono ?_)
    rintro e w2 ⟨rfl, o2⟩
    have z0 := Bk.made w2 45 (cA fun _ => 0)
    have oz := o2.alloc (.cells (cA fun _ => 0) 45)
    have hz : ∀ W7, (w2.alloc (.cells (cA fun _ => 0) 45)).setRow w2.heap.size (cA v) = W7 → Bk W7 w2.heap.size 45 (cA v) ∧ Only [] w W7 := fun W7 hW => by
      obtain ⟨b7, o7⟩ := row_set z0 hW
      exact ⟨b7, oz.trans o7 (fun i hi => .inr (by simp at hi; have := o2.size; omega))⟩
    simp only [cA_zero] at z0 hz
    have Z0 := Lib.hid z0
    have HZ := Lib.hid hz
    clear z0 oz hz o2 KW
    go_wp2_with (first
      | (refine wpList_store_row (by rfl) _ _ _ (by rfl) w2.heap.size (cA v) (by rfl) (by rfl) 45 _ Z0.out isz (by rfl) (cA_one _) ?_; generalize hW : World.setRow _ _ _ = W7; obtain ⟨b7, o7⟩ := HZ.out _ hW; clear hW; have B7 := Lib.hid b7; have O7 := Lib.hid o7; clear b7 o7)
      | (refine wpList_load_row (by rfl) 45 _ (by rfl) w2.heap.size (by rfl) 45 (cA v) (0, 0) _ B7.out Try.underlying45 (by rfl) isz ?_))
    (with_reducible refine (KV.out _).mono ?_)
    rintro e w3 ⟨rfl, o3⟩
    have H3 := Lib.hid ((HH.out.only O7.out (by simp)).only o3 (by simp))
    have O3 := Lib.hid ((O7.out.trans o3 (by simp)).more (T := [b]) (by simp))
    clear KV o3 O7 B7
    by_cases hes : es = 0
    · subst hes
      have KB := Lib.hid (become_yes H3.out WV.out)
      clear WV
      go_wp2_with fail
      (with_reducible refine KB.out.mono ?_)
      rintro e w4 ⟨rfl, h4, o4⟩
      have FIN := Lib.hid (show TurnE w b n R (.returned (.int .i64 0)) w4 by rw [← HR.out]; exact show TurnE w b n (v', 0) _ _ from ⟨rfl, h4, O3.out.trans o4 (fun i hi => .inl hi)⟩)
      clear h4 o4
      go_wp2_with fail
      go_ret
      exact FIN.out
    · have KB := Lib.hid (become_no (w := w3) (p := ptA b) (v := v') hes)
      go_wp2_with fail
      (with_reducible refine KB.out.mono ?_)
      rintro e w4 ⟨rfl, o4⟩
      have FIN := Lib.hid (show TurnE w b n R (.returned (.int .i64 es)) w4 by rw [← HR.out, if_neg hes]; exact ⟨rfl, H3.out.only o4 (by simp), O3.out.trans o4 (by simp)⟩)
      clear o4
      go_wp2_with fail
      go_ret
      exact FIN.out
  · rw [if_neg he]
    have hbe : (er != 0) = true := by simpa using he
    have FIN0 := Lib.hid (fun w3 (o3 : Only [] w w3) => show TurnE w b n (u, er) (.returned (.int .i64 er)) w3 from ⟨rfl, HH.out.only o3 (by simp), o3.more (by simp)⟩)
    clear WO WB h1 h2 he HH
    go_enter Try.func13, Try.ntmps13
    go_wp2_with fail
    (with_reducible refine K1.out.mono ?_)
    rintro e w1 ⟨rfl, rfl⟩
    clear K1
    go_wp2_with fail
    (with_reducible refine K2.out.mono ?_)
    rintro e w1 ⟨rfl, rfl⟩
    clear K2
    go_wp2_with (refine wpList_load_mid (by rfl) 45 _ (by rfl) b 2 (by rfl) (cL u) _ RG.out Try.underlying45 (by rfl) HI.out ?_)
    (with_reducible refine (KW.out _).mono ?_)
    rintro e w2 ⟨rfl, o2⟩
    have z0 := Bk.made w2 45 (cA fun _ => 0)
    have oz := o2.alloc (.cells (cA fun _ => 0) 45)
    have hz : ∀ W7, (w2.alloc (.cells (cA fun _ => 0) 45)).setRow w2.heap.size (cA v) = W7 → Bk W7 w2.heap.size 45 (cA v) ∧ Only [] w W7 := fun W7 hW => by
      obtain ⟨b7, o7⟩ := row_set z0 hW
      exact ⟨b7, oz.trans o7 (fun i hi => .inr (by simp at hi; have := o2.size; omega))⟩
    simp only [cA_zero] at z0 hz
    have Z0 := Lib.hid z0
    have HZ := Lib.hid hz
    clear z0 oz hz o2 KW
    go_wp2_with (refine wpList_store_row (by rfl) _ _ _ (by rfl) w2.heap.size (cA v) (by rfl) (by rfl) 45 _ Z0.out isz (by rfl) (cA_one _) ?_; generalize hW : World.setRow _ _ _ = W7; obtain ⟨b7, o7⟩ := HZ.out _ hW; clear hW; have O7 := Lib.hid o7; clear b7 o7)
    go_ret
    exact FIN0.out _ O7.out
theorem move_u {w : World} {b n : Nat} {u : Nat → Int} (h : AccIs w b n u) (k t c m : Int) (hm : m ≤ 9223372036854775807) : Calls Try.prog 13 #[ptA b, .int .i64 k, .int .i64 t, .int .i64 c, .int .i64 m] w (TurnE w b n (moveU n u k t c m)) := by
  by_cases hy : isAt n k c ∧ isAt n t c ∧ 0 ≤ m
  · exact move_yes h k t c m hm hy
  · have e : moveU n u k t c m = (u, 1) := if_neg hy
    rw [e]
    exact move_no h k t c m hy

/-! ### Asked -/
set_option maxHeartbeats 2000000 in
theorem count_yes {w : World} {b n : Nat} {u : Nat → Int} (h : AccIs w b n u) (k c : Nat) (hk : k < n) (hc : c < 3) : Calls Try.prog 14 #[ptA b, .int .i64 k, .int .i64 c] w fun e w' => e = .returned (.int .i64 (u (k * 3 + c))) ∧ Only [] w w' := by
  have K := has_yes h k c
  rw [decide_eq_true (show isAt n k c from ⟨by omega, by omega⟩)] at K
  have K := Lib.hid K
  have hn := h.n16
  have c0 := h.blk.cell0 (accC_at (ptA b) n u (show k * 3 + c < 48 by omega))
  have e2 : 2 + (k * 3 + c) = 2 + k * 3 + c := by omega
  rw [e2] at c0
  clear h e2
  go_enter Try.func14, Try.ntmps14
  go_wp2_with fail
  (with_reducible refine K.out.mono ?_)
  rintro e w1 ⟨rfl, rfl⟩
  clear K
  go_wp2_with fail
  go_ret
  exact ⟨rfl, Only.refl _ _⟩
set_option maxHeartbeats 4000000 in
theorem room_yes {w : World} {b n : Nat} {u : Nat → Int} (h : AccIs w b n u) (k : Nat) (hk : k < n) : Calls Try.prog 15 #[ptA b, .int .i64 k] w fun e w' => e = .returned (.agg #[.int .i64 (64 - u (k * 3)), .int .i64 (64 - u (k * 3 + 1)), .int .i64 (64 - u (k * 3 + 2))]) ∧ Only [] w w' := by
  have hn := h.n16
  have o2 := ((Only.refl [] w).alloc (.cells #[.int .i64 0, .int .i64 0, .int .i64 0] 36)).alloc (.cells #[.int .i64 0, .int .i64 0, .int .i64 0] 36)
  have K := hasCore_yes (h.only o2 (by simp)) k
  rw [decide_eq_true (show 0 ≤ (k : Int) ∧ (k : Int) < n by omega)] at K
  have K := Lib.hid K
  have hb := h.blk.lt
  have c0 := h.blk.cell0 (accC_at (ptA b) n u (show k * 3 < 48 by omega))
  have c1 := h.blk.cell0 (accC_at (ptA b) n u (show k * 3 + 1 < 48 by omega))
  have c2 := h.blk.cell0 (accC_at (ptA b) n u (show k * 3 + 2 < 48 by omega))
  have b0 := h.ok (k * 3) (by omega)
  have b1 := h.ok (k * 3 + 1) (by omega)
  have b2 := h.ok (k * 3 + 2) (by omega)
  simp only [← Nat.add_assoc] at c0 c1 c2
  clear h o2
  generalize u (k * 3) = u0 at *
  generalize u (k * 3 + 1) = u1 at *
  generalize u (k * 3 + 2) = u2 at *
  go_enter Try.func15, Try.ntmps15
  go_wp2_with fail
  (with_reducible refine K.out.mono ?_)
  rintro e w1 ⟨rfl, rfl⟩
  clear K
  go_upto_region 5 with fail
  refine wp_loop_rounds 4 ?_
  rw [rounds_succ]
  go_wp2_with fail
  rw [rounds_succ]
  go_wp2_with fail
  rw [rounds_succ]
  go_wp2_with fail
  rw [rounds_succ]
  go_wp2_with fail
  refine bodyPost_ret (by simp [results, Try.results15, go_sem]) rfl ⟨rfl, ((Only.refl [] w).alloc _).alloc _⟩
end Go.Proofs.Ytcchahgfjnphgaa
