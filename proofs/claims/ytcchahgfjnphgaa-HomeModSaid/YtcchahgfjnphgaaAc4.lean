/- Accounts turned: become, Take, Give, Move; asked: Count, Room. -/
import Derived.Test.YtcchahgfjnphgaaAc3
namespace Go.Proofs.Ytcchahgfjnphgaa
open Go.RowKit
set_option maxRecDepth 20000

theorem Bk.cells {g : Nat} {t : TypeId} : ∀ (vs : List Value) (o : Nat) (w : World) (cs : Array Value), Bk w g t cs → ∃ cs', Bk (w.setCells g o vs) g t cs' ∧ cs'.size = cs.size ∧ Only [g] w (w.setCells g o vs) ∧ ∀ j, j < cs.size → cs'[j]? = if o ≤ j ∧ j < o + vs.length then vs[j - o]? else cs[j]?
  | [], o, w, cs, h => ⟨cs, h, rfl, Only.refl _ _, fun j _ => (if_neg (fun g => by simp at g; omega)).symm⟩
  | v :: r, o, w, cs, h => by
    obtain ⟨cs', h1, h2, h3, h4⟩ := Bk.cells r (o + 1) (w.setCell ⟨g, o, none⟩ v) _ (h.set o v)
    refine ⟨cs', h1, by simpa using h2, ((Only.refl [g] w).set (p := ⟨g, o, none⟩) (.inl (by simp)) v).trans h3 (fun i hi => .inl hi), fun j hj => ?_⟩
    rw [h4 j (by simpa using hj)]
    by_cases e : j = o
    · subst e
      rw [if_neg (by omega), if_pos (by simp)]
      simp [hj]
    · by_cases e2 : o + 1 ≤ j ∧ j < o + 1 + r.length
      · rw [if_pos e2, if_pos (by simp; omega)]
        rw [show j - o = (j - (o + 1)) + 1 by omega]
        rfl
      · rw [if_neg e2, if_neg (by simp; omega)]
        simp [Ne.symm e]
theorem acc_cells {w : World} {b : Nat} {p : Value} {n : Int} {u v : Nat → Int} (h : Bk w b 47 (accC p n u)) : Bk (w.setCells b 2 (cL v)) b 47 (accC p n v) ∧ Only [b] w (w.setCells b 2 (cL v)) := by
  obtain ⟨cs', h1, h2, h3, h4⟩ := Bk.cells (cL v) 2 w _ h
  have e : cs' = accC p n v := by
    apply Array.ext_getElem?
    intro j
    have hs : (accC p n u).size = 50 := by simp [cL_len]
    by_cases hj : j < 50
    · rw [h4 j (by omega)]
      match j, hj with
      | 0, _ => rw [if_neg (by omega)]; simp
      | 1, _ => rw [if_neg (by omega)]; simp
      | j + 2, hj => rw [if_pos (by rw [cL_len]; omega)]; simp
    · rw [Array.getElem?_eq_none (by omega), Array.getElem?_eq_none (by simp [cL_len]; omega)]
  rw [e] at h1
  exact ⟨h1, h3⟩
theorem acc_range {w : World} {b : Nat} {p : Value} {n : Int} {u : Nat → Int} (h : Bk w b 47 (accC p n u)) : w.rangeAt b 2 (cL u) := fun j v hv => by
  refine h.cell0 ?_
  rw [show 2 + j = j + 1 + 1 by omega]
  simpa using hv
theorem acc_there {w : World} {b : Nat} {p : Value} {n : Int} {u : Nat → Int} (h : Bk w b 47 (accC p n u)) : w.there b 2 48 := fun j hj => ⟨by
  rw [h.cell0 (accC_at p n u hj)]
  rfl, h.free _⟩
theorem isz2 (u : Nat → Int) : (Try.prog.info? 45).map (·.size) = some (cL u).length := by rw [cL_len]; exact isz
theorem isz3 (u : Nat → Int) : (Try.prog.info? 45).map (·.size) = some (cA u).size := by rw [cA_size]; exact isz
set_option maxHeartbeats 2000000 in
theorem become_yes {w : World} {b n : Nat} {u v : Nat → Int} (h : AccIs w b n u) (hv : InU v) : Calls Try.prog 20 #[ptA b, .agg (cA v), .int .i64 0] w fun e w' => e = .returned (.int .i64 0) ∧ AccIs w' b n v ∧ Only [b] w w' := by
  have hb : b < w.heap.size := h.blk.lt
  have b0 := Bk.made w 45 (cA v)
  have h1 := h.only ((Only.refl [] w).alloc (.cells (cA v) 45)) (by simp)
  have o1 := (Only.refl [b] w).alloc (.cells (cA v) 45)
  obtain ⟨h2, o2⟩ := acc_cells (v := v) h1.blk
  have TH := Lib.hid (acc_there h1.blk)
  have B0 := Lib.hid b0
  have H2 := Lib.hid (show AccIs ((w.alloc (.cells (cA v) 45)).setCells b 2 (cL v)) b n v from ⟨h2, h.n0, h.n16, hv⟩)
  have O2 := Lib.hid (o1.trans o2 (fun i hi => .inl hi))
  clear b0 h1 o1 h2 o2 h hv
  go_enter Try.func20, Try.ntmps20
  go_wp2_with (first
    | (refine wpList_load_row (by rfl) 45 _ (by rfl) w.heap.size (by rfl) 45 (cA v) (0, 0) _ B0.out Try.underlying45 (by rfl) isz ?_)
    | (refine wpList_store_mid (by rfl) 45 _ _ (by rfl) b 2 (cA v) (by rfl) (by rfl) TH.out isz (cA_one _) ?_))
  go_ret
  exact ⟨rfl, H2.out, O2.out⟩
set_option maxHeartbeats 2000000 in
theorem become_no {w : World} {p : Value} {v : Nat → Int} {er : Int} (he : er ≠ 0) : Calls Try.prog 20 #[p, .agg (cA v), .int .i64 er] w fun e w' => e = .returned (.int .i64 er) ∧ Only [] w w' := by
  have o1 := Lib.hid ((Only.refl [] w).alloc (.cells (cA v) 45))
  have hb : (er == 0) = false := by simpa using he
  clear he
  go_enter Try.func20, Try.ntmps20
  go_wp2_with fail
  go_ret
  exact ⟨rfl, o1.out⟩
/-- What comes of Take (by is 1) and of Give (by is -1). -/
def turnU (n : Nat) (u : Nat → Int) (k c by' : Int) : (Nat → Int) × Int :=
  if isAt n k c then (if (withF u (k.toNat * 3 + c.toNat) by').2 = 0 then ((withF u (k.toNat * 3 + c.toNat) by').1, 0) else (u, (withF u (k.toNat * 3 + c.toNat) by').2)) else (u, 1)
/-- What Take, Give and Move answer. -/
def TurnE (w : World) (b n : Nat) (r : (Nat → Int) × Int) (e : Ending) (w' : World) : Prop := e = .returned (.int .i64 r.2) ∧ AccIs w' b n r.1 ∧ Only [b] w w'
theorem withF_ok {u : Nat → Int} {i : Nat} {n : Int} (hu : InU u) : InU (withF u i n).1 := by
  unfold withF
  split
  · rename_i hv
    intro j hj
    show 0 ≤ updU u i _ j ∧ updU u i _ j ≤ 64
    unfold updU
    split
    · exact hv
    · exact hu j hj
  · intro _ _
    exact ⟨Int.le_refl _, by show (0 : Int) ≤ 64; decide⟩
set_option maxHeartbeats 4000000 in
theorem take_u {w : World} {b n : Nat} {u : Nat → Int} (h : AccIs w b n u) (k c : Int) : Calls Try.prog 11 #[ptA b, .int .i64 k, .int .i64 c] w (TurnE w b n (turnU n u k c 1)) := by
  have KH := Lib.hid (has_yes h k c)
  by_cases hat : isAt n k c
  · have e1 : turnU n u k c 1 = if (withF u (k.toNat * 3 + c.toNat) 1).2 = 0 then ((withF u (k.toNat * 3 + c.toNat) 1).1, 0) else (u, (withF u (k.toNat * 3 + c.toNat) 1).2) := if_pos hat
    rw [e1, decide_eq_true hat] at *
    clear e1
    unfold isAt at hat
    obtain ⟨k, rfl⟩ := Int.eq_ofNat_of_zero_le hat.1.1
    obtain ⟨c, rfl⟩ := Int.eq_ofNat_of_zero_le hat.2.1
    rw [Int.toNat_natCast, Int.toNat_natCast]
    have hn := h.n16
    have hui := h.ok (k * 3 + c) (by omega)
    have KW := Lib.hid (fun w' => with_any u k c 1 w' h.ok (by omega) (by omega) (by omega))
    have RG := Lib.hid (acc_range h.blk)
    have HI := Lib.hid (isz2 u)
    have HH := Lib.hid h
    have WO := Lib.hid (withF_ok (i := k * 3 + c) (n := 1) h.ok)
    clear hui h hat hn
    generalize withF u (k * 3 + c) 1 = r at *
    obtain ⟨v, er⟩ := r
    dsimp only at KW WO ⊢
    generalize hR : (if er = 0 then (v, (0 : Int)) else (u, er)) = R
    have HR := Lib.hid hR
    clear hR
    go_enter Try.func11, Try.ntmps11
    go_wp2_with fail
    (with_reducible refine KH.out.mono ?_)
    rintro e w1 ⟨rfl, rfl⟩
    clear KH
    go_wp2_with (refine wpList_load_mid (by rfl) 45 _ (by rfl) b 2 (by rfl) (cL u) _ RG.out Try.underlying45 (by rfl) HI.out ?_)
    (with_reducible refine (KW.out _).mono ?_)
    rintro e w2 ⟨rfl, o2⟩
    have H2 := Lib.hid (HH.out.only o2 (by simp))
    have O2 := Lib.hid (o2.more (T := [b]) (by simp))
    clear KW o2
    by_cases he : er = 0
    · subst he
      have KB := Lib.hid (become_yes H2.out WO.out)
      clear WO
      go_wp2_with fail
      (with_reducible refine KB.out.mono ?_)
      rintro e w3 ⟨rfl, h3, o3⟩
      have FIN := Lib.hid (show TurnE w b n R (.returned (.int .i64 0)) w3 by rw [← HR.out]; exact show TurnE w b n (v, 0) _ _ from ⟨rfl, h3, O2.out.trans o3 (fun i hi => .inl hi)⟩)
      clear h3 o3
      go_wp2_with fail
      go_ret
      exact FIN.out
    · have KB := Lib.hid (become_no (w := w2) (p := ptA b) (v := v) he)
      go_wp2_with fail
      (with_reducible refine KB.out.mono ?_)
      rintro e w3 ⟨rfl, o3⟩
      have FIN := Lib.hid (show TurnE w b n R (.returned (.int .i64 er)) w3 by rw [← HR.out, if_neg he]; exact ⟨rfl, H2.out.only o3 (by simp), O2.out.trans o3 (by simp)⟩)
      clear o3
      go_wp2_with fail
      go_ret
      exact FIN.out
  · have e1 : turnU n u k c 1 = (u, 1) := if_neg hat
    rw [e1, decide_eq_false hat] at *
    clear e1
    have FIN := Lib.hid (show TurnE w b n (u, 1) (.returned (.int .i64 1)) w from ⟨rfl, h, Only.refl _ _⟩)
    clear h hat
    go_enter Try.func11, Try.ntmps11
    go_wp2_with fail
    (with_reducible refine KH.out.mono ?_)
    rintro e w1 ⟨rfl, rfl⟩
    clear KH
    go_wp2_with fail
    go_ret
    exact FIN.out
set_option maxHeartbeats 4000000 in
theorem give_u {w : World} {b n : Nat} {u : Nat → Int} (h : AccIs w b n u) (k c : Int) : Calls Try.prog 12 #[ptA b, .int .i64 k, .int .i64 c] w (TurnE w b n (turnU n u k c (-1))) := by
  have KH := Lib.hid (has_yes h k c)
  by_cases hat : isAt n k c
  · have e1 : turnU n u k c (-1) = if (withF u (k.toNat * 3 + c.toNat) (-1)).2 = 0 then ((withF u (k.toNat * 3 + c.toNat) (-1)).1, 0) else (u, (withF u (k.toNat * 3 + c.toNat) (-1)).2) := if_pos hat
    rw [e1, decide_eq_true hat] at *
    clear e1
    unfold isAt at hat
    obtain ⟨k, rfl⟩ := Int.eq_ofNat_of_zero_le hat.1.1
    obtain ⟨c, rfl⟩ := Int.eq_ofNat_of_zero_le hat.2.1
    rw [Int.toNat_natCast, Int.toNat_natCast]
    have hn := h.n16
    have hui := h.ok (k * 3 + c) (by omega)
    have KW := Lib.hid (fun w' => with_any u k c (-1) w' h.ok (by omega) (by omega) (by omega))
    have RG := Lib.hid (acc_range h.blk)
    have HI := Lib.hid (isz2 u)
    have HH := Lib.hid h
    have WO := Lib.hid (withF_ok (i := k * 3 + c) (n := -1) h.ok)
    clear hui h hat hn
    generalize withF u (k * 3 + c) (-1) = r at *
    obtain ⟨v, er⟩ := r
    dsimp only at KW WO ⊢
    generalize hR : (if er = 0 then (v, (0 : Int)) else (u, er)) = R
    have HR := Lib.hid hR
    clear hR
    go_enter Try.func12, Try.ntmps12
    go_wp2_with fail
    (with_reducible refine KH.out.mono ?_)
    rintro e w1 ⟨rfl, rfl⟩
    clear KH
    go_wp2_with (refine wpList_load_mid (by rfl) 45 _ (by rfl) b 2 (by rfl) (cL u) _ RG.out Try.underlying45 (by rfl) HI.out ?_)
    (with_reducible refine (KW.out _).mono ?_)
    rintro e w2 ⟨rfl, o2⟩
    have H2 := Lib.hid (HH.out.only o2 (by simp))
    have O2 := Lib.hid (o2.more (T := [b]) (by simp))
    clear KW o2
    by_cases he : er = 0
    · subst he
      have KB := Lib.hid (become_yes H2.out WO.out)
      clear WO
      go_wp2_with fail
      (with_reducible refine KB.out.mono ?_)
      rintro e w3 ⟨rfl, h3, o3⟩
      have FIN := Lib.hid (show TurnE w b n R (.returned (.int .i64 0)) w3 by rw [← HR.out]; exact show TurnE w b n (v, 0) _ _ from ⟨rfl, h3, O2.out.trans o3 (fun i hi => .inl hi)⟩)
      clear h3 o3
      go_wp2_with fail
      go_ret
      exact FIN.out
    · have KB := Lib.hid (become_no (w := w2) (p := ptA b) (v := v) he)
      go_wp2_with fail
      (with_reducible refine KB.out.mono ?_)
      rintro e w3 ⟨rfl, o3⟩
      have FIN := Lib.hid (show TurnE w b n R (.returned (.int .i64 er)) w3 by rw [← HR.out, if_neg he]; exact ⟨rfl, H2.out.only o3 (by simp), O2.out.trans o3 (by simp)⟩)
      clear o3
      go_wp2_with fail
      go_ret
      exact FIN.out
  · have e1 : turnU n u k c (-1) = (u, 1) := if_neg hat
    rw [e1, decide_eq_false hat] at *
    clear e1
    have FIN := Lib.hid (show TurnE w b n (u, 1) (.returned (.int .i64 1)) w from ⟨rfl, h, Only.refl _ _⟩)
    clear h hat
    go_enter Try.func12, Try.ntmps12
    go_wp2_with fail
    (with_reducible refine KH.out.mono ?_)
    rintro e w1 ⟨rfl, rfl⟩
    clear KH
    go_wp2_with fail
    go_ret
    exact FIN.out
end Go.Proofs.Ytcchahgfjnphgaa
