/- A token by layer 4's own: pure. What the document's tokenAt answers. The document's own: the tokens of locals and kinds. -/
import Derived.Test.YtlilfmpikampgaaGreatDoorPKe
import Derived.Test.YtlilfmpikampgaaGreatDoorPDc
namespace Go.Proofs.YtlilfmpikampgaaGreatDoor
open Go.RowKit

/-- What tokenAt answers: sixteen cells. -/
abbrev qtg (wh : Bool) (k n tk tn : Int) (x y : Nat) (S : ByteArray) (a b : Int) (sg : Int) (en : Bool) (at' nx : Int) : Array Value := #[.bool wh, .int .i64 k, .int .i64 n, .int .i64 tk, .int .i64 tn, .complex .f64 x y, .string S, .int .i64 a, .int .i64 b, .slice none 0 0, .slice none 0 0, .slice none 0 0, .int .u8 sg, .bool en, .int .i64 at', .int .i64 nx]
abbrev qtok (wh : Bool) (k n : Int) (t : T) (sg : Int) (en : Bool) (at' nx : Int) : Array Value := qtg wh k n t.k t.n t.x t.y t.S t.a t.b sg en at' nx
abbrev qtz (sg : Int) (en : Bool) (at' nx : Int) : Array Value := qtg false 0 0 0 0 0 0 ⟨#[]⟩ 0 0 sg en at' nx
def QTokE (s : ByteArray) (j : Nat) (e : Ending) : Prop :=
  if j < s.size then (match qkAt s j with
    | .sign b => e = .returned (.agg (qtz b.toNat false j ((j : Int) + 1)))
    | .leaf p => e = .returned (.agg (qtok true p.k p.n p.t 0 false j (qfin s j : Nat)))
    | .bad => ∃ e' : Int, e = .returned (.agg (qtz 0 false j e')))
  else e = .returned (.agg (qtz 0 true s.size s.size))
theorem qtokE_bad {s : ByteArray} {j : Nat} (hj : j < s.size) (h : qkAt s j = .bad) (e' : Int) : QTokE s j (.returned (.agg (qtz 0 false j e'))) := by
  unfold QTokE
  rw [if_pos hj, h]
  exact ⟨e', rfl⟩
theorem qtokE_sign {s : ByteArray} {j : Nat} {b : UInt8} (hj : j < s.size) (h : qkAt s j = .sign b) : QTokE s j (.returned (.agg (qtz b.toNat false j ((j : Int) + 1)))) := by
  unfold QTokE
  rw [if_pos hj, h]
theorem qtokE_leaf {s : ByteArray} {j : Nat} {p : QT} (hj : j < s.size) (h : qkAt s j = .leaf p) : QTokE s j (.returned (.agg (qtok true p.k p.n p.t 0 false j (qfin s j : Nat)))) := by
  unfold QTokE
  rw [if_pos hj, h]
theorem qtokE_end {s : ByteArray} {j : Nat} (hj : ¬ j < s.size) : QTokE s j (.returned (.agg (qtz 0 true s.size s.size))) := by
  unfold QTokE
  rw [if_neg hj]
theorem Bk.sixteen {w : World} {b : Nat} {t : TypeId} {v0 v1 v2 v3 v4 v5 v6 v7 v8 v9 v10 v11 v12 v13 v14 v15 : Value} (h : Bk w b t #[v0, v1, v2, v3, v4, v5, v6, v7, v8, v9, v10, v11, v12, v13, v14, v15]) :
    w.cell? ⟨b, 0, none⟩ = some v0 ∧ w.cell? ⟨b, 1, none⟩ = some v1 ∧ w.cell? ⟨b, 2, none⟩ = some v2 ∧ w.cell? ⟨b, 3, none⟩ = some v3 ∧ w.cell? ⟨b, 4, none⟩ = some v4 ∧ w.cell? ⟨b, 5, none⟩ = some v5 ∧ w.cell? ⟨b, 6, none⟩ = some v6 ∧ w.cell? ⟨b, 7, none⟩ = some v7 ∧ w.cell? ⟨b, 8, none⟩ = some v8 ∧ w.cell? ⟨b, 9, none⟩ = some v9 ∧ w.cell? ⟨b, 10, none⟩ = some v10 ∧ w.cell? ⟨b, 11, none⟩ = some v11 ∧ w.cell? ⟨b, 12, none⟩ = some v12 ∧ w.cell? ⟨b, 13, none⟩ = some v13 ∧ w.cell? ⟨b, 14, none⟩ = some v14 ∧ w.cell? ⟨b, 15, none⟩ = some v15 :=
  ⟨h.cell0 rfl, h.cell0 rfl, h.cell0 rfl, h.cell0 rfl, h.cell0 rfl, h.cell0 rfl, h.cell0 rfl, h.cell0 rfl, h.cell0 rfl, h.cell0 rfl, h.cell0 rfl, h.cell0 rfl, h.cell0 rfl, h.cell0 rfl, h.cell0 rfl, h.cell0 rfl⟩
theorem put16 {W W3 : World} {b : Nat} {t2 : TypeId} {q0 q1 q2 q3 q4 q5 q6 q7 q8 q9 q10 q11 q12 q13 q14 q15 v0 v1 v2 v3 v4 v5 v6 v7 v8 v9 v10 v11 v12 v13 v14 v15 : Value} (B2 : Bk W b t2 #[q0, q1, q2, q3, q4, q5, q6, q7, q8, q9, q10, q11, q12, q13, q14, q15])
    (hw : W3 = (((((((((((((((W.setCell ⟨b, 0, none⟩ v0).setCell ⟨b, 1, none⟩ v1).setCell ⟨b, 2, none⟩ v2).setCell ⟨b, 3, none⟩ v3).setCell ⟨b, 4, none⟩ v4).setCell ⟨b, 5, none⟩ v5).setCell ⟨b, 6, none⟩ v6).setCell ⟨b, 7, none⟩ v7).setCell ⟨b, 8, none⟩ v8).setCell ⟨b, 9, none⟩ v9).setCell ⟨b, 10, none⟩ v10).setCell ⟨b, 11, none⟩ v11).setCell ⟨b, 12, none⟩ v12).setCell ⟨b, 13, none⟩ v13).setCell ⟨b, 14, none⟩ v14).setCell ⟨b, 15, none⟩ v15) :
    Bk W3 b t2 #[v0, v1, v2, v3, v4, v5, v6, v7, v8, v9, v10, v11, v12, v13, v14, v15] ∧ Only [b] W W3 := by
  have b1 := B2.setTo 0 v0 #[v0, q1, q2, q3, q4, q5, q6, q7, q8, q9, q10, q11, q12, q13, q14, q15] rfl
  have b2 := b1.setTo 1 v1 #[v0, v1, q2, q3, q4, q5, q6, q7, q8, q9, q10, q11, q12, q13, q14, q15] rfl
  have b3 := b2.setTo 2 v2 #[v0, v1, v2, q3, q4, q5, q6, q7, q8, q9, q10, q11, q12, q13, q14, q15] rfl
  have b4 := b3.setTo 3 v3 #[v0, v1, v2, v3, q4, q5, q6, q7, q8, q9, q10, q11, q12, q13, q14, q15] rfl
  have b5 := b4.setTo 4 v4 #[v0, v1, v2, v3, v4, q5, q6, q7, q8, q9, q10, q11, q12, q13, q14, q15] rfl
  have b6 := b5.setTo 5 v5 #[v0, v1, v2, v3, v4, v5, q6, q7, q8, q9, q10, q11, q12, q13, q14, q15] rfl
  have b7 := b6.setTo 6 v6 #[v0, v1, v2, v3, v4, v5, v6, q7, q8, q9, q10, q11, q12, q13, q14, q15] rfl
  have b8 := b7.setTo 7 v7 #[v0, v1, v2, v3, v4, v5, v6, v7, q8, q9, q10, q11, q12, q13, q14, q15] rfl
  have b9 := b8.setTo 8 v8 #[v0, v1, v2, v3, v4, v5, v6, v7, v8, q9, q10, q11, q12, q13, q14, q15] rfl
  have b10 := b9.setTo 9 v9 #[v0, v1, v2, v3, v4, v5, v6, v7, v8, v9, q10, q11, q12, q13, q14, q15] rfl
  have b11 := b10.setTo 10 v10 #[v0, v1, v2, v3, v4, v5, v6, v7, v8, v9, v10, q11, q12, q13, q14, q15] rfl
  have b12 := b11.setTo 11 v11 #[v0, v1, v2, v3, v4, v5, v6, v7, v8, v9, v10, v11, q12, q13, q14, q15] rfl
  have b13 := b12.setTo 12 v12 #[v0, v1, v2, v3, v4, v5, v6, v7, v8, v9, v10, v11, v12, q13, q14, q15] rfl
  have b14 := b13.setTo 13 v13 #[v0, v1, v2, v3, v4, v5, v6, v7, v8, v9, v10, v11, v12, v13, q14, q15] rfl
  have b15 := b14.setTo 14 v14 #[v0, v1, v2, v3, v4, v5, v6, v7, v8, v9, v10, v11, v12, v13, v14, q15] rfl
  have b16 := b15.setTo 15 v15 #[v0, v1, v2, v3, v4, v5, v6, v7, v8, v9, v10, v11, v12, v13, v14, v15] rfl
  have hm : b ∈ [b] ∨ W.heap.size ≤ b := .inl (by simp)
  subst hw
  exact ⟨b16, (((((((((((((((((Only.refl [b] W).set (p := ⟨b, 0, none⟩) hm v0).set (p := ⟨b, 1, none⟩) hm v1).set (p := ⟨b, 2, none⟩) hm v2).set (p := ⟨b, 3, none⟩) hm v3).set (p := ⟨b, 4, none⟩) hm v4).set (p := ⟨b, 5, none⟩) hm v5).set (p := ⟨b, 6, none⟩) hm v6).set (p := ⟨b, 7, none⟩) hm v7).set (p := ⟨b, 8, none⟩) hm v8).set (p := ⟨b, 9, none⟩) hm v9).set (p := ⟨b, 10, none⟩) hm v10).set (p := ⟨b, 11, none⟩) hm v11).set (p := ⟨b, 12, none⟩) hm v12).set (p := ⟨b, 13, none⟩) hm v13).set (p := ⟨b, 14, none⟩) hm v14).set (p := ⟨b, 15, none⟩) hm v15)⟩
/-- The bytes that layer 5 reads itself are no token of layer 4. -/
theorem tk_own {s : ByteArray} {j : Nat} {b : UInt8} (h : (lst s)[j]? = some b) (hb : b.toNat = 124 ∨ b.toNat = 95 ∨ b.toNat = 36 ∨ b.toNat = 58) : tkAt s j = .bad := by
  have hs : isSm b = false := by simp [isSm]; omega
  have hd : isDig b = false := by
    cases h : isDig b with
    | false => rfl
    | true => have := isDig_bd h; omega
  exact tk_none h (by simp [isSg]; omega) hs hd (by omega) (by omega) (by omega)
/-- Any other byte: layer 4's token. -/
theorem qk_tk {s : ByteArray} {j : Nat} {b : UInt8} (h : (lst s)[j]? = some b) (hb : ¬ (b.toNat = 124 ∨ b.toNat = 95 ∨ b.toNat = 36 ∨ b.toNat = 58)) :
    (∀ c, tkAt s j = .sign c → qkAt s j = .sign c) ∧ (∀ t, tkAt s j = .term t → qkAt s j = .leaf (.term t) ∧ qfin s j = fin s j) ∧ (tkAt s j = .bad → qkAt s j = .bad) := by
  cases hsg : isSg b with
  | true =>
    have ht := tk_sgn h hsg
    have hq := (qk_signs h (show isPs b = true by simp [isPs, hsg])).1
    refine ⟨fun c hc => ?_, fun t hc => ?_, fun hc => ?_⟩
    · rw [ht] at hc; injection hc with hc; rw [← hc]; exact hq
    · rw [ht] at hc; cases hc
    · rw [ht] at hc; cases hc
  | false =>
    have hps : isPs b = false := by simp [isPs, hsg]; omega
    have ht := tk_other h hsg
    have hq : qkAt s j = (match lf (s.extract j (fin s j)) with | some t => .leaf (.term t) | none => .bad) := by
      unfold qkAt
      rw [h]
      simp only [hps]
      rw [if_neg (by simp), if_neg (by omega), if_neg (by omega), if_neg (by omega)]
      cases lf (s.extract j (fin s j)) <;> rfl
    have hf : qfin s j = fin s j := by
      unfold qfin
      rw [h]
      simp only
      rw [if_neg (by omega), if_neg (by omega), if_neg (by simp [hps]; omega)]
    cases hl : lf (s.extract j (fin s j)) with
    | none =>
      rw [hl] at ht hq
      refine ⟨fun c hc => ?_, fun t hc => ?_, fun _ => hq⟩
      · rw [ht] at hc; cases hc
      · rw [ht] at hc; cases hc
    | some u =>
      rw [hl] at ht hq
      refine ⟨fun c hc => ?_, fun t hc => ?_, fun hc => ?_⟩
      · rw [ht] at hc; cases hc
      · rw [ht] at hc
        injection hc with hc
        rw [← hc]
        exact ⟨hq, hf⟩
      · rw [ht] at hc; cases hc
set_option maxHeartbeats 400000 in
theorem r5digit (b : UInt8) (w : World) : Calls Tryz.prog 59 #[.int .u8 b.toNat] w fun e w' => e = .returned (.bool (isDig b)) ∧ w = w' := by
  go_enter Tryz.func59, Tryz.ntmps59
  go_wp2_with fail
  all_goals
    go_ret
    exact ⟨ret_bool (by rw [Bool.eq_iff_iff]; simp [isDig]; omega), rfl⟩
set_option maxHeartbeats 400000 in
theorem r5letter (b : UInt8) (w : World) : Calls Tryz.prog 60 #[.int .u8 b.toNat] w fun e w' => e = .returned (.bool (isSm b || isCap b)) ∧ w = w' := by
  go_enter Tryz.func60, Tryz.ntmps60
  go_wp2_with fail
  all_goals
    go_ret
    exact ⟨ret_bool (by rw [Bool.eq_iff_iff]; simp [isSm, isCap]; omega), rfl⟩
/-! ### What a call answers that lies in a block: read as a row -/
theorem bk_load {w : World} {g : Nat} {t ty : TypeId} {cs : Array Value} {d : TypeDesc} (h : Bk w g t cs) (hd : (match d with | .struct _ | .array _ _ => true | _ => false) = true) (hu : Tryz.prog.underlying ty = some d) (hi : (Tryz.prog.info? ty).map (·.size) = some cs.size) :
    (loadVar ty ⟨g, 0, none⟩).run Tryz.prog w = .ok (.agg cs) w := run_loadVar_row w g t ty cs (0, 0) d h hu (by revert hd; cases d <;> exact fun h => h) hi
theorem res1 {fn : Func} {R : Ending → World → Prop} {a : Act} {w : World} {p : Tmp} {g : Nat} {t ty : TypeId} {cs : Array Value} {d : TypeDesc} (hr : fn.results = #[.cell p ty]) (h : Bk w g t cs) (hp : a.tmps[p]?.getD undef = .pointer (some ⟨g, 0, none⟩))
    (hd : (match d with | .struct _ | .array _ _ => true | _ => false) = true) (hu : Tryz.prog.underlying ty = some d) (hi : (Tryz.prog.info? ty).map (·.size) = some cs.size) (hdf : a.defers = []) (hR : R (.returned (.agg cs)) w) : bodyPost Tryz.prog fn R .ret a w :=
  bodyPost_ret (v := .agg cs) (by
    simp only [results, hr]
    simp [hp, asAddr, bk_load h hd hu hi]) hdf hR
theorem res2 {fn : Func} {R : Ending → World → Prop} {a : Act} {w : World} {p p1 : Tmp} {g : Nat} {t ty : TypeId} {cs : Array Value} {d : TypeDesc} {v1 : Value} (hr : fn.results = #[.cell p ty, .tmp p1]) (h : Bk w g t cs) (hp : a.tmps[p]?.getD undef = .pointer (some ⟨g, 0, none⟩)) (h1 : a.tmps[p1]?.getD undef = v1)
    (hd : (match d with | .struct _ | .array _ _ => true | _ => false) = true) (hu : Tryz.prog.underlying ty = some d) (hi : (Tryz.prog.info? ty).map (·.size) = some cs.size) (hdf : a.defers = []) (hR : R (.returned (.tuple #[.agg cs, v1])) w) : bodyPost Tryz.prog fn R .ret a w :=
  bodyPost_ret (v := .tuple #[.agg cs, v1]) (by
    simp only [results, hr]
    simp [hp, h1, asAddr, bk_load h hd hu hi]) hdf hR
theorem res3 {fn : Func} {R : Ending → World → Prop} {a : Act} {w : World} {p p1 p2 : Tmp} {g : Nat} {t ty : TypeId} {cs : Array Value} {d : TypeDesc} {v1 v2 : Value} (hr : fn.results = #[.cell p ty, .tmp p1, .tmp p2]) (h : Bk w g t cs) (hp : a.tmps[p]?.getD undef = .pointer (some ⟨g, 0, none⟩)) (h1 : a.tmps[p1]?.getD undef = v1) (h2 : a.tmps[p2]?.getD undef = v2)
    (hd : (match d with | .struct _ | .array _ _ => true | _ => false) = true) (hu : Tryz.prog.underlying ty = some d) (hi : (Tryz.prog.info? ty).map (·.size) = some cs.size) (hdf : a.defers = []) (hR : R (.returned (.tuple #[.agg cs, v1, v2])) w) : bodyPost Tryz.prog fn R .ret a w :=
  bodyPost_ret (v := .tuple #[.agg cs, v1, v2]) (by
    simp only [results, hr]
    simp [hp, h1, h2, asAddr, bk_load h hd hu hi]) hdf hR
theorem row_set {w W7 : World} {g : Nat} {t : TypeId} {old cs : Array Value} (h : Bk w g t old) (hW : w.setRow g cs = W7) : Bk W7 g t cs ∧ Only [g] w W7 := by
  subst hW
  refine ⟨setRow_heap w g old cs t (0, 0) h, rfl, rfl, rfl, by simp [World.setRow], fun k hk hn => ?_⟩
  simp only [World.setRow, Array.getElem?_modify]
  rw [if_neg (by rintro rfl; exact hn (by simp))]
end Go.Proofs.YtlilfmpikampgaaGreatDoor

namespace Go.Proofs.YtlilfmpikampgaaGreatDoor
open Go.RowKit

theorem made1 {w W1 : World} {c1 : Array Value} {t1 : TypeId} (h : w.alloc (.cells c1 t1) = W1) : Bk W1 w.heap.size t1 c1 ∧ Only [] w W1 := by
  subst h
  exact ⟨Bk.made w t1 c1, (Only.refl [] w).alloc _⟩
theorem tail_in {p : UInt8 → Bool} {s : ByteArray} {j m : Nat} (h1 : j + 1 ≤ m) (h2 : m < j + 1 + tailW p s j) (hm : m < s.size) : p (s[m]'hm) = true := by
  refine runOf_all (l := (lst s).drop (j + 1)) (List.mem_iff_getElem?.2 ⟨m - (j + 1), ?_⟩)
  rw [List.getElem?_take, if_pos (by unfold tailW at h2; omega), List.getElem?_drop, show j + 1 + (m - (j + 1)) = m by omega, lst_at hm]
theorem tail_out {p : UInt8 → Bool} {s : ByteArray} {j m : Nat} (h : j + 1 + tailW p s j = m) (hm : m < s.size) : p (s[m]'hm) = false := by
  refine runOf_stop (l := (lst s).drop (j + 1)) ?_
  rw [List.getElem?_drop, show j + 1 + runOf p ((lst s).drop (j + 1)) = m from h, lst_at hm]
set_option maxRecDepth 100000 in
set_option maxHeartbeats 4000000 in
theorem own_local (s : ByteArray) (j : Nat) (w : World) (hs : s.size ≤ 262144) (hj : j < s.size) (hb : (s[j]'hj).toNat = 36) : Calls Tryz.prog 39 #[.string s, .int .i64 j] w fun e w' => QTokE s j e ∧ Only [] w w' := by
  have rs := store_com
  obtain ⟨E, hE⟩ : ∃ E, j + 1 + tailW isDig s j = E := ⟨_, rfl⟩
  have hle := tailW_le isDig s j hj
  have hat := lst_at hj
  have hq : qkAt s j = (match refN (tailB isDig s j) with | some n => if 0 ≤ n ∧ n < 32 then .leaf (.var n) else .bad | none => .bad) := by
    unfold qkAt
    rw [hat]
    simp only
    rw [if_neg (by simp [isPs, isSg]; omega), if_neg (by omega), if_pos hb]
    cases refN (tailB isDig s j) <;> rfl
  have hf : qfin s j = E := by
    unfold qfin
    rw [hat]
    simp only
    rw [if_pos hb, hE]
  have htb := tailB_lst isDig s j
  have HIN := Lib.hid (fun m h1 (h2 : m < E) (hm : m < s.size) => tail_in (p := isDig) (s := s) (j := j) (m := m) h1 (by omega) hm)
  have HOUT := Lib.hid (fun (hm : E < s.size) => tail_out (p := isDig) hE hm)
  rw [hE] at htb hle
  have HN := Lib.hid (fun w => number_to s (j + 1) E w hs)
  rw [htb] at HN
  have HQ := Lib.hid hq
  have HF := Lib.hid hf
  have e36 : ((((s[j]'hj).toNat : Nat) : Int) == 36) = true := by rw [hb]; rfl
  have hjn : (j : Int) < (s.size : Int) := by omega
  have q1 : IntKind.i64.wrap ((j : Int) + 1) = (j : Int) + 1 := IntWalk.i64_in _ (by omega)
  have hjE : j + 1 ≤ E := by omega
  clear hq hf htb hb hat hE
  go_enter Tryz.func39, Tryz.ntmps39
  go_wp2_with fail
  go_loopw [5] (fun v wr => ∃ m : Nat, v = .int .i64 (m : Int) ∧ j + 1 ≤ m ∧ m ≤ E ∧ Bk wr w.heap.size 64 (qtz 0 false 0 0) ∧ Only [] w wr) (fun v _ => s.size - (intOf v).toNat)
  case atStart => exact ⟨j + 1, by go_num, Nat.le_refl _, hjE, Bk.made _ _ _, (Only.refl [] w).alloc _⟩
  case round =>
    obtain ⟨m, rfl, hm, hmE, hbw, how⟩ := hrel
    have BW := Lib.hid hbw
    have OW := Lib.hid how
    have LW := hbw.lt
    clear hbw how
    by_cases hlt : m < E
    · have hms : m < s.size := by omega
      have p1 : (m : Int) < (s.size : Int) := by omega
      have p2 : 0 ≤ (m : Int) := by omega
      have q2 : IntKind.i64.wrap ((m : Int) + 1) = (m : Int) + 1 := IntWalk.i64_in _ (by omega)
      have HD := Lib.hid (fun w => r5digit (s[m]'hms) w)
      rw [HIN.out m hm hlt hms] at HD
      go_wp2_with fail
      (with_reducible refine (HD.out _).mono ?_)
      rintro e w2 ⟨rfl, rfl⟩
      go_wp2_with fail
      go_roundw
      case rel => exact ⟨m + 1, by go_num, by omega, by omega, BW.out, OW.out⟩
      case measure => simp [intOf]; omega
    · obtain rfl : E = m := by omega
      clear hlt hmE hm
      obtain ⟨z0, z1, z2, z3, z4, z5, z6, z7, z8, z9, z10, z11, z12, z13, z14, z15⟩ := BW.out.sixteen
      have zf := BW.out.free
      have p3 : (j : Int) + 1 ≤ (E : Int) := by omega
      have p4 : (E : Int) ≤ (s.size : Int) := by omega
      have p5 : 0 ≤ (j : Int) + 1 := by omega
      by_cases hms : E < s.size
      · have p1 : (E : Int) < (s.size : Int) := by omega
        have p2 : 0 ≤ (E : Int) := by omega
        have HD := Lib.hid (fun w => r5digit (s[E]'hms) w)
        rw [HOUT.out hms] at HD
        go_wp2_with fail
        (with_reducible refine (HD.out _).mono ?_)
        rintro e w2 ⟨rfl, rfl⟩
        go_wp2_with fail
        (with_reducible refine (HN.out _).mono ?_)
        rintro e w2 ⟨⟨v, ok, rfl, hr⟩, rfl⟩
        cases ok with
        | false =>
          have HB := Lib.hid (qtokE_bad hj (by rw [HQ.out, hr]; rfl) (E : Nat))
          clear hr
          go_wp2_with (refine wpList_store_row (by rfl) _ _ _ (by rfl) w.heap.size (qtz 0 false j (E : Nat)) (by rfl) (by rfl) 64 _ BW.out (by kernel_rfl) (by rfl) (by simp [Value.oneCell']) ?_)
          generalize hW : World.setRow _ _ _ = W7 at *
          obtain ⟨B7, O7⟩ := row_set BW.out hW
          clear hW
          have O8 := OW.out.trans O7 (fun b hb => .inr (by rw [List.mem_singleton.1 hb]; omega))
          exact res1 Tryz.results39 B7 (by rfl) (by rfl) Tryz.underlying64 (by kernel_rfl) rfl ⟨HB.out, O8⟩
        | true =>
          by_cases hv : 0 ≤ v ∧ v < 32
          · have HB := Lib.hid (show QTokE s j (.returned (.agg (qtg true 2 v 0 0 0 0 ⟨#[]⟩ 0 0 0 false j (E : Nat)))) from by
              have := qtokE_leaf (p := .var v) hj (by rw [HQ.out, hr]; simp only [if_true]; rw [if_pos hv])
              rw [HF.out] at this
              exact this)
            have v1 : ¬ v < 0 := by omega
            have v2 : ¬ (32 : Int) ≤ v := by omega
            clear hr hv
            go_wp2_with (refine wpList_store_row (by rfl) _ _ _ (by rfl) w.heap.size (qtg true 2 v 0 0 0 0 ⟨#[]⟩ 0 0 0 false j (E : Nat)) (by rfl) (by rfl) 64 _ BW.out (by kernel_rfl) (by rfl) (by simp [Value.oneCell']) ?_)
            generalize hW : World.setRow _ _ _ = W7 at *
            obtain ⟨B7, O7⟩ := row_set BW.out hW
            clear hW
            have O8 := OW.out.trans O7 (fun b hb => .inr (by rw [List.mem_singleton.1 hb]; omega))
            exact res1 Tryz.results39 B7 (by rfl) (by rfl) Tryz.underlying64 (by kernel_rfl) rfl ⟨HB.out, O8⟩
          · have HB := Lib.hid (qtokE_bad hj (by rw [HQ.out, hr]; simp only [if_true]; rw [if_neg hv]) (E : Nat))
            clear hr
            by_cases v1 : v < 0
            · clear hv
              go_wp2_with (refine wpList_store_row (by rfl) _ _ _ (by rfl) w.heap.size (qtz 0 false j (E : Nat)) (by rfl) (by rfl) 64 _ BW.out (by kernel_rfl) (by rfl) (by simp [Value.oneCell']) ?_)
              generalize hW : World.setRow _ _ _ = W7 at *
              obtain ⟨B7, O7⟩ := row_set BW.out hW
              clear hW
              have O8 := OW.out.trans O7 (fun b hb => .inr (by rw [List.mem_singleton.1 hb]; omega))
              exact res1 Tryz.results39 B7 (by rfl) (by rfl) Tryz.underlying64 (by kernel_rfl) rfl ⟨HB.out, O8⟩
            · have v2 : (32 : Int) ≤ v := by omega
              clear hv
              go_wp2_with (refine wpList_store_row (by rfl) _ _ _ (by rfl) w.heap.size (qtz 0 false j (E : Nat)) (by rfl) (by rfl) 64 _ BW.out (by kernel_rfl) (by rfl) (by simp [Value.oneCell']) ?_)
              generalize hW : World.setRow _ _ _ = W7 at *
              obtain ⟨B7, O7⟩ := row_set BW.out hW
              clear hW
              have O8 := OW.out.trans O7 (fun b hb => .inr (by rw [List.mem_singleton.1 hb]; omega))
              exact res1 Tryz.results39 B7 (by rfl) (by rfl) Tryz.underlying64 (by kernel_rfl) rfl ⟨HB.out, O8⟩
      · have p1 : ¬ (E : Int) < (s.size : Int) := by omega
        go_wp2_with fail
        (with_reducible refine (HN.out _).mono ?_)
        rintro e w2 ⟨⟨v, ok, rfl, hr⟩, rfl⟩
        cases ok with
        | false =>
          have HB := Lib.hid (qtokE_bad hj (by rw [HQ.out, hr]; rfl) (E : Nat))
          clear hr
          go_wp2_with (refine wpList_store_row (by rfl) _ _ _ (by rfl) w.heap.size (qtz 0 false j (E : Nat)) (by rfl) (by rfl) 64 _ BW.out (by kernel_rfl) (by rfl) (by simp [Value.oneCell']) ?_)
          generalize hW : World.setRow _ _ _ = W7 at *
          obtain ⟨B7, O7⟩ := row_set BW.out hW
          clear hW
          have O8 := OW.out.trans O7 (fun b hb => .inr (by rw [List.mem_singleton.1 hb]; omega))
          exact res1 Tryz.results39 B7 (by rfl) (by rfl) Tryz.underlying64 (by kernel_rfl) rfl ⟨HB.out, O8⟩
        | true =>
          by_cases hv : 0 ≤ v ∧ v < 32
          · have HB := Lib.hid (show QTokE s j (.returned (.agg (qtg true 2 v 0 0 0 0 ⟨#[]⟩ 0 0 0 false j (E : Nat)))) from by
              have := qtokE_leaf (p := .var v) hj (by rw [HQ.out, hr]; simp only [if_true]; rw [if_pos hv])
              rw [HF.out] at this
              exact this)
            have v1 : ¬ v < 0 := by omega
            have v2 : ¬ (32 : Int) ≤ v := by omega
            clear hr hv
            go_wp2_with (refine wpList_store_row (by rfl) _ _ _ (by rfl) w.heap.size (qtg true 2 v 0 0 0 0 ⟨#[]⟩ 0 0 0 false j (E : Nat)) (by rfl) (by rfl) 64 _ BW.out (by kernel_rfl) (by rfl) (by simp [Value.oneCell']) ?_)
            generalize hW : World.setRow _ _ _ = W7 at *
            obtain ⟨B7, O7⟩ := row_set BW.out hW
            clear hW
            have O8 := OW.out.trans O7 (fun b hb => .inr (by rw [List.mem_singleton.1 hb]; omega))
            exact res1 Tryz.results39 B7 (by rfl) (by rfl) Tryz.underlying64 (by kernel_rfl) rfl ⟨HB.out, O8⟩
          · have HB := Lib.hid (qtokE_bad hj (by rw [HQ.out, hr]; simp only [if_true]; rw [if_neg hv]) (E : Nat))
            clear hr
            by_cases v1 : v < 0
            · clear hv
              go_wp2_with (refine wpList_store_row (by rfl) _ _ _ (by rfl) w.heap.size (qtz 0 false j (E : Nat)) (by rfl) (by rfl) 64 _ BW.out (by kernel_rfl) (by rfl) (by simp [Value.oneCell']) ?_)
              generalize hW : World.setRow _ _ _ = W7 at *
              obtain ⟨B7, O7⟩ := row_set BW.out hW
              clear hW
              have O8 := OW.out.trans O7 (fun b hb => .inr (by rw [List.mem_singleton.1 hb]; omega))
              exact res1 Tryz.results39 B7 (by rfl) (by rfl) Tryz.underlying64 (by kernel_rfl) rfl ⟨HB.out, O8⟩
            · have v2 : (32 : Int) ≤ v := by omega
              clear hv
              go_wp2_with (refine wpList_store_row (by rfl) _ _ _ (by rfl) w.heap.size (qtz 0 false j (E : Nat)) (by rfl) (by rfl) 64 _ BW.out (by kernel_rfl) (by rfl) (by simp [Value.oneCell']) ?_)
              generalize hW : World.setRow _ _ _ = W7 at *
              obtain ⟨B7, O7⟩ := row_set BW.out hW
              clear hW
              have O8 := OW.out.trans O7 (fun b hb => .inr (by rw [List.mem_singleton.1 hb]; omega))
              exact res1 Tryz.results39 B7 (by rfl) (by rfl) Tryz.underlying64 (by kernel_rfl) rfl ⟨HB.out, O8⟩
end Go.Proofs.YtlilfmpikampgaaGreatDoor
