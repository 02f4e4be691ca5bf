/- text: Head. -/
import Derived.Test.YtlilfmpikampgaaGreatDoorPMn
namespace Go.Proofs.YtlilfmpikampgaaGreatDoor
open Go.RowKit Go.Shelf
attribute [local go_sem] Oper.semAt_some

def HeadTells (s : ByteArray) (w' : World) (e : Ending) : Prop :=
  match run s (.go [] 0) 0 with
  | .error _ => e = .returned (.tuple #[.agg Z7, .int .i64 0, .int .i64 40])
  | .ok (t, n) => ∃ q, Told t w' q ∧ e = .returned (.tuple #[q, .int .i64 (if chk t = 0 then (n : Int) else 0), .int .i64 (chk t)])
/-- What Head's loop keeps. -/
structure HI (s : ByteArray) (w : World) (pre : List (Pos s)) (W : World) : Prop where
  st : ∃ stk md, steps s (.go [] 0) (pre.map (·.1)) = some (.go stk md) ∧ Holds W (w.heap.size + 5) (w.heap.size + 3) (.go stk md)
  r2 : Bk W w.heap.size 27 Z7
  r3 : Bk W (w.heap.size + 1) 3 #[.int .i64 0]
  r4 : Bk W (w.heap.size + 2) 31 #[.int .i64 0]
  sb : Bk W (w.heap.size + 4) 9 #[.string s]
  on : Only [] w W
/-- How Head's loop is left. -/
structure HX (s : ByteArray) (w : World) (c : Code) (pre' : List (Pos s)) (W : World) : Prop where
  on : Only [] w W
  sz : w.heap.size + 5 ≤ W.heap.size
  st : ∃ pre x stk md, pre' = pre ++ [x] ∧ steps s (.go [] 0) (pre.map (·.1)) = some (.go stk md) ∧
    ((c = .exit 0 ∧ mstep (.go stk md) (tkAt s x.1) = none ∧ Bk W w.heap.size 27 Z7 ∧ Bk W (w.heap.size + 1) 3 #[.int .i64 0] ∧ Bk W (w.heap.size + 2) 31 #[.int .i64 0]) ∨
     (c = .ret ∧ ∃ t sl F, mstep (.go stk md) (tkAt s x.1) = some (.whole t) ∧ (∀ b, F b → b < W.heap.size) ∧ TV W F t sl ∧ Bk W w.heap.size 27 (if chk t = 0 then tcs t.k t.n t.x t.y t.S t.a t.b sl else Z7) ∧ Bk W (w.heap.size + 1) 3 #[.int .i64 (if chk t = 0 then (fin s x.1 : Int) else 0)] ∧ Bk W (w.heap.size + 2) 31 #[.int .i64 (chk t)]))
theorem HI.own (s : ByteArray) (w : World) {B : Nat} (hB : B = w.heap.size + 5) : OwnFrom B (HI s w) := by
  intro pre W W' row h hg hr
  obtain ⟨r, o, hn, hr1⟩ := grown_other (by have := h.sb.lt; omega) hg hr
  obtain ⟨stk, md, h1, h2⟩ := h.st
  exact ⟨⟨stk, md, h1, h2.other o hn⟩, h.r2.only o (hn.ne h.r2), h.r3.only o (hn.ne h.r3), h.r4.only o (hn.ne h.r4), h.sb.only o (hn.ne h.sb), h.on.trans o (fun i hi => .inr (by rw [List.mem_singleton.1 hi]; omega))⟩
theorem HX.own (s : ByteArray) (w : World) {B : Nat} (hB : B = w.heap.size + 5) (c : Code) : OwnFrom B (HX s w c) := by
  intro pre W W' row h hg hr
  obtain ⟨r, o, hn, hr1⟩ := grown_other (by have := h.sz; omega) hg hr
  obtain ⟨p, x, stk, md, h1, h2, h3⟩ := h.st
  refine ⟨h.on.trans o (fun i hi => .inr (by rw [List.mem_singleton.1 hi]; omega)), by have := h.sz; have := o.size; omega, p, x, stk, md, h1, h2, ?_⟩
  rcases h3 with ⟨h4, h5, h6, h7, h8⟩ | ⟨h4, t, sl, F, h5, h6, h7, h8, h9, h10⟩
  · exact .inl ⟨h4, h5, h6.only o (hn.ne h6), h7.only o (hn.ne h7), h8.only o (hn.ne h8)⟩
  · exact .inr ⟨h4, t, sl, F, h5, fun b hb => Nat.lt_of_lt_of_le (h6 b hb) o.size, TV.other o hn t _ h7, h8.only o (hn.ne h8), h9.only o (hn.ne h9), h10.only o (hn.ne h10)⟩
theorem HI.step {s : ByteArray} {w W W' : World} {pre : List (Pos s)} {x : Pos s} {σ : MS} {stk : List Opn} {md : Nat} (h : HI s w pre W) (hs : steps s (.go [] 0) (pre.map (·.1)) = some σ) (hm : mstep σ (tkAt s x.1) = some (.go stk md)) (hh : Holds W' (w.heap.size + 5) (w.heap.size + 3) (.go stk md)) (l : Low (w.heap.size + 5) (w.heap.size + 3) W W') :
    HI s w (pre ++ [x]) W' := by
  refine ⟨⟨stk, md, ?_, hh⟩, l.bk h.r2 (by omega) (by omega), l.bk h.r3 (by omega) (by omega), l.bk h.r4 (by omega) (by omega), l.bk h.sb (by omega) (by omega), ?_⟩
  · rw [List.map_append, List.map_singleton, steps_snoc, hs]
    exact hm
  · obtain ⟨S, o, h1, _⟩ := l
    exact h.on.trans o fun i hi => .inr (by rcases h1 i hi with h2 | h2 <;> omega)
theorem low_on {w W W' : World} (h : Only [] w W) (l : Low (w.heap.size + 5) (w.heap.size + 3) W W') : Only [] w W' := by
  obtain ⟨S, o, h1, _⟩ := l
  exact h.trans o fun i hi => .inr (by rcases h1 i hi with h2 | h2 <;> omega)
theorem tok_size {s : ByteArray} (x : Pos s) : (x.1 : Int) + ((s.extract x.1 (fin s x.1)).size : Int) = (fin s x.1 : Int) := by
  have h := fin_bd x.2
  have : (s.extract x.1 (fin s x.1)).size = fin s x.1 - x.1 := by rw [← lst_len, ext_lst, List.length_take, List.length_drop, lst_len]; omega
  omega
set_option maxRecDepth 100000 in
set_option maxHeartbeats 4000000 in
theorem head_in (s : ByteArray) (w : World) (hs : s.size ≤ 262144) (hv : Vars w) : CallsIn Fence.wide 10 Tryz.prog 69 #[.string s] w fun e w' => HeadTells s w' e ∧ Only [] w w' := by
  have e1 : decide ((262144 : Int) < (s.size : Int)) = false := by simp; omega
  refine callsIn_of_wp_marks Tryz.func69 rfl trivial ?_ rfl
  simp only [Tryz.ntmps69, List.size_toArray, List.length_cons, List.length_nil, Nat.reduceAdd, Nat.reduceSub, Array.replicate_succ, Array.replicate_zero, List.push_toArray, List.append_toArray, List.nil_append, List.cons_append]
  gi_wp2_with fail
  refine ⟨trivial, ?_⟩
  refine (tokens_any s _).mono ?_
  rintro e w' ⟨rfl, rfl⟩
  gi_wp2_with fail
  obtain ⟨W0, hW0⟩ : ∃ W0, ((((w.alloc (.cells Z7 27)).alloc (.cells #[.int .i64 0] 3)).alloc (.cells #[.int .i64 0] 31)).alloc (.cells R9 123)).alloc (.cells #[.string s] 9) = W0 := ⟨_, rfl⟩
  have hs0 : W0.heap.size = w.heap.size + 5 := by rw [← hW0]; simp
  have b2 : Bk W0 w.heap.size 27 Z7 := by rw [← hW0]; exact ((((Bk.made _ _ _).alloc _).alloc _).alloc _).alloc _
  have b3 : Bk W0 (w.heap.size + 1) 3 #[.int .i64 0] := by rw [← hW0]; exact (((Bk.madeAt (by simp)).alloc _).alloc _).alloc _
  have b4 : Bk W0 (w.heap.size + 2) 31 #[.int .i64 0] := by rw [← hW0]; exact ((Bk.madeAt (by simp)).alloc _).alloc _
  have b5 : Bk W0 (w.heap.size + 3) 123 R9 := by rw [← hW0]; exact (Bk.madeAt (by simp)).alloc _
  have b6 : Bk W0 (w.heap.size + 4) 9 #[.string s] := by rw [← hW0]; exact Bk.madeAt (by simp)
  have o0 : Only [] w W0 := by rw [← hW0]; exact (((((Only.refl [] w).alloc _).alloc _).alloc _).alloc _).alloc _
  have h0 : HI s w [] W0 := ⟨⟨[], 0, rfl, by omega, fun _ => False, .slice none 0 0, [], _, _, _, _, _, _, _, rfl, b5, ⟨by omega, fun b h => h.elim, ⟨rfl, .inl ⟨rfl, rfl⟩⟩, by simp, by simp, fun _ _ _ _ h => h.elim⟩⟩, b2, b3, b4, b6, o0⟩
  rw [hW0]
  clear hW0
  refine wpIn_rangeFunc_ownF rfl (by omega) (gf := 95) (lb := #[.pointer (some ⟨w.heap.size + 1 + 1 + 1 + 1, 0, none⟩)]) rfl trivial (enters_of Tryz.func95 (by kernel_rfl) rfl)
    (tokens_stops s hs 9 (w.heap.size + 1 + 1 + 1 + 1) (by omega) W0 (b6.cell0 rfl)) kpT_t (kpT_b (by omega)) (Below.refl _ _) (fun _ => rfl) (HI s w) (HX s w) (HI.own s w hs0) (HX.own s w hs0) h0
    (fun x => { tmps := #[.string s, undef, .pointer (some ⟨w.heap.size, 0, none⟩), .pointer (some ⟨w.heap.size + 1, 0, none⟩), .pointer (some ⟨w.heap.size + 1 + 1, 0, none⟩), .pointer (some ⟨w.heap.size + 1 + 1 + 1, 0, none⟩), .int .i64 (x.1 : Int), .string (s.extract x.1 (fin s x.1)), undef, undef, .string s, .int .i64 s.size, .bool false, undef, .string s, .func (.func 95) #[] #[.pointer (some ⟨w.heap.size + 1 + 1 + 1 + 1, 0, none⟩)], .int .i64 (x.1 : Int), .string (s.extract x.1 (fin s x.1)), undef, undef, undef, undef, undef, undef, undef, undef, undef, undef, undef, undef, undef, undef, undef, undef, undef, undef, undef, undef], defers := [] }) ?assign ?body ?done ?stop
  case assign =>
    intro l x W K hK
    gi_wp2_with fail
    exact hK
  case body =>
    intro l pre x W h hlen
    obtain ⟨stk, md, hst, hh⟩ := h.st
    have hinv := MInv.steps hs (pre.map (·.1)) 0 _ _ MInv.init hst
    rw [List.length_map, Nat.zero_add] at hinv
    have T := Lib.hid (take_any s x.1 hs x.2 W (w.heap.size + 5) (w.heap.size + 3) (.go stk md) hh (hv.same h.on) (by omega) (hinv.small (by omega)))
    have HV := Lib.hid hinv
    clear hinv hh
    have HH := Lib.hid h
    have HS := Lib.hid hst
    clear h hst
    gi_wp2_with fail
    refine ⟨trivial, ?_⟩
    refine (CallsIn.inRound l (callsIn_wide.2 T.out)).mono ?_
    rintro e W' ⟨b, rfl, hl, ht, hf⟩
    have HL := Lib.hid hl
    cases b with
    | true =>
      obtain ⟨σ', hm, hh'⟩ := ht rfl
      have HM := Lib.hid hm
      have HN := Lib.hid hh'
      have B2 := Lib.hid (hl.bk HH.out.r2 (by omega) (by omega))
      have B3 := Lib.hid (hl.bk HH.out.r3 (by omega) (by omega))
      have B4 := Lib.hid (hl.bk HH.out.r4 (by omega) (by omega))
      have ON := Lib.hid (low_on HH.out.on hl)
      cases σ' with
      | go stk' md' =>
        have hm3 : md' ≤ 2 := hh'.1
        have e3 : ((md' : Int) != 3) = true := by
          rw [bne, Bool.not_eq_true', beq_eq_false_iff_ne]; omega
        obtain ⟨_, F, bv, ps, u0, u1, u2, u3, u4, u5, u6, _, hb, hr⟩ := hh'
        have s0 : W'.cell? ⟨w.heap.size + 1 + 1 + 1, 0, none⟩ = some (.int .i64 md') := hb.cell0 rfl
        clear hl ht hf hm hb hr
        gi_wp2_with fail
        exact ⟨HL.out.others, HL.out.kp HH.out.sb (by omega) (by omega), HH.out.step HS.out HM.out HN.out HL.out⟩
      | whole t =>
        have hgd := HV.out.step hs hm
        have A := Lib.hid (answer_any W' _ _ t hh' hgd)
        have rs := store_com
        have s0 : W'.cell? ⟨w.heap.size + 1 + 1 + 1, 0, none⟩ = some (.int .i64 3) := by obtain ⟨F, A, n, cap, sl, hb, _⟩ := hh'; exact hb.cell0 rfl
        clear hl ht hf hm hh' hgd
        gi_wp2_with fail
        refine ⟨trivial, ?_⟩
        refine (CallsIn.inRound l (callsIn_wide.2 A.out)).mono ?_
        rintro e W2 ⟨sl, F, hF, ht, rfl, o2⟩
        obtain ⟨B, m, c, rfl⟩ := ht.slice
        have HT := Lib.hid ht
        have HF := Lib.hid hF
        have C2 := Lib.hid (B2.out.only o2 (by simp))
        have C3 := Lib.hid (B3.out.only o2 (by simp))
        have C4 := Lib.hid (B4.out.only o2 (by simp))
        have ON2 := Lib.hid (ON.out.trans o2 (by simp))
        have LO := Lib.hid (HL.out.others.trans (Low.of0 (base := 0) (rb := 0) o2).others)
        have hsz2 : w.heap.size + 5 ≤ W2.heap.size := by have := HH.out.sb.lt; have := HL.out.others.1; have := o2.size; omega
        obtain ⟨z0, z1, z2, z3, z4, z5, z6⟩ := C2.out.seven
        have zf := C2.out.free
        have y0 : W2.cell? ⟨w.heap.size + 1, 0, none⟩ = some (.int .i64 0) := C3.out.cell0 rfl
        have yf := C3.out.free
        have x0 : W2.cell? ⟨w.heap.size + 1 + 1, 0, none⟩ = some (.int .i64 0) := C4.out.cell0 rfl
        have xf : ∀ i, W2.frozen? ⟨w.heap.size + 1 + 1, i, none⟩ = false := C4.out.free
        have l2 := C2.out.lt
        have l3 := C3.out.lt
        have l4 := C4.out.lt
        clear hF ht o2 s0
        have hfx : (x.1 : Int) + ((min (fin s x.1) s.size - x.1 : Nat) : Int) = (fin s x.1 : Int) := by have := fin_bd x.2; omega
        have HFX := Lib.hid hfx
        clear hfx
        by_cases h0 : chk t = 0
        · simp only [h0, if_true]
          gi_wp2_with fail
          obtain ⟨r2, r3, r4, o3, k3⟩ := out3 (v0 := (.int .i64 t.k)) (v1 := (.int .i64 t.n)) (v2 := (.complex .f64 t.x t.y)) (v3 := (.string t.S)) (v4 := (.int .i64 t.a)) (v5 := (.int .i64 t.b)) (v6 := (.slice B m c)) (v7 := (.int .i64 ((x.1 : Int) + ((min (fin s x.1) s.size - x.1 : Nat) : Int)))) (v8 := (.int .i64 0)) C2.out C3.out C4.out (Eq.refl _)
          have on3 := ON2.out.trans o3 (fun i hi => .inr (by simp at hi; omega))
          have hT3 := TV.only o3 (fun b hb hf => by have := (HF.out b hf).1; simp at hb; omega) (fun _ h => h) t _ HT.out
          have hF3 : ∀ b, F b → b < W2.heap.size := fun b hb => (HF.out b hb).2
          have hS3 := o3.size
          have hk3 := LO.out.trans k3
          clear z0 z1 z2 z3 z4 z5 z6 zf y0 yf x0 xf k3 o3
          generalize ((((((((W2.setCell ⟨w.heap.size, 0, none⟩ (.int .i64 t.k)).setCell ⟨w.heap.size, 1, none⟩ (.int .i64 t.n)).setCell ⟨w.heap.size, 2, none⟩ (.complex .f64 t.x t.y)).setCell ⟨w.heap.size, 3, none⟩ (.string t.S)).setCell ⟨w.heap.size, 4, none⟩ (.int .i64 t.a)).setCell ⟨w.heap.size, 5, none⟩ (.int .i64 t.b)).setCell ⟨w.heap.size, 6, none⟩ (.slice B m c)).setCell ⟨w.heap.size + 1, 0, none⟩ (.int .i64 ((x.1 : Int) + ((min (fin s x.1) s.size - x.1 : Nat) : Int)))).setCell ⟨w.heap.size + 1 + 1, 0, none⟩ (.int .i64 0) = W9 at *
          exact ⟨hk3.trans (Low.of0 (base := 0) (rb := 0) ((Only.refl [] W9).alloc _)).others, on3.alloc _, by simp; omega, pre, x, stk, md, rfl, HS.out, .inr ⟨rfl, t, _, F, HM.out, fun b hb => by have := hF3 b hb; simp; omega, hT3.same ((Only.refl [] W9).alloc _), by rw [if_pos h0]; exact r2.alloc _, by rw [if_pos h0, ← HFX.out]; exact r3.alloc _, by rw [h0]; exact r4.alloc _⟩⟩
        · simp only [if_neg h0]
          gi_wp2_with fail
          obtain ⟨r2, r3, r4, o3, k3⟩ := out3 (v0 := (.int .i64 0)) (v1 := (.int .i64 0)) (v2 := (.complex .f64 0 0)) (v3 := (.string ⟨#[]⟩)) (v4 := (.int .i64 0)) (v5 := (.int .i64 0)) (v6 := (.slice none 0 0)) (v7 := (.int .i64 0)) (v8 := (.int .i64 (chk t))) C2.out C3.out C4.out (Eq.refl _)
          have on3 := ON2.out.trans o3 (fun i hi => .inr (by simp at hi; omega))
          have hT3 := TV.only o3 (fun b hb hf => by have := (HF.out b hf).1; simp at hb; omega) (fun _ h => h) t _ HT.out
          have hF3 : ∀ b, F b → b < W2.heap.size := fun b hb => (HF.out b hb).2
          have hS3 := o3.size
          have hk3 := LO.out.trans k3
          clear z0 z1 z2 z3 z4 z5 z6 zf y0 yf x0 xf k3 o3
          generalize ((((((((W2.setCell ⟨w.heap.size, 0, none⟩ (.int .i64 0)).setCell ⟨w.heap.size, 1, none⟩ (.int .i64 0)).setCell ⟨w.heap.size, 2, none⟩ (.complex .f64 0 0)).setCell ⟨w.heap.size, 3, none⟩ (.string ⟨#[]⟩)).setCell ⟨w.heap.size, 4, none⟩ (.int .i64 0)).setCell ⟨w.heap.size, 5, none⟩ (.int .i64 0)).setCell ⟨w.heap.size, 6, none⟩ (.slice none 0 0)).setCell ⟨w.heap.size + 1, 0, none⟩ (.int .i64 0)).setCell ⟨w.heap.size + 1 + 1, 0, none⟩ (.int .i64 (chk t)) = W9 at *
          exact ⟨hk3.trans (Low.of0 (base := 0) (rb := 0) ((Only.refl [] W9).alloc _)).others, on3.alloc _, by simp; omega, pre, x, stk, md, rfl, HS.out, .inr ⟨rfl, t, _, F, HM.out, fun b hb => by have := hF3 b hb; simp; omega, hT3.same ((Only.refl [] W9).alloc _), by rw [if_neg h0]; exact r2.alloc _, by rw [if_neg h0]; exact r3.alloc _, r4.alloc _⟩⟩
    | false =>
      have HM := Lib.hid (hf rfl)
      have B2 := Lib.hid (hl.bk HH.out.r2 (by omega) (by omega))
      have B3 := Lib.hid (hl.bk HH.out.r3 (by omega) (by omega))
      have B4 := Lib.hid (hl.bk HH.out.r4 (by omega) (by omega))
      have ON := Lib.hid (low_on HH.out.on hl)
      clear hl ht hf
      gi_wp2_with fail
      exact ⟨HL.out.others, ON.out, by have := HH.out.sb.lt; have := HL.out.others.1; omega, pre, x, stk, md, rfl, HS.out, .inl ⟨rfl, HM.out, B2.out, B3.out, B4.out⟩⟩
  case done =>
    rintro D xs W hD hS h hK
    obtain ⟨stk, md, hst, hh⟩ := h.st
    obtain ⟨_, hg⟩ := read_end s (xs.map (·.1)) (.go [] 0) 0 _ (by omega) hS.symm hst
    have HP := Lib.hid (hg stk md rfl).2
    have HB2 := Lib.hid h.r2
    have HB3 := Lib.hid h.r3
    have HB4 := Lib.hid h.r4
    have HON := Lib.hid h.on
    have HK := Lib.hid hK
    have rs := store_com
    obtain ⟨z0, z1, z2, z3, z4, z5, z6⟩ := HB2.out.seven
    have zf := HB2.out.free
    have y0 : W.cell? ⟨w.heap.size + 1, 0, none⟩ = some (.int .i64 0) := HB3.out.cell0 rfl
    have yf := HB3.out.free
    have x0 : W.cell? ⟨w.heap.size + 1 + 1, 0, none⟩ = some (.int .i64 0) := HB4.out.cell0 rfl
    have xf : ∀ i, W.frozen? ⟨w.heap.size + 1 + 1, i, none⟩ = false := HB4.out.free

    clear hh hg hst h hK hS
    gi_wp2_with fail
    obtain ⟨r2, r3, r4, o3, k3⟩ := out3 (v0 := (.int .i64 0)) (v1 := (.int .i64 0)) (v2 := (.complex .f64 0 0)) (v3 := (.string ⟨#[]⟩)) (v4 := (.int .i64 0)) (v5 := (.int .i64 0)) (v6 := (.slice none 0 0)) (v7 := (.int .i64 0)) (v8 := (.int .i64 40)) HB2.out HB3.out HB4.out (Eq.refl _)
    have on3 := HON.out.trans o3 (fun i hi => .inr (by simp at hi; omega))
    have hK3 := k3.same D _ HK.out rfl
    clear z0 z1 z2 z3 z4 z5 z6 zf y0 yf x0 xf k3 o3
    refine ⟨by simp, .inl ⟨_, _, rfl, run_takeDeferred hK3, ?_⟩⟩
    generalize ((((((((W.setCell ⟨w.heap.size, 0, none⟩ (.int .i64 0)).setCell ⟨w.heap.size, 1, none⟩ (.int .i64 0)).setCell ⟨w.heap.size, 2, none⟩ (.complex .f64 0 0)).setCell ⟨w.heap.size, 3, none⟩ (.string ⟨#[]⟩)).setCell ⟨w.heap.size, 4, none⟩ (.int .i64 0)).setCell ⟨w.heap.size, 5, none⟩ (.int .i64 0)).setCell ⟨w.heap.size, 6, none⟩ (.slice none 0 0)).setCell ⟨w.heap.size + 1, 0, none⟩ (.int .i64 0)).setCell ⟨w.heap.size + 1 + 1, 0, none⟩ (.int .i64 40) = W3 at *
    obtain ⟨o, hn⟩ := shut_loop (D := D) (x := .deferred none) hK3
    have on2 : Only [] w (W3.putObj D (.deferred none)) := on3.trans o (fun i hi => .inr (by rw [List.mem_singleton.1 hi]; omega))
    obtain ⟨z0, z1, z2, z3, z4, z5, z6⟩ := (r2.only o (hn.ne r2)).seven
    have y0 : (W3.putObj D (.deferred none)).cell? ⟨w.heap.size + 1, 0, none⟩ = some (.int .i64 0) := (r3.only o (hn.ne r3)).cell0 rfl
    have x0 : (W3.putObj D (.deferred none)).cell? ⟨w.heap.size + 1 + 1, 0, none⟩ = some (.int .i64 40) := (r4.only o (hn.ne r4)).cell0 rfl
    refine ⟨.tuple #[.agg Z7, .int .i64 0, .int .i64 40], ?_, ?_, on2⟩
    · simp [results, Tryz.results69, go_sem, z0, z1, z2, z3, z4, z5, z6, y0, x0]
    · unfold HeadTells
      rw [HP.out]
  case stop =>
    rintro D c pre W hD ⟨rest, hpart⟩ h hK
    obtain ⟨on, sz, pre, x, stk, md, rfl, hst, h⟩ := h
    rcases h with ⟨rfl, hm, r2, r3, r4⟩ | ⟨rfl, t, sl, F, hm, hF, hT, r2, r3, r4⟩
    · have HP := Lib.hid ((read_no s (pre.map (·.1)) (.go [] 0) 0 x.1 rest _ (by omega) (by rw [hpart]; simp) hst hm).2 ⟨stk, md, rfl⟩)
      have HB2 := Lib.hid r2
      have HB3 := Lib.hid r3
      have HB4 := Lib.hid r4
      have HON := Lib.hid on
      have HK := Lib.hid hK
      have rs := store_com
      obtain ⟨z0, z1, z2, z3, z4, z5, z6⟩ := HB2.out.seven
      have zf := HB2.out.free
      have y0 : W.cell? ⟨w.heap.size + 1, 0, none⟩ = some (.int .i64 0) := HB3.out.cell0 rfl
      have yf := HB3.out.free
      have x0 : W.cell? ⟨w.heap.size + 1 + 1, 0, none⟩ = some (.int .i64 0) := HB4.out.cell0 rfl
      have xf : ∀ i, W.frozen? ⟨w.heap.size + 1 + 1, i, none⟩ = false := HB4.out.free

      clear hm hst r2 r3 r4 on hK hpart
      gi_wp2_with fail
      obtain ⟨r2, r3, r4, o3, k3⟩ := out3 (v0 := (.int .i64 0)) (v1 := (.int .i64 0)) (v2 := (.complex .f64 0 0)) (v3 := (.string ⟨#[]⟩)) (v4 := (.int .i64 0)) (v5 := (.int .i64 0)) (v6 := (.slice none 0 0)) (v7 := (.int .i64 0)) (v8 := (.int .i64 40)) HB2.out HB3.out HB4.out (Eq.refl _)
      have on3 := HON.out.trans o3 (fun i hi => .inr (by simp at hi; omega))
      have hK3 := k3.same D _ HK.out rfl
      clear z0 z1 z2 z3 z4 z5 z6 zf y0 yf x0 xf k3 o3
      refine ⟨by simp, .inl ⟨_, _, rfl, run_takeDeferred hK3, ?_⟩⟩
      generalize ((((((((W.setCell ⟨w.heap.size, 0, none⟩ (.int .i64 0)).setCell ⟨w.heap.size, 1, none⟩ (.int .i64 0)).setCell ⟨w.heap.size, 2, none⟩ (.complex .f64 0 0)).setCell ⟨w.heap.size, 3, none⟩ (.string ⟨#[]⟩)).setCell ⟨w.heap.size, 4, none⟩ (.int .i64 0)).setCell ⟨w.heap.size, 5, none⟩ (.int .i64 0)).setCell ⟨w.heap.size, 6, none⟩ (.slice none 0 0)).setCell ⟨w.heap.size + 1, 0, none⟩ (.int .i64 0)).setCell ⟨w.heap.size + 1 + 1, 0, none⟩ (.int .i64 40) = W3 at *
      obtain ⟨o, hn⟩ := shut_loop (D := D) (x := .deferred none) hK3
      have on2 : Only [] w (W3.putObj D (.deferred none)) := on3.trans o (fun i hi => .inr (by rw [List.mem_singleton.1 hi]; omega))
      obtain ⟨z0, z1, z2, z3, z4, z5, z6⟩ := (r2.only o (hn.ne r2)).seven
      have y0 : (W3.putObj D (.deferred none)).cell? ⟨w.heap.size + 1, 0, none⟩ = some (.int .i64 0) := (r3.only o (hn.ne r3)).cell0 rfl
      have x0 : (W3.putObj D (.deferred none)).cell? ⟨w.heap.size + 1 + 1, 0, none⟩ = some (.int .i64 40) := (r4.only o (hn.ne r4)).cell0 rfl
      refine ⟨.tuple #[.agg Z7, .int .i64 0, .int .i64 40], ?_, ?_, on2⟩
      · simp [results, Tryz.results69, go_sem, z0, z1, z2, z3, z4, z5, z6, y0, x0]
      · unfold HeadTells
        rw [HP.out]
    · have hp := read_head s (pre.map (·.1)) (.go [] 0) 0 x.1 rest t (by omega) (by rw [hpart]; simp) (by rw [steps_snoc, hst]; exact hm)
      gi_wp2
      refine ⟨by simp, .inl ⟨_, _, rfl, run_takeDeferred hK, ?_⟩⟩
      obtain ⟨o, hn⟩ := shut_loop (D := D) hK
      have on2 : Only [] w (W.putObj D (.deferred none)) := on.trans o (fun i hi => .inr (by rw [List.mem_singleton.1 hi]; omega))
      have hT2 := TV.other o hn t _ hT
      have hS2 := o.size
      by_cases h0 : chk t = 0
      · rw [if_pos h0] at r2 r3
        rw [h0] at r4
        obtain ⟨z0, z1, z2, z3, z4, z5, z6⟩ := (r2.only o (hn.ne r2)).seven
        have y0 : (W.putObj D (.deferred none)).cell? ⟨w.heap.size + 1, 0, none⟩ = some (.int .i64 (fin s x.1 : Int)) := (r3.only o (hn.ne r3)).cell0 rfl
        have x0 : (W.putObj D (.deferred none)).cell? ⟨w.heap.size + 1 + 1, 0, none⟩ = some (.int .i64 0) := (r4.only o (hn.ne r4)).cell0 rfl
        refine ⟨.tuple #[.agg (tcs t.k t.n t.x t.y t.S t.a t.b sl), .int .i64 (fin s x.1 : Int), .int .i64 0], ?_, ?_, on2⟩
        · simp [results, Tryz.results69, go_sem, z0, z1, z2, z3, z4, z5, z6, y0, x0]
        · unfold HeadTells
          rw [hp]
          refine ⟨_, ⟨sl, F, fun b hb => by have := hF b hb; omega, hT2, rfl⟩, ?_⟩
          rw [h0, if_pos rfl, if_pos rfl]
      · rw [if_neg h0] at r2 r3
        obtain ⟨z0, z1, z2, z3, z4, z5, z6⟩ := (r2.only o (hn.ne r2)).seven
        have y0 : (W.putObj D (.deferred none)).cell? ⟨w.heap.size + 1, 0, none⟩ = some (.int .i64 0) := (r3.only o (hn.ne r3)).cell0 rfl
        have x0 : (W.putObj D (.deferred none)).cell? ⟨w.heap.size + 1 + 1, 0, none⟩ = some (.int .i64 (chk t)) := (r4.only o (hn.ne r4)).cell0 rfl
        refine ⟨.tuple #[.agg Z7, .int .i64 0, .int .i64 (chk t)], ?_, ?_, on2⟩
        · simp [results, Tryz.results69, go_sem, z0, z1, z2, z3, z4, z5, z6, y0, x0]
        · unfold HeadTells
          rw [hp]
          refine ⟨_, ⟨sl, F, fun b hb => by have := hF b hb; omega, hT2, rfl⟩, ?_⟩
          rw [if_neg h0, if_neg h0]
set_option maxHeartbeats 1000000 in
theorem head_long (s : ByteArray) (w : World) (hs : 262144 < s.size) : Calls Tryz.prog 69 #[.string s] w fun e w' => e = .returned (.tuple #[.agg Z7, .int .i64 0, .int .i64 4]) ∧ Only [] w w' := by
  have e1 : decide ((262144 : Int) < (s.size : Int)) = true := by simp; omega
  have rs := store_com
  go_enter Tryz.func69, Tryz.ntmps69
  go_wp2_with fail
  refine bodyPost_ret (v := .tuple #[.agg Z7, .int .i64 0, .int .i64 4]) (by simp [results, Tryz.results69, go_sem]) rfl ⟨rfl, ?_⟩
  exact (((Only.refl [] w).alloc _).alloc _).alloc _
theorem head_any (s : ByteArray) (w : World) (hs : s.size ≤ 262144) (hv : Vars w) : Calls Tryz.prog 69 #[.string s] w fun e w' => HeadTells s w' e ∧ Only [] w w' := callsIn_wide.1 (head_in s w hs hv)
end Go.Proofs.YtlilfmpikampgaaGreatDoor
