/- text: the loop over a text's tokens. text: Parse, for every text. -/
import Derived.Test.YtlilfmpikampgaaGreatDoorPMm
import Derived.Test.YtlilfmpikampgaaGreatDoorPMk
import Derived.Test.YtlilfmpikampgaaGreatDoorPX4
namespace Go.Proofs.YtlilfmpikampgaaGreatDoor
open Go.RowKit Go.Shelf
attribute [local go_sem] Oper.semAt_some

/-- What is none of cells lies on. -/
theorem Low.kept {base rb : Nat} {w w' : World} (h : Low base rb w w') {k : Nat} {o : Obj} (hk : w.heap[k]? = some o) (ho : o.isCells = false) : w'.heap[k]? = some o := by
  obtain ⟨S, h1, _, h3⟩ := h
  have hlt : k < w.heap.size := (Array.getElem?_eq_some_iff.1 hk).1
  refine (h1.block k hlt fun hm => ?_).trans hk
  obtain ⟨t, cs, hb⟩ := h3 k hm hlt
  have hb' : w.heap[k]? = some (.cells cs t (0, 0)) := hb
  rw [hk] at hb'
  injection hb' with hb'
  rw [hb'] at ho
  cases ho
/-- The reader that has read nothing. -/
abbrev R9 : Array Value := rcs 0 (.slice none 0 0) (.int .i64 0) (.int .i64 0) (.complex .f64 0 0) (.string ⟨#[]⟩) (.int .i64 0) (.int .i64 0) (.slice none 0 0)
/-- What Parse and Head tell of a term that is whole. -/
def Told (t : T) (w' : World) (q : Value) : Prop := ∃ sl F, (∀ b, F b → b < w'.heap.size) ∧ TV w' F t sl ∧ q = .agg (if chk t = 0 then tcs t.k t.n t.x t.y t.S t.a t.b sl else Z7)
def ParseTells (s : ByteArray) (w' : World) (e : Ending) : Prop :=
  match pspec s (.go [] 0) 0 with
  | .error b => e = .returned (.tuple #[.agg Z7, .int .i64 40, .int .i64 b])
  | .ok t => ∃ q, Told t w' q ∧ e = .returned (.tuple #[q, .int .i64 (chk t), .int .i64 0])
/-- What Parse's loop keeps. -/
structure PI (s : ByteArray) (w : World) (pre : List (Pos s)) (W : World) : Prop where
  st : ∃ σ, steps s (.go [] 0) (pre.map (·.1)) = some σ ∧ Holds W (w.heap.size + 5) (w.heap.size + 3) σ
  r2 : Bk W w.heap.size 27 Z7
  r3 : Bk W (w.heap.size + 1) 31 #[.int .i64 0]
  r4 : Bk W (w.heap.size + 2) 3 #[.int .i64 0]
  sb : Bk W (w.heap.size + 4) 9 #[.string s]
  on : Only [] w W
/-- How a token that is refused leaves the loop. -/
structure PX (s : ByteArray) (w : World) (c : Code) (pre' : List (Pos s)) (W : World) : Prop where
  ret : c = .ret
  st : ∃ pre x σ, pre' = pre ++ [x] ∧ steps s (.go [] 0) (pre.map (·.1)) = some σ ∧ mstep σ (tkAt s x.1) = none ∧ Bk W (w.heap.size + 2) 3 #[.int .i64 x.1]
  r2 : Bk W w.heap.size 27 Z7
  r3 : Bk W (w.heap.size + 1) 31 #[.int .i64 40]
  on : Only [] w W
  sz : w.heap.size + 5 ≤ W.heap.size
theorem grown_other {B : Nat} {W W' : World} {row : Option Nat} (hB : B ≤ W.heap.size) (hg : W.grownBy W' row) (hr : ∀ r, row = some r → B ≤ r ∧ ∃ o : Obj, W.heap[r]? = some o ∧ o.isCells = false) : ∃ r, Only [r] W W' ∧ NoCells W r ∧ B ≤ r := by
  have h := Only.of_grown hg
  cases row with
  | none =>
    refine ⟨W.heap.size, h.more (by simp), fun cs t fz e => ?_, hB⟩
    rw [Array.getElem?_eq_none (Nat.le_refl _)] at e
    cases e
  | some r =>
    obtain ⟨h1, o, h2, h3⟩ := hr r rfl
    refine ⟨r, h, fun cs t fz e => ?_, h1⟩
    rw [h2] at e
    injection e with e
    rw [e] at h3
    cases h3
theorem NoCells.ne {w : World} {r b : Nat} {t : TypeId} {cs : Array Value} (h : NoCells w r) (hb : Bk w b t cs) : b ∉ [r] := by
  intro hm
  rw [List.mem_singleton.1 hm] at hb
  exact h _ _ _ hb
theorem PI.own (s : ByteArray) (w : World) {B : Nat} (hB : B = w.heap.size + 5) : OwnFrom B (PI s w) := by
  intro pre W W' row h hg hr
  obtain ⟨r, o, hn, hr1⟩ := grown_other (by have := h.sb.lt; omega) hg hr
  obtain ⟨σ, h1, h2⟩ := h.st
  exact ⟨⟨σ, h1, h2.other o hn⟩, h.r2.only o (hn.ne h.r2), h.r3.only o (hn.ne h.r3), h.r4.only o (hn.ne h.r4), h.sb.only o (hn.ne h.sb), h.on.trans o (fun i hi => .inr (by rw [List.mem_singleton.1 hi]; omega))⟩
theorem PX.own (s : ByteArray) (w : World) {B : Nat} (hB : B = w.heap.size + 5) (hle : ∀ W c pre, PX s w c pre W → B ≤ W.heap.size) (c : Code) : OwnFrom B (PX s w c) := by
  intro pre W W' row h hg hr
  obtain ⟨r, o, hn, hr1⟩ := grown_other (hle _ _ _ h) hg hr
  obtain ⟨p, x, σ, h1, h2, h3, h4⟩ := h.st
  exact ⟨h.ret, ⟨p, x, σ, h1, h2, h3, h4.only o (hn.ne h4)⟩, h.r2.only o (hn.ne h.r2), h.r3.only o (hn.ne h.r3), h.on.trans o (fun i hi => .inr (by rw [List.mem_singleton.1 hi]; omega)), by have := h.sz; have := o.size; omega⟩
theorem Low.others {base rb : Nat} {w w' : World} (h : Low base rb w w') : KeepsOthers w w' := ⟨by obtain ⟨S, h, _⟩ := h; exact h.size, fun _ _ hk ho => h.kept hk ho⟩
theorem Low.bk {base rb b : Nat} {w w' : World} {t : TypeId} {cs : Array Value} (h : Low base rb w w') (hb : Bk w b t cs) (h1 : b < base) (h2 : b ≠ rb) : Bk w' b t cs := by
  obtain ⟨S, h, h3, _⟩ := h
  refine hb.only h fun hm => ?_
  rcases h3 b hm with h4 | h4
  · exact h2 h4
  · omega
theorem PI.step {s : ByteArray} {w W W' : World} {pre : List (Pos s)} {x : Pos s} {σ σ' : MS} (h : PI s w pre W) (hs : steps s (.go [] 0) (pre.map (·.1)) = some σ) (hm : mstep σ (tkAt s x.1) = some σ') (hh : Holds W' (w.heap.size + 5) (w.heap.size + 3) σ') (l : Low (w.heap.size + 5) (w.heap.size + 3) W W') :
    PI s w (pre ++ [x]) W' := by
  refine ⟨⟨σ', ?_, hh⟩, l.bk h.r2 (by omega) (by omega), l.bk h.r3 (by omega) (by omega), l.bk h.r4 (by omega) (by omega), l.bk h.sb (by omega) (by omega), ?_⟩
  · rw [List.map_append, List.map_singleton, steps_snoc, hs]
    exact hm
  · obtain ⟨S, o, h1, _⟩ := l
    exact h.on.trans o fun i hi => .inr (by rcases h1 i hi with h2 | h2 <;> omega)
theorem Low.kp {sb base rb : Nat} {s : ByteArray} {w w' : World} {t : TypeId} (h : Low base rb w w') (hb : Bk w sb t #[.string s]) (h1 : sb < base) (h2 : sb ≠ rb) : KpT sb w w' :=
  ⟨h.others.walks, fun _ => ⟨((h.bk hb h1 h2).cell0 (i := 0) rfl).trans (hb.cell0 rfl).symm, (h.bk hb h1 h2).lt⟩⟩
/-- Three results written. -/
theorem out3 {W W3 : World} {b : Nat} {t2 t3 t4 : TypeId} {q0 q1 q2 q3 q4 q5 q6 q7 q8 v0 v1 v2 v3 v4 v5 v6 v7 v8 : Value} (B2 : Bk W b t2 #[q0, q1, q2, q3, q4, q5, q6]) (B3 : Bk W (b + 1) t3 #[q7]) (B4 : Bk W (b + 2) t4 #[q8])
    (hw : W3 = ((((((((W.setCell ⟨b, 0, none⟩ v0).setCell ⟨b, 1, none⟩ v1).setCell ⟨b, 2, none⟩ v2).setCell ⟨b, 3, none⟩ v3).setCell ⟨b, 4, none⟩ v4).setCell ⟨b, 5, none⟩ v5).setCell ⟨b, 6, none⟩ v6).setCell ⟨b + 1, 0, none⟩ v7).setCell ⟨b + 1 + 1, 0, none⟩ v8) :
    Bk W3 b t2 #[v0, v1, v2, v3, v4, v5, v6] ∧ Bk W3 (b + 1) t3 #[v7] ∧ Bk W3 (b + 2) t4 #[v8] ∧ Only [b, b + 1, b + 2] W W3 ∧ KeepsOthers W W3 := by
  have b1 := B2.setTo 0 v0 #[v0, q1, q2, q3, q4, q5, q6] rfl
  have b2 := b1.setTo 1 v1 #[v0, v1, q2, q3, q4, q5, q6] rfl
  have b3 := b2.setTo 2 v2 #[v0, v1, v2, q3, q4, q5, q6] rfl
  have b4 := b3.setTo 3 v3 #[v0, v1, v2, v3, q4, q5, q6] rfl
  have b5 := b4.setTo 4 v4 #[v0, v1, v2, v3, v4, q5, q6] rfl
  have b6 := b5.setTo 5 v5 #[v0, v1, v2, v3, v4, v5, q6] rfl
  have b7 := b6.setTo 6 v6 #[v0, v1, v2, v3, v4, v5, v6] rfl
  have hm : b ∈ [b] ∨ W.heap.size ≤ b := .inl (by simp)
  have o1 := (Only.refl [b] W).set (p := ⟨b, 0, none⟩) hm v0
  have o2 := o1.set (p := ⟨b, 1, none⟩) hm v1
  have o3 := o2.set (p := ⟨b, 2, none⟩) hm v2
  have o4 := o3.set (p := ⟨b, 3, none⟩) hm v3
  have o5 := o4.set (p := ⟨b, 4, none⟩) hm v4
  have o6 := o5.set (p := ⟨b, 5, none⟩) hm v5
  have o7 := o6.set (p := ⟨b, 6, none⟩) hm v6
  have k7 := ((((((KeepsOthers.setCell W ⟨b, 0, none⟩ v0).trans (KeepsOthers.setCell _ ⟨b, 1, none⟩ v1)).trans (KeepsOthers.setCell _ ⟨b, 2, none⟩ v2)).trans (KeepsOthers.setCell _ ⟨b, 3, none⟩ v3)).trans (KeepsOthers.setCell _ ⟨b, 4, none⟩ v4)).trans (KeepsOthers.setCell _ ⟨b, 5, none⟩ v5)).trans (KeepsOthers.setCell _ ⟨b, 6, none⟩ v6)
  subst hw
  clear b1 b2 b3 b4 b5 b6 o1 o2 o3 o4 o5 o6
  generalize ((((((W.setCell ⟨b, 0, none⟩ v0).setCell ⟨b, 1, none⟩ v1).setCell ⟨b, 2, none⟩ v2).setCell ⟨b, 3, none⟩ v3).setCell ⟨b, 4, none⟩ v4).setCell ⟨b, 5, none⟩ v5).setCell ⟨b, 6, none⟩ v6 = W7 at *
  have c3 := (B3.only o7 (by simp)).setTo 0 v7 #[v7] rfl
  have c4 := B4.only o7 (by simp)
  refine ⟨(b7.away (by simp) _).away (by simp; omega) _, c3.away (by simp) _, (c4.away (p := ⟨b + 1, 0, none⟩) (by simp) v7).setTo 0 v8 #[v8] rfl, ?_, (k7.trans (KeepsOthers.setCell _ ⟨b + 1, 0, none⟩ v7)).trans (KeepsOthers.setCell _ ⟨b + 1 + 1, 0, none⟩ v8)⟩
  exact ((o7.more (T := [b, b + 1, b + 2]) (fun k hk => .inl (by simp at hk ⊢; exact .inl hk))).set (p := ⟨b + 1, 0, none⟩) (.inl (by simp)) v7).set (p := ⟨b + 1 + 1, 0, none⟩) (.inl (by simp)) v8
theorem shut_loop {W : World} {D : Nat} {x : Obj} {ds : Option (List Deferred)} (hK : W.heap[D]? = some (.deferred ds)) : Only [D] W (W.putObj D x) ∧ NoCells W D :=
  ⟨(Only.of_grown (grownBy_putObj' W D x)).more (fun k hk => .inl (by simpa using hk)), fun cs t fz e => by rw [hK] at e; cases e⟩
set_option maxRecDepth 100000 in
set_option maxHeartbeats 4000000 in
theorem parse_in (s : ByteArray) (w : World) (hs : s.size ≤ 262144) (hv : Vars w) : CallsIn Fence.wide 10 Tryz.prog 81 #[.string s] w fun e w' => ParseTells s w' e ∧ Only [] w w' := by
  have e1 : decide ((262144 : Int) < (s.size : Int)) = false := by simp; omega
  refine callsIn_of_wp_marks Tryz.func81 rfl trivial ?_ rfl
  simp only [Tryz.ntmps81, List.size_toArray, List.length_cons, List.length_nil, Nat.reduceAdd, Nat.reduceSub, Array.replicate_succ, Array.replicate_zero, List.push_toArray, List.append_toArray, List.nil_append, List.cons_append]
  gi_wp2_with fail
  refine ⟨trivial, ?_⟩
  refine (tokens_any s _).mono ?_
  rintro e w' ⟨rfl, rfl⟩
  gi_wp2_with fail
  obtain ⟨W0, hW0⟩ : ∃ W0, ((((w.alloc (.cells Z7 27)).alloc (.cells #[.int .i64 0] 31)).alloc (.cells #[.int .i64 0] 3)).alloc (.cells R9 123)).alloc (.cells #[.string s] 9) = W0 := ⟨_, rfl⟩
  have hs0 : W0.heap.size = w.heap.size + 5 := by rw [← hW0]; simp
  have b2 : Bk W0 w.heap.size 27 Z7 := by rw [← hW0]; exact ((((Bk.made _ _ _).alloc _).alloc _).alloc _).alloc _
  have b3 : Bk W0 (w.heap.size + 1) 31 #[.int .i64 0] := by rw [← hW0]; exact (((Bk.madeAt (by simp)).alloc _).alloc _).alloc _
  have b4 : Bk W0 (w.heap.size + 2) 3 #[.int .i64 0] := by rw [← hW0]; exact ((Bk.madeAt (by simp)).alloc _).alloc _
  have b5 : Bk W0 (w.heap.size + 3) 123 R9 := by rw [← hW0]; exact (Bk.madeAt (by simp)).alloc _
  have b6 : Bk W0 (w.heap.size + 4) 9 #[.string s] := by rw [← hW0]; exact Bk.madeAt (by simp)
  have o0 : Only [] w W0 := by rw [← hW0]; exact (((((Only.refl [] w).alloc _).alloc _).alloc _).alloc _).alloc _
  have h0 : PI s w [] W0 := ⟨⟨.go [] 0, rfl, by omega, fun _ => False, .slice none 0 0, [], _, _, _, _, _, _, _, rfl, b5, ⟨by omega, fun b h => h.elim, ⟨rfl, .inl ⟨rfl, rfl⟩⟩, by simp, by simp, fun _ _ _ _ h => h.elim⟩⟩, b2, b3, b4, b6, o0⟩
  rw [hW0]
  clear hW0
  refine wpIn_rangeFunc_ownF rfl (by omega) (gf := 95) (lb := #[.pointer (some ⟨w.heap.size + 1 + 1 + 1 + 1, 0, none⟩)]) rfl trivial (enters_of Tryz.func95 (by kernel_rfl) rfl)
    (tokens_stops s hs 9 (w.heap.size + 1 + 1 + 1 + 1) (by omega) W0 (b6.cell0 rfl)) kpT_t (kpT_b (by omega)) (Below.refl _ _) (fun _ => rfl) (PI s w) (PX s w) (PI.own s w hs0) ?ixown h0
    (fun x => { tmps := #[.string s, undef, .pointer (some ⟨w.heap.size, 0, none⟩), .pointer (some ⟨w.heap.size + 1, 0, none⟩), .pointer (some ⟨w.heap.size + 1 + 1, 0, none⟩), .pointer (some ⟨w.heap.size + 1 + 1 + 1, 0, none⟩), .int .i64 (x.1 : Int), .string (s.extract x.1 (fin s x.1)), undef, undef, .string s, .int .i64 s.size, .bool false, undef, .string s, .func (.func 95) #[] #[.pointer (some ⟨w.heap.size + 1 + 1 + 1 + 1, 0, none⟩)], .int .i64 (x.1 : Int), .string (s.extract x.1 (fin s x.1)), undef, undef, undef, undef, undef, undef, undef, undef, undef, undef, undef, undef, undef, undef, undef, undef, undef], defers := [] }) ?assign ?body ?done ?stop
  case ixown => exact PX.own s w hs0 (fun W c pre h => by have := h.sz; omega)
  case assign =>
    intro l x W K hK
    gi_wp2_with fail
    exact hK
  case body =>
    intro l pre x W h hlen
    obtain ⟨σ, hst, hh⟩ := h.st
    have hinv := MInv.steps hs (pre.map (·.1)) 0 _ _ MInv.init hst
    rw [List.length_map, Nat.zero_add] at hinv
    have T := Lib.hid (take_any s x.1 hs x.2 W (w.heap.size + 5) (w.heap.size + 3) σ hh (hv.same h.on) (by omega) (hinv.small (by omega)))
    clear hinv hh
    have HH := Lib.hid h
    have HS := Lib.hid hst
    clear h hst
    gi_wp2_with fail
    refine ⟨trivial, ?_⟩
    refine (CallsIn.inRound l (callsIn_wide.2 T.out)).mono ?_
    rintro e W' ⟨b, rfl, hl, ht, hf⟩
    have HL := Lib.hid hl
    cases b with
    | true =>
      obtain ⟨σ', hm, hh'⟩ := ht rfl
      have HM := Lib.hid hm
      have HN := Lib.hid hh'
      clear hl ht hf hm hh'
      gi_wp2_with fail
      exact ⟨HL.out.others, HL.out.kp HH.out.sb (by omega) (by omega), HH.out.step HS.out HM.out HN.out HL.out⟩
    | false =>
      have HM := Lib.hid (hf rfl)
      have B2 := Lib.hid (hl.bk HH.out.r2 (by omega) (by omega))
      have B3 := Lib.hid (hl.bk HH.out.r3 (by omega) (by omega))
      have B4 := Lib.hid (hl.bk HH.out.r4 (by omega) (by omega))
      have rs := store_com
      obtain ⟨z0, z1, z2, z3, z4, z5, z6⟩ := B2.out.seven
      have zf := B2.out.free
      have y0 : W'.cell? ⟨w.heap.size + 1, 0, none⟩ = some (.int .i64 0) := B3.out.cell0 rfl
      have yf := B3.out.free
      have x0 : W'.cell? ⟨w.heap.size + 1 + 1, 0, none⟩ = some (.int .i64 0) := B4.out.cell0 rfl
      have xf : ∀ i, W'.frozen? ⟨w.heap.size + 1 + 1, i, none⟩ = false := B4.out.free
      clear hl ht hf
      gi_wp2_with fail
      obtain ⟨r2, r3, r4, o3, k3⟩ := out3 B2.out B3.out B4.out (Eq.refl _)
      obtain ⟨S, oL, hSL, _⟩ := HL.out
      refine ⟨HL.out.others.trans k3, rfl, ⟨pre, x, σ, rfl, HS.out, HM.out, r4⟩, r2, r3, ?_, by have := HH.out.sb.lt; have := oL.size; have := o3.size; omega⟩
      refine (HH.out.on.trans oL fun i hi => .inr ?_).trans o3 fun i hi => .inr ?_
      · rcases hSL i hi with h | h <;> omega
      · simp at hi; omega
  case done =>
    rintro D xs W hD hS h hK
    obtain ⟨σ, hst, hh⟩ := h.st
    have hinv := MInv.steps hs (xs.map (·.1)) 0 _ _ MInv.init hst
    obtain ⟨hw, hg⟩ := read_end s (xs.map (·.1)) (.go [] 0) 0 σ (by omega) hS.symm hst
    have rs := store_com
    obtain ⟨z0, z1, z2, z3, z4, z5, z6⟩ := h.r2.seven
    have zf := h.r2.free
    have y0 : W.cell? ⟨w.heap.size + 1, 0, none⟩ = some (.int .i64 0) := h.r3.cell0 rfl
    have yf := h.r3.free
    have x0 : W.cell? ⟨w.heap.size + 1 + 1, 0, none⟩ = some (.int .i64 0) := h.r4.cell0 rfl
    have xf : ∀ i, W.frozen? ⟨w.heap.size + 1 + 1, i, none⟩ = false := h.r4.free
    have HH := Lib.hid h
    have HS := Lib.hid hst
    have HI := Lib.hid hinv
    cases σ with
    | go stk md =>
      obtain ⟨hm, F, bv, ps, u0, u1, u2, u3, u4, u5, u6, _, hb, hr⟩ := hh
      have s0 : W.cell? ⟨w.heap.size + 1 + 1 + 1, 0, none⟩ = some (.int .i64 md) := hb.cell0 rfl
      have e3 : ((md : Int) == 3) = false := by simp; omega
      have HP := Lib.hid (hg stk md rfl).1
      clear hg hw hb hr h hst hinv
      gi_wp2_with fail
      obtain ⟨r2, r3, r4, o3, k3⟩ := out3 (v0 := .int .i64 0) (v1 := .int .i64 0) (v2 := .complex .f64 0 0) (v3 := .string ⟨#[]⟩) (v4 := .int .i64 0) (v5 := .int .i64 0) (v6 := .slice none 0 0) (v7 := .int .i64 40) (v8 := .int .i64 s.size) HH.out.r2 HH.out.r3 HH.out.r4 (Eq.refl _)
      have on3 := HH.out.on.trans o3 (fun i hi => .inr (by simp at hi; omega))
      have hK3 := k3.same D _ hK rfl
      refine ⟨by simp, .inl ⟨_, _, rfl, run_takeDeferred hK3, ?_⟩⟩
      clear z0 z1 z2 z3 z4 z5 z6 zf y0 yf x0 xf s0 e3 k3 o3
      generalize ((((((((W.setCell ⟨w.heap.size, 0, none⟩ (.int .i64 0)).setCell ⟨w.heap.size, 1, none⟩ (.int .i64 0)).setCell ⟨w.heap.size, 2, none⟩ (.complex .f64 0 0)).setCell ⟨w.heap.size, 3, none⟩ (.string ⟨#[]⟩)).setCell ⟨w.heap.size, 4, none⟩ (.int .i64 0)).setCell ⟨w.heap.size, 5, none⟩ (.int .i64 0)).setCell ⟨w.heap.size, 6, none⟩ (.slice none 0 0)).setCell ⟨w.heap.size + 1, 0, none⟩ (.int .i64 40)).setCell ⟨w.heap.size + 1 + 1, 0, none⟩ (.int .i64 s.size) = W3 at *
      obtain ⟨o, hn⟩ := shut_loop (D := D) (x := .deferred none) hK3
      have on2 : Only [] w (W3.putObj D (.deferred none)) := on3.trans o (fun i hi => .inr (by rw [List.mem_singleton.1 hi]; omega))
      obtain ⟨z0, z1, z2, z3, z4, z5, z6⟩ := (r2.only o (hn.ne r2)).seven
      have y0 : (W3.putObj D (.deferred none)).cell? ⟨w.heap.size + 1, 0, none⟩ = some (.int .i64 40) := (r3.only o (hn.ne r3)).cell0 rfl
      have x0 : (W3.putObj D (.deferred none)).cell? ⟨w.heap.size + 1 + 1, 0, none⟩ = some (.int .i64 s.size) := (r4.only o (hn.ne r4)).cell0 rfl
      refine ⟨.tuple #[.agg Z7, .int .i64 40, .int .i64 s.size], ?_, ?_, on2⟩
      · simp [results, Tryz.results81, go_sem, z0, z1, z2, z3, z4, z5, z6, y0, x0]
      · unfold ParseTells
        rw [HP.out]
    | whole t =>
      have HP := Lib.hid (hw t rfl)
      have A := Lib.hid (answer_any W _ _ t hh HI.out)
      have s0 : W.cell? ⟨w.heap.size + 1 + 1 + 1, 0, none⟩ = some (.int .i64 3) := by obtain ⟨F, A, n, cap, sl, hb, _⟩ := hh; exact hb.cell0 rfl
      clear hg hw hh h hst hinv z0 z1 z2 z3 z4 z5 z6 zf y0 yf x0 xf
      gi_wp2_with fail
      refine ⟨trivial, ?_⟩
      refine (callsIn_wide.2 A.out).mono ?_
      rintro e W2 ⟨sl, F, hF, ht, rfl, o2⟩
      obtain ⟨B, m, c, rfl⟩ := ht.slice
      have HT := Lib.hid ht
      have HF := Lib.hid hF
      have B2 := Lib.hid (HH.out.r2.only o2 (by simp))
      have B3 := Lib.hid (HH.out.r3.only o2 (by simp))
      have B4 := Lib.hid (HH.out.r4.only o2 (by simp))
      have ON := Lib.hid (HH.out.on.trans o2 (by simp))
      have KD := Lib.hid ((o2.block D (Array.getElem?_eq_some_iff.1 hK).1 (by simp)).trans hK)
      obtain ⟨z0, z1, z2, z3, z4, z5, z6⟩ := B2.out.seven
      have zf := B2.out.free
      have y0 : W2.cell? ⟨w.heap.size + 1, 0, none⟩ = some (.int .i64 0) := B3.out.cell0 rfl
      have yf := B3.out.free
      have x0 : W2.cell? ⟨w.heap.size + 1 + 1, 0, none⟩ = some (.int .i64 0) := B4.out.cell0 rfl
      have xf : ∀ i, W2.frozen? ⟨w.heap.size + 1 + 1, i, none⟩ = false := B4.out.free
      have l2 := B2.out.lt
      have l3 := B3.out.lt
      have l4 := B4.out.lt
      clear hF ht o2 s0 hK
      by_cases h0 : chk t = 0
      · simp only [h0, if_true]
        gi_wp2_with fail
        obtain ⟨r2, r3, r4, o3, k3⟩ := out3 (v0 := (.int .i64 t.k)) (v1 := (.int .i64 t.n)) (v2 := (.complex .f64 t.x t.y)) (v3 := (.string t.S)) (v4 := (.int .i64 t.a)) (v5 := (.int .i64 t.b)) (v6 := (.slice B m c)) (v7 := (.int .i64 0)) (v8 := .int .i64 0) B2.out B3.out B4.out (Eq.refl _)
        have on3 := ON.out.trans o3 (fun i hi => .inr (by simp at hi; omega))
        have hT3 := TV.only o3 (fun b hb hf => by have := (HF.out b hf).1; simp at hb; omega) (fun _ h => h) t _ HT.out
        have hF3 : ∀ b, F b → b < W2.heap.size := fun b hb => (HF.out b hb).2
        have hK3 := k3.same D _ KD.out rfl
        have hS3 := o3.size
        clear z0 z1 z2 z3 z4 z5 z6 zf y0 yf x0 xf k3 o3
        generalize ((((((((W2.setCell ⟨w.heap.size, 0, none⟩ (.int .i64 t.k)).setCell ⟨w.heap.size, 1, none⟩ (.int .i64 t.n)).setCell ⟨w.heap.size, 2, none⟩ (.complex .f64 t.x t.y)).setCell ⟨w.heap.size, 3, none⟩ (.string t.S)).setCell ⟨w.heap.size, 4, none⟩ (.int .i64 t.a)).setCell ⟨w.heap.size, 5, none⟩ (.int .i64 t.b)).setCell ⟨w.heap.size, 6, none⟩ (.slice B m c)).setCell ⟨w.heap.size + 1, 0, none⟩ (.int .i64 0)).setCell ⟨w.heap.size + 1 + 1, 0, none⟩ (.int .i64 0) = W9 at *
        have q2 := r2.alloc (.cells #[.int .i64 t.k, .int .i64 t.n, .complex .f64 t.x t.y, .string t.S, .int .i64 t.a, .int .i64 t.b, .slice B m c] 27)
        have q3 := r3.alloc (.cells #[.int .i64 t.k, .int .i64 t.n, .complex .f64 t.x t.y, .string t.S, .int .i64 t.a, .int .i64 t.b, .slice B m c] 27)
        have q4 := r4.alloc (.cells #[.int .i64 t.k, .int .i64 t.n, .complex .f64 t.x t.y, .string t.S, .int .i64 t.a, .int .i64 t.b, .slice B m c] 27)
        have o4 : Only [] W9 (W9.alloc (.cells #[.int .i64 t.k, .int .i64 t.n, .complex .f64 t.x t.y, .string t.S, .int .i64 t.a, .int .i64 t.b, .slice B m c] 27)) := (Only.refl [] W9).alloc _
        have on4 := on3.trans o4 (by simp)
        have hT4 := hT3.same o4
        have hK4 := (o4.block D (Array.getElem?_eq_some_iff.1 hK3).1 (by simp)).trans hK3
        have hS4 := o4.size
        clear r2 r3 r4 on3 hT3 hK3 o4
        generalize W9.alloc (.cells #[.int .i64 t.k, .int .i64 t.n, .complex .f64 t.x t.y, .string t.S, .int .i64 t.a, .int .i64 t.b, .slice B m c] 27) = W3 at *
        refine ⟨by simp, .inl ⟨_, _, rfl, run_takeDeferred hK4, ?_⟩⟩
        obtain ⟨o, hn⟩ := shut_loop (D := D) (x := .deferred none) hK4
        have on2 : Only [] w (W3.putObj D (.deferred none)) := on4.trans o (fun i hi => .inr (by rw [List.mem_singleton.1 hi]; omega))
        obtain ⟨z0, z1, z2, z3, z4, z5, z6⟩ := (q2.only o (hn.ne q2)).seven
        have y0 : (W3.putObj D (.deferred none)).cell? ⟨w.heap.size + 1, 0, none⟩ = some ((.int .i64 0)) := (q3.only o (hn.ne q3)).cell0 rfl
        have x0 : (W3.putObj D (.deferred none)).cell? ⟨w.heap.size + 1 + 1, 0, none⟩ = some (.int .i64 0) := (q4.only o (hn.ne q4)).cell0 rfl
        refine ⟨.tuple #[.agg #[.int .i64 t.k, .int .i64 t.n, .complex .f64 t.x t.y, .string t.S, .int .i64 t.a, .int .i64 t.b, .slice B m c], (.int .i64 0), .int .i64 0], ?_, ?_, on2⟩
        · simp [results, Tryz.results81, go_sem, z0, z1, z2, z3, z4, z5, z6, y0, x0]
        · unfold ParseTells
          rw [HP.out]
          refine ⟨_, ⟨_, F, fun b hb => by have := hF3 b hb; have := o.size; omega, TV.other o hn t _ hT4, rfl⟩, ?_⟩
          rw [h0, if_pos rfl]
      · simp only [if_neg h0]
        gi_wp2_with fail
        obtain ⟨r2, r3, r4, o3, k3⟩ := out3 (v0 := (.int .i64 0)) (v1 := (.int .i64 0)) (v2 := (.complex .f64 0 0)) (v3 := (.string ⟨#[]⟩)) (v4 := (.int .i64 0)) (v5 := (.int .i64 0)) (v6 := (.slice none 0 0)) (v7 := (.int .i64 (chk t))) (v8 := .int .i64 0) B2.out B3.out B4.out (Eq.refl _)
        have on3 := ON.out.trans o3 (fun i hi => .inr (by simp at hi; omega))
        have hT3 := TV.only o3 (fun b hb hf => by have := (HF.out b hf).1; simp at hb; omega) (fun _ h => h) t _ HT.out
        have hF3 : ∀ b, F b → b < W2.heap.size := fun b hb => (HF.out b hb).2
        have hK3 := k3.same D _ KD.out rfl
        have hS3 := o3.size
        clear z0 z1 z2 z3 z4 z5 z6 zf y0 yf x0 xf k3 o3
        generalize ((((((((W2.setCell ⟨w.heap.size, 0, none⟩ (.int .i64 0)).setCell ⟨w.heap.size, 1, none⟩ (.int .i64 0)).setCell ⟨w.heap.size, 2, none⟩ (.complex .f64 0 0)).setCell ⟨w.heap.size, 3, none⟩ (.string ⟨#[]⟩)).setCell ⟨w.heap.size, 4, none⟩ (.int .i64 0)).setCell ⟨w.heap.size, 5, none⟩ (.int .i64 0)).setCell ⟨w.heap.size, 6, none⟩ (.slice none 0 0)).setCell ⟨w.heap.size + 1, 0, none⟩ (.int .i64 (chk t))).setCell ⟨w.heap.size + 1 + 1, 0, none⟩ (.int .i64 0) = W9 at *
        have q2 := r2.alloc (.cells Z7 27)
        have q3 := r3.alloc (.cells Z7 27)
        have q4 := r4.alloc (.cells Z7 27)
        have o4 : Only [] W9 (W9.alloc (.cells Z7 27)) := (Only.refl [] W9).alloc _
        have on4 := on3.trans o4 (by simp)
        have hT4 := hT3.same o4
        have hK4 := (o4.block D (Array.getElem?_eq_some_iff.1 hK3).1 (by simp)).trans hK3
        have hS4 := o4.size
        clear r2 r3 r4 on3 hT3 hK3 o4
        generalize W9.alloc (.cells Z7 27) = W3 at *
        refine ⟨by simp, .inl ⟨_, _, rfl, run_takeDeferred hK4, ?_⟩⟩
        obtain ⟨o, hn⟩ := shut_loop (D := D) (x := .deferred none) hK4
        have on2 : Only [] w (W3.putObj D (.deferred none)) := on4.trans o (fun i hi => .inr (by rw [List.mem_singleton.1 hi]; omega))
        obtain ⟨z0, z1, z2, z3, z4, z5, z6⟩ := (q2.only o (hn.ne q2)).seven
        have y0 : (W3.putObj D (.deferred none)).cell? ⟨w.heap.size + 1, 0, none⟩ = some ((.int .i64 (chk t))) := (q3.only o (hn.ne q3)).cell0 rfl
        have x0 : (W3.putObj D (.deferred none)).cell? ⟨w.heap.size + 1 + 1, 0, none⟩ = some (.int .i64 0) := (q4.only o (hn.ne q4)).cell0 rfl
        refine ⟨.tuple #[.agg Z7, (.int .i64 (chk t)), .int .i64 0], ?_, ?_, on2⟩
        · simp [results, Tryz.results81, go_sem, z0, z1, z2, z3, z4, z5, z6, y0, x0]
        · unfold ParseTells
          rw [HP.out]
          refine ⟨_, ⟨_, F, fun b hb => by have := hF3 b hb; have := o.size; omega, TV.other o hn t _ hT4, rfl⟩, ?_⟩
          rw [if_neg h0]
  case stop =>
    rintro D c pre W hD ⟨rest, hpart⟩ h hK
    obtain ⟨rfl, ⟨pre, x, σ, rfl, hst, hm, r4⟩, r2, r3, on, sz⟩ := h
    have hp := (read_no s (pre.map (·.1)) (.go [] 0) 0 x.1 rest σ (by omega) (by rw [hpart]; simp) hst hm).1
    gi_wp2
    refine ⟨by simp, .inl ⟨_, _, rfl, run_takeDeferred hK, ?_⟩⟩
    obtain ⟨o, hn⟩ := shut_loop (D := D) hK
    have on2 : Only [] w (W.putObj D (.deferred none)) := on.trans o (fun i hi => .inr (by rw [List.mem_singleton.1 hi]; omega))
    obtain ⟨z0, z1, z2, z3, z4, z5, z6⟩ := (r2.only o (hn.ne r2)).seven
    have y0 : (W.putObj D (.deferred none)).cell? ⟨w.heap.size + 1, 0, none⟩ = some (.int .i64 40) := (r3.only o (hn.ne r3)).cell0 rfl
    have x0 : (W.putObj D (.deferred none)).cell? ⟨w.heap.size + 1 + 1, 0, none⟩ = some (.int .i64 x.1) := (r4.only o (hn.ne r4)).cell0 rfl
    refine ⟨.tuple #[.agg Z7, .int .i64 40, .int .i64 x.1], ?_, ?_, on2⟩
    · simp [results, Tryz.results81, go_sem, z0, z1, z2, z3, z4, z5, z6, y0, x0]
    · unfold ParseTells
      rw [hp]
end Go.Proofs.YtlilfmpikampgaaGreatDoor

namespace Go.Proofs.YtlilfmpikampgaaGreatDoor
open Go.RowKit

set_option maxHeartbeats 1000000 in
theorem parse_long (s : ByteArray) (w : World) (hs : 262144 < s.size) : Calls Tryz.prog 81 #[.string s] w fun e w' => e = .returned (.tuple #[.agg Z7, .int .i64 4, .int .i64 0]) ∧ Only [] w w' := by
  have e1 : decide ((262144 : Int) < (s.size : Int)) = true := by simp; omega
  have rs := store_com
  go_enter Tryz.func81, Tryz.ntmps81
  go_wp2_with fail
  refine bodyPost_ret (v := .tuple #[.agg Z7, .int .i64 4, .int .i64 0]) (by simp [results, Tryz.results81, go_sem]) rfl ⟨rfl, ?_⟩
  exact (((Only.refl [] w).alloc _).alloc _).alloc _
theorem parse_any (s : ByteArray) (w : World) (hs : s.size ≤ 262144) (hv : Vars w) : Calls Tryz.prog 81 #[.string s] w fun e w' => ParseTells s w' e ∧ Only [] w w' := callsIn_wide.1 (parse_in s w hs hv)
end Go.Proofs.YtlilfmpikampgaaGreatDoor
