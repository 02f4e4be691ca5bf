/- pattern.reader: what its block holds, as a state of the machine; put, whatever is begun. pattern.reader: end, where it goes on. pattern.reader: begin, end, comma and bar as steps of the machine. pattern.reader: single; a token of a text and of what is left of the text. pattern.reader: take, by the byte that its text begins with. pattern.reader: take, by a token of the text, is a step of the machine. pattern.reader: skip as a step; what every state keeps: how big it is, which trees it holds; the library's variables behind what the reader turns. -/
import Derived.Test.YtlilfmpikampgaaGreatDoorPKa
import Derived.Test.YtlilfmpikampgaaGreatDoorPKb
namespace Go.Proofs.YtlilfmpikampgaaGreatDoor
open Go.RowKit

/-- The reader's block holds a state of the machine, at a place of its text. -/
def QHolds (w : World) (base rb : Nat) (s : ByteArray) (a : Int) : QS → Prop
  | .go stk md => md ≤ 3 ∧ ∃ (F : Nat → Prop) (bv : Value) (ps : List (QOpn × Value × Value)) (u : Fin 11 → Value), stk = ps.map (·.1) ∧ Bk w rb 40 (qcs s a md bv u) ∧ PRdr w base F bv ps
  | .whole t => ∃ (F : Nat → Prop) (A : Option Addr) (cap : Nat) (sl sr : Value), Bk w rb 40 (qcs s a 4 (.slice A 0 cap) (uOf t.k t.n t.t sl sr)) ∧ QV w F t sl sr ∧ (∀ b, F b → base ≤ b ∧ b < w.heap.size)
/-- The reader's place is another. -/
theorem QHolds.move {w : World} {base rb : Nat} {s : ByteArray} {a : Int} {σ : QS} (h : QHolds w base rb s a σ) (hrb : rb < base) (a' : Int) : QHolds (w.setCell ⟨rb, 1, none⟩ (.int .i64 a')) base rb s a' σ := by
  have o1 : Only [rb] w (w.setCell ⟨rb, 1, none⟩ (.int .i64 a')) := (Only.refl [rb] w).set (.inl (by simp)) _
  cases σ with
  | go stk md =>
    obtain ⟨hm, F, bv, ps, u, e, hb, hr⟩ := h
    exact ⟨hm, F, bv, ps, u, e, hb.set 1 _, hr.only o1 (by simpa using hrb)⟩
  | whole t =>
    obtain ⟨F, A, cap, sl, sr, hb, ht, hF⟩ := h
    refine ⟨F, A, cap, sl, sr, hb.set 1 _, QV.only o1 (fun b hb hf => ?_) (fun _ h => h) t _ _ ht, fun b hb => ⟨(hF b hb).1, Nat.lt_of_lt_of_le (hF b hb).2 o1.size⟩⟩
    have := (hF b hf).1
    have := List.mem_singleton.1 hb
    omega
theorem QHolds.same {w w' : World} {base rb : Nat} {s : ByteArray} {a : Int} {σ : QS} (h : QHolds w base rb s a σ) (o : Only [] w w') : QHolds w' base rb s a σ := by
  cases σ with
  | go stk md =>
    obtain ⟨hm, F, bv, ps, u, e, hb, hr⟩ := h
    exact ⟨hm, F, bv, ps, u, e, hb.only o (by simp), hr.only o (by simp)⟩
  | whole t =>
    obtain ⟨F, A, cap, sl, sr, hb, ht, hF⟩ := h
    exact ⟨F, A, cap, sl, sr, hb.only o (by simp), ht.same o, fun b hb => ⟨(hF b hb).1, Nat.lt_of_lt_of_le (hF b hb).2 o.size⟩⟩
theorem QHolds.four {w : World} {base rb : Nat} {s : ByteArray} {a : Int} {σ : QS} (h : QHolds w base rb s a σ) : ∃ st bv u, Bk w rb 40 (qcs s a st bv u) ∧ st = (match σ with | .go _ md => (md : Int) | .whole _ => 4) := by
  cases σ with
  | go stk md =>
    obtain ⟨hm, F, bv, ps, u, e, hb, hr⟩ := h
    exact ⟨_, _, _, hb, rfl⟩
  | whole t =>
    obtain ⟨F, A, cap, sl, sr, hb, ht, hF⟩ := h
    exact ⟨_, _, _, hb, rfl⟩
theorem qput_any (w : World) (base rb : Nat) (F : Nat → Prop) (s : ByteArray) (a st : Int) (bv sl sr : Value) (ps : List (QOpn × Value × Value)) (u : Fin 11 → Value) (t : QT)
    (hb : Bk w rb 40 (qcs s a st bv u)) (hr : PRdr w base F bv ps) (ht : QV w F t sl sr)
    (hl : ∀ p ∈ ps, p.1.items.length ≤ 262144) (hl2 : ps.length ≤ 262144) (hrb : rb < base) :
    Calls Tryz.prog 46 #[.pointer (some ⟨rb, 0, none⟩), .agg (pcs t.k t.n t.t sl sr)] w fun e w' => e = .returned (.tuple #[]) ∧ Low base rb w w' ∧ QHolds w' base rb s a (qput (ps.map (·.1)) t) := by
  obtain ⟨B, m, c, C, m', c', rfl, rfl⟩ := ht.slices
  cases ps with
  | nil =>
    obtain ⟨A, cap, rfl⟩ : ∃ A cap, bv = .slice A 0 cap := by
      rcases hr.row.2 with ⟨h, _⟩ | ⟨g, cap, cur, h, _⟩
      · exact ⟨none, 0, h⟩
      · exact ⟨_, _, h⟩
    refine (qput_whole w rb t.k t.n t.t B C m c m' c' s a st A cap u hb).mono ?_
    rintro e w' ⟨rfl, o1, b1⟩
    exact ⟨rfl, Low.of hb o1, F, _, _, _, _, b1, QV.only o1 (fun b hb hf => by
      have := (hr.fr b hf).1
      have := List.mem_singleton.1 hb
      omega) (fun _ h => h) t _ _ ht, fun b hb => ⟨(hr.fr b hb).1, Nat.lt_of_lt_of_le (hr.fr b hb).2 o1.size⟩⟩
  | cons p ps =>
    obtain ⟨o, sl, sr⟩ := p
    cases hbar : o.bar with
    | true =>
      refine (qput_rest w base rb F t.k t.n t.t t B C m c m' c' s a st bv sl sr o ps u hb hr (by simp at hl2; omega) hrb hbar ht rfl rfl rfl).mono ?_
      rintro e w' ⟨rfl, o1, b1, F', sr', hF, r1⟩
      have e1 : qput (((o, sl, sr) :: ps).map (·.1)) t = .go (⟨o.k, o.items, true, [t]⟩ :: ps.map (·.1)) 3 := by simp [qput, hbar]
      rw [e1]
      exact ⟨rfl, o1, by omega, F', _, _, _, rfl, b1, r1⟩
    | false =>
      refine (qput_lay w base rb F t B C m c m' c' s a st bv sl sr o ps u hb hr (hl (o, sl, sr) (by simp)) (by simp at hl2; omega) hrb hbar ht).mono ?_
      rintro e w' ⟨rfl, o1, b1, sl', r1⟩
      have e1 : qput (((o, sl, sr) :: ps).map (·.1)) t = .go (⟨o.k, o.items ++ [t], false, o.rest⟩ :: ps.map (·.1)) 2 := by simp [qput, hbar]
      rw [e1]
      exact ⟨rfl, o1, by omega, F, _, _, _, rfl, b1, r1⟩
end Go.Proofs.YtlilfmpikampgaaGreatDoor

namespace Go.Proofs.YtlilfmpikampgaaGreatDoor
open Go.RowKit

set_option maxRecDepth 20000 in
set_option maxHeartbeats 2000000 in
theorem qend_yes (w : World) (base rb : Nat) (F : Nat → Prop) (k : Int) (s : ByteArray) (a st : Int) (bv sl sr : Value) (o : QOpn) (ps : List (QOpn × Value × Value)) (u : Fin 11 → Value) (hb : Bk w rb 40 (qcs s a st bv u)) (hr : PRdr w base F bv ((o, sl, sr) :: ps))
    (h0 : st ≠ 0) (hk : o.k = k) (hl : ∀ p ∈ ps, p.1.items.length ≤ 262144) (hl2 : ps.length < 262144) (hrb : rb < base) :
    Calls Tryz.prog 32 #[.pointer (some ⟨rb, 0, none⟩), .int .i64 k] w fun e w' => e = .returned (.tuple #[]) ∧ Low base rb w w' ∧ QHolds w' base rb s a (qput (ps.map (·.1)) (.seq o.k o.items o.rest)) := by
  have II := Lib.hid (isIn_any w base rb F k s a st bv ((o, sl, sr) :: ps) u hb hr (by simp; omega))
  rw [show InK ((o, sl, sr) :: ps) k = true by simp [InK, hk]] at II
  subst hk
  obtain ⟨bg, cap, rfl⟩ : ∃ bg cap, bv = .slice (some ⟨bg, 0, none⟩) (ps.length + 1) cap := by
    rcases hr.row.2 with ⟨_, h⟩ | ⟨g, cap, cur, h, _⟩
    · simp at h
    · exact ⟨_, _, h⟩
  have rs := store_com
  obtain ⟨F', hF, hr2, ht2⟩ := hr.shut
  obtain ⟨B, m, c, C, m', c', rfl, rfl⟩ := ht2.slices
  obtain ⟨c0, c1, c2, c3⟩ := hb.fifteen
  have cf := hb.free
  have KK : ∀ j v, (ocell o.k (.slice B m c) (.slice C m' c') o.bar).toList[j]? = some v → w.cell? ⟨bg, ps.length * 12 + j, none⟩ = some v := fun j v hj => Row.cell hr.row (ps.length * 12 + j) _ (by
    show (bcs ps ++ (ocell o.k (.slice B m c) (.slice C m' c') o.bar).toList)[ps.length * 12 + j]? = _
    rw [List.getElem?_append_right (by rw [bcs_len]; omega), bcs_len, Nat.add_sub_cancel_left]
    exact hj)
  have K0 : w.cell? ⟨bg, ps.length * 12, none⟩ = some (.int .i64 o.k) := KK 0 _ rfl
  have K1 := KK 1 _ rfl
  have K2 := KK 2 _ rfl
  have K3 := KK 3 _ rfl
  have K4 := KK 4 _ rfl
  have K5 := KK 5 _ rfl
  have K6 := KK 6 _ rfl
  have K7 := KK 7 _ rfl
  have K8 := KK 8 _ rfl
  have K9 := KK 9 _ rfl
  have K10 := KK 10 _ rfl
  have q2 : ((ps.length : Int) < (ps.length : Int) + 1) := by omega
  have q3 : wrap64 (ps.length : Int) = (ps.length : Int) := wrap64_in (by omega) (by omega)
  have hlt := hb.lt
  have hlt2 := (Row.block hr.row (g := bg) rfl).2
  have hcap : ps.length ≤ cap := by
    rcases hr2.row.2 with ⟨h, _⟩ | ⟨g, cap', cur, h, _, _, h3, _⟩
    · cases h
    · injection h with _ _ h; omega
  have O2 : ∀ o1, Only [rb] w ((w.setCell ⟨rb, 3, none⟩ (.slice (some ⟨bg, 0, none⟩) ps.length cap)).alloc o1) := fun o1 => ((Only.refl [rb] w).set (p := ⟨rb, 3, none⟩) (.inl (by simp)) _).alloc o1
  have hS : ∀ b ∈ [rb], b < base := by simpa using hrb
  have C := Lib.hid (show ∀ o1, Calls Tryz.prog 46 #[.pointer (some ⟨rb, 0, none⟩), .agg #[.int .i64 o.k, .int .i64 0, .int .i64 0, .int .i64 0, .complex .f64 0 0, .string ⟨#[]⟩, .int .i64 0, .int .i64 0, .slice none 0 0, .slice B m c, .slice C m' c']] ((w.setCell ⟨rb, 3, none⟩ (.slice (some ⟨bg, 0, none⟩) ps.length cap)).alloc o1) fun e w' => e = .returned (.tuple #[]) ∧ Low base rb w w' ∧ QHolds w' base rb s a (qput (ps.map (·.1)) (.seq o.k o.items o.rest)) from fun o1 =>
    (qput_any _ base rb F' s a st _ (.slice B m c) (.slice C m' c') ps u (.seq o.k o.items o.rest) ((hb.set 3 (.slice (some ⟨bg, 0, none⟩) ps.length cap)).alloc o1) (hr2.only (O2 o1) hS) (QV.only (O2 o1) (fun b hb hf => by have := hS b hb; have := (hr2.fr b hf).1; omega) (fun _ h => h) _ _ _ ht2) hl (by omega) hrb).mono
      fun _ _ ⟨h1, h2, h3⟩ => ⟨h1, (Low.of hb (O2 o1)).trans h2, h3⟩)
  have e0 : (st != 0) = true := by simpa using h0
  clear hb hr hr2 ht2 O2 KK hS h0
  go_enter Tryz.func32, Tryz.ntmps32
  go_wp2_with fail
  (with_reducible refine (II.out).mono ?_)
  rintro e w1 ⟨rfl, rfl⟩
  go_wp2_with fail
  (with_reducible refine (need_yes rb w).mono ?_)
  rintro e w1 ⟨rfl, rfl⟩
  go_wp2_with fail
  (with_reducible refine (C.out _).mono ?_)
  rintro e w' ⟨rfl, o1, b1⟩
  go_wp2_with fail
  go_end0
  exact ⟨rfl, o1, b1⟩
end Go.Proofs.YtlilfmpikampgaaGreatDoor

namespace Go.Proofs.YtlilfmpikampgaaGreatDoor
open Go.RowKit

/-- It answers, or gives up at a place. -/
def EitherQ (v : Value) (a : Int) (R1 R2 : World → Prop) (e : Ending) (w' : World) : Prop := (e = .returned v ∧ R1 w') ∨ (GaveUp a e ∧ R2 w')
/-- How big a state of the machine may be. -/
def QSmall : QS → Prop
  | .go stk _ => stk.length ≤ 262144 ∧ ∀ o ∈ stk, o.items.length ≤ 262144
  | .whole _ => True
/-- What a step leaves. -/
def QAfter (w : World) (base rb : Nat) (s : ByteArray) (a : Int) (m : Option QS) (w' : World) : Prop := ∃ σ', m = some σ' ∧ Low base rb w w' ∧ QHolds w' base rb s a σ'
def QNone (w : World) (base rb : Nat) (m : Option QS) (w' : World) : Prop := m = none ∧ Low base rb w w'
theorem q_open_step {b : UInt8} (h : b.toNat = 123 ∨ b.toNat = 91) (stk : List QOpn) (md : Nat) : qstep (.go stk md) (.sign b) = if md ≤ 1 then some (.go (⟨kP b, [], false, []⟩ :: stk) 1) else none := by
  simp only [qstep]
  rw [if_pos h]
theorem q_comma_step {b : UInt8} (h : b.toNat = 44) (stk : List QOpn) (md : Nat) : qstep (.go stk md) (.sign b) = if md = 2 then some (.go stk 0) else none := by
  simp only [qstep]
  rw [if_neg (by omega), if_pos h]
theorem q_end_step {b : UInt8} (h : b.toNat = 125 ∨ b.toNat = 93) (stk : List QOpn) (md : Nat) : qstep (.go stk md) (.sign b) = match stk with | [] => none | o :: r => if md ≠ 0 ∧ o.k = kP b then some (qput r (.seq o.k o.items o.rest)) else none := by
  simp only [qstep]
  rw [if_neg (by omega), if_neg (by omega)]
  cases stk with
  | nil => rfl
  | cons o r =>
    simp only
    rw [if_neg (by omega)]
theorem q_bar_step {b : UInt8} (h : b.toNat = 124) (stk : List QOpn) (md : Nat) : qstep (.go stk md) (.sign b) = match stk with | [] => none | o :: r => if (md = 1 ∨ md = 2) ∧ o.k = 6 then some (.go (⟨o.k, o.items, true, o.rest⟩ :: r) 0) else none := by
  simp only [qstep]
  rw [if_neg (by omega), if_neg (by omega)]
  cases stk with
  | nil => rfl
  | cons o r =>
    simp only
    rw [if_pos h]
theorem q_whole_step (t : QT) (x : Qk) : qstep (.whole t) x = none := by cases x <;> rfl
section
variable {w : World} {base rb : Nat} {s : ByteArray} {σ : QS} {a : Int} (hh : QHolds w base rb s a σ) (hrb : rb < base) (hsm : QSmall σ)
include hh hrb hsm
theorem qbegin_step (b : UInt8) (k : Int) (hb : b.toNat = 123 ∨ b.toNat = 91) (hk : kP b = k) :
    Calls Tryz.prog 31 #[.pointer (some ⟨rb, 0, none⟩), .int .i64 k] w fun e w' => EitherQ (.tuple #[]) a (QAfter w base rb s a (qstep σ (.sign b))) (QNone w base rb (qstep σ (.sign b))) e w' := by
  cases σ with
  | whole t =>
    obtain ⟨F, A, cap, sl, sr, hB, ht, hF⟩ := hh
    refine (qbegin_no w rb k s a 4 _ _ hB (by omega)).mono fun e w' ⟨h1, h2⟩ => .inr ⟨h1, rfl, ?_⟩
    rw [← h2]; exact Low.of0 (Only.refl _ _)
  | go stk md =>
    obtain ⟨hm, F, bv, ps, u, rfl, hB, hr⟩ := hh
    rw [q_open_step hb]
    by_cases h : md ≤ 1
    · rw [if_pos h, hk]
      refine (qbegin_yes w base rb F k s a md bv ps u hB (by omega) hr (by simpa using hsm.1) hrb).mono fun e w' ⟨h1, h2, bv', h3, h4⟩ => .inl ⟨h1, _, rfl, h2, by omega, F, bv', _, u, rfl, h3, h4⟩
    · rw [if_neg h]
      refine (qbegin_no w rb k s a md bv u hB (by omega)).mono fun e w' ⟨h1, h2⟩ => .inr ⟨h1, rfl, ?_⟩
      rw [← h2]; exact Low.of0 (Only.refl _ _)
theorem qcomma_step (b : UInt8) (hb : b.toNat = 44) :
    Calls Tryz.prog 33 #[.pointer (some ⟨rb, 0, none⟩)] w fun e w' => EitherQ (.tuple #[]) a (QAfter w base rb s a (qstep σ (.sign b))) (QNone w base rb (qstep σ (.sign b))) e w' := by
  cases σ with
  | whole t =>
    obtain ⟨F, A, cap, sl, sr, hB, ht, hF⟩ := hh
    refine (qcomma_any w rb s a 4 _ _ hB).mono fun e w' ⟨_, h⟩ => .inr ⟨(h (by omega)).1, rfl, ?_⟩
    rw [← (h (by omega)).2]; exact Low.of0 (Only.refl _ _)
  | go stk md =>
    obtain ⟨hm, F, bv, ps, u, rfl, hB, hr⟩ := hh
    rw [q_comma_step hb]
    by_cases h : md = 2
    · subst h
      rw [if_pos rfl]
      refine (qcomma_any w rb s a 2 bv u hB).mono fun e w' ⟨h1, _⟩ => ?_
      obtain ⟨h1, h2, h3⟩ := h1 rfl
      exact .inl ⟨h1, _, rfl, Low.of hB h2, by omega, F, bv, ps, u, rfl, h3, hr.only h2 (by simpa using hrb)⟩
    · rw [if_neg h]
      refine (qcomma_any w rb s a md bv u hB).mono fun e w' ⟨_, h1⟩ => ?_
      obtain ⟨h1, h2⟩ := h1 (by omega)
      exact .inr ⟨h1, rfl, by rw [← h2]; exact Low.of0 (Only.refl _ _)⟩
end
set_option maxHeartbeats 1000000 in
/-- end, where none of the kind is begun. -/
theorem qend_out (w : World) (rb : Nat) (k : Int) (s : ByteArray) (a st : Int) (bv : Value) (u : Fin 11 → Value) (hb : Bk w rb 40 (qcs s a st bv u)) (h0 : st ≠ 0)
    (II : Calls Tryz.prog 45 #[.pointer (some ⟨rb, 0, none⟩), .int .i64 k] w fun e w' => e = .returned (.bool false) ∧ w = w') :
    Calls Tryz.prog 32 #[.pointer (some ⟨rb, 0, none⟩), .int .i64 k] w fun e w' => GaveUp a e ∧ w = w' := by
  obtain ⟨c0, c1, c2, c3⟩ := hb.fifteen
  have II := Lib.hid II
  have e0 : (st != 0) = true := by simpa using h0
  clear hb h0
  go_enter Tryz.func32, Tryz.ntmps32
  go_wp2_with fail
  (with_reducible refine (II.out).mono ?_)
  rintro e w1 ⟨rfl, rfl⟩
  go_wp2_with fail
  (with_reducible refine (need_no rb a w c1).mono ?_)
  rintro e w1 ⟨hg, rfl⟩
  unfold GaveUp at hg
  subst hg
  go_wp2_with fail
  exact ⟨rfl, rfl, rfl⟩
set_option maxHeartbeats 1000000 in
/-- bar, where it can not stand. -/
theorem qbar_out (w : World) (rb : Nat) (s : ByteArray) (a st : Int) (bv : Value) (u : Fin 11 → Value) (hb : Bk w rb 40 (qcs s a st bv u)) (h1 : st ≠ 1) (h2 : st ≠ 2) :
    Calls Tryz.prog 34 #[.pointer (some ⟨rb, 0, none⟩)] w fun e w' => GaveUp a e ∧ w = w' := by
  obtain ⟨c0, c1, c2, c3⟩ := hb.fifteen
  have e1 : (st == 1) = false := by simpa using h1
  have e2 : (st == 2) = false := by simpa using h2
  clear hb h1 h2
  go_enter Tryz.func34, Tryz.ntmps34
  go_wp2_with fail
  (with_reducible refine (need_no rb a w c1).mono ?_)
  rintro e w1 ⟨hg, rfl⟩
  unfold GaveUp at hg
  subst hg
  go_wp2_with fail
  exact ⟨rfl, rfl, rfl⟩
section
variable {w : World} {base rb : Nat} {s : ByteArray} {σ : QS} {a : Int} (hh : QHolds w base rb s a σ) (hrb : rb < base) (hsm : QSmall σ)
include hh hrb hsm
theorem qend_step (b : UInt8) (k : Int) (hb : b.toNat = 125 ∨ b.toNat = 93) (hk : kP b = k) :
    Calls Tryz.prog 32 #[.pointer (some ⟨rb, 0, none⟩), .int .i64 k] w fun e w' => EitherQ (.tuple #[]) a (QAfter w base rb s a (qstep σ (.sign b))) (QNone w base rb (qstep σ (.sign b))) e w' := by
  cases σ with
  | whole t =>
    obtain ⟨F, A, cap, sl, sr, hB, ht, hF⟩ := hh
    refine (qend_out w rb k s a 4 _ _ hB (by omega) (isIn_no w rb k s a 4 A cap _ hB)).mono fun e w' ⟨h1, h2⟩ => .inr ⟨h1, rfl, ?_⟩
    rw [← h2]; exact Low.of0 (Only.refl _ _)
  | go stk md =>
    obtain ⟨hm, F, bv, ps, u, rfl, hB, hr⟩ := hh
    rw [q_end_step hb]
    obtain ⟨hs1, hs2⟩ := hsm
    have hps : ps.length ≤ 262144 := by simpa using hs1
    cases ps with
    | nil =>
      refine (qend_no w base rb F k s a md bv [] u hB hr (by simp) (by simp [InK])).mono fun e w' ⟨h1, h2⟩ => .inr ⟨h1, rfl, ?_⟩
      rw [← h2]; exact Low.of0 (Only.refl _ _)
    | cons p ps =>
      obtain ⟨o, sl, sr⟩ := p
      simp only [List.map_cons]
      by_cases h : md ≠ 0 ∧ o.k = kP b
      · rw [if_pos h]
        refine (qend_yes w base rb F k s a md bv sl sr o ps u hB hr (by omega) (h.2.trans hk) (fun p hp => hs2 p.1 (List.mem_map_of_mem (List.mem_cons_of_mem _ hp))) (by simp at hps; omega) hrb).mono fun e w' ⟨h1, h2, h3⟩ => .inl ⟨h1, _, rfl, h2, h3⟩
      · rw [if_neg h]
        refine (qend_no w base rb F k s a md bv ((o, sl, sr) :: ps) u hB hr hps (fun h2 => h ⟨by omega, ?_⟩)).mono fun e w' ⟨h1, h2⟩ => .inr ⟨h1, rfl, ?_⟩
        · have := h2.2
          simp only [InK, decide_eq_true_eq] at this
          rw [this, hk]
        · rw [← h2]; exact Low.of0 (Only.refl _ _)
theorem qbar_step (b : UInt8) (hb : b.toNat = 124) :
    Calls Tryz.prog 34 #[.pointer (some ⟨rb, 0, none⟩)] w fun e w' => EitherQ (.tuple #[]) a (QAfter w base rb s a (qstep σ (.sign b))) (QNone w base rb (qstep σ (.sign b))) e w' := by
  cases σ with
  | whole t =>
    obtain ⟨F, A, cap, sl, sr, hB, ht, hF⟩ := hh
    refine (qbar_out w rb s a 4 _ _ hB (by omega) (by omega)).mono fun e w' ⟨h1, h2⟩ => .inr ⟨h1, rfl, ?_⟩
    rw [← h2]; exact Low.of0 (Only.refl _ _)
  | go stk md =>
    obtain ⟨hm, F, bv, ps, u, rfl, hB, hr⟩ := hh
    rw [q_bar_step hb]
    obtain ⟨hs1, hs2⟩ := hsm
    have hps : ps.length ≤ 262144 := by simpa using hs1
    cases ps with
    | nil =>
      refine (qbar_no w base rb F s a md bv [] u hB hr (by simp) (by simp [InK])).mono fun e w' ⟨h1, h2⟩ => .inr ⟨h1, rfl, ?_⟩
      rw [← h2]; exact Low.of0 (Only.refl _ _)
    | cons p ps =>
      obtain ⟨o, sl, sr⟩ := p
      simp only [List.map_cons]
      by_cases h : (md = 1 ∨ md = 2) ∧ o.k = 6
      · rw [if_pos h]
        refine (qbar_yes w base rb F s a md bv sl sr o ps u hB hr (by simp at hps; omega) hrb (by omega) h.2).mono fun e w' ⟨h1, h2, h3, h4⟩ => .inl ⟨h1, _, rfl, h2, by omega, F, bv, _, u, rfl, h3, h4⟩
      · rw [if_neg h]
        refine (qbar_no w base rb F s a md bv ((o, sl, sr) :: ps) u hB hr hps (fun h2 => h ⟨by omega, ?_⟩)).mono fun e w' ⟨h1, h2⟩ => .inr ⟨h1, rfl, ?_⟩
        · have := h2.2
          simpa only [InK, decide_eq_true_eq] using this
        · rw [← h2]; exact Low.of0 (Only.refl _ _)
end
end Go.Proofs.YtlilfmpikampgaaGreatDoor

namespace Go.Proofs.YtlilfmpikampgaaGreatDoor
open Go.RowKit

theorem fin_sh (s : ByteArray) (j : Nat) : fin s j = j + fin (s.extract j s.size) 0 := by
  unfold fin
  rw [lst_rest, List.drop_zero]
  omega
theorem tailW_sh (p : UInt8 → Bool) (s : ByteArray) (j : Nat) : tailW p (s.extract j s.size) 0 = tailW p s j := by
  unfold tailW
  rw [lst_rest, List.drop_drop]
theorem tailB_sh (p : UInt8 → Bool) (s : ByteArray) (j : Nat) : tailB p (s.extract j s.size) 0 = tailB p s j := by
  unfold tailB
  rw [tailW_sh, lst_rest, List.drop_drop]
theorem tok_sh (s : ByteArray) (j : Nat) : (s.extract j s.size).extract 0 (fin (s.extract j s.size) 0) = s.extract j (fin s j) := by
  apply lst_inj
  rw [ext_lst (s.extract j s.size), lst_rest, ext_lst s j, List.drop_zero, fin_sh s j]
  congr 1
  omega
theorem at_sh (s : ByteArray) (j : Nat) : (lst (s.extract j s.size))[0]? = (lst s)[j]? := by
  rw [lst_rest, List.getElem?_drop]
  rfl
theorem qk_sh (s : ByteArray) (j : Nat) : qkAt (s.extract j s.size) 0 = qkAt s j := by
  unfold qkAt
  rw [at_sh, tailB_sh, tailB_sh, tok_sh]
theorem qfin_sh (s : ByteArray) (j : Nat) : qfin s j = j + qfin (s.extract j s.size) 0 := by
  unfold qfin
  rw [at_sh, tailW_sh, tailW_sh, fin_sh s j]
  cases (lst s)[j]? with
  | none => simp
  | some b =>
    simp only
    repeat' split
    all_goals omega
set_option maxRecDepth 20000 in
set_option maxHeartbeats 1000000 in
theorem single_yes (r : ByteArray) (w : World) (rb : Nat) (s : ByteArray) (a st k n wd : Int) (t : T) (bv : Value) (u : Fin 11 → Value) (R : World → Prop) (hb : Bk w rb 40 (qcs s a st bv u)) (hst : st ≤ 1)
    (HL : Calls Tryz.prog 47 #[.string r] w fun e w' => e = .returned (.tuple #[.agg (pcs k n t (.slice none 0 0) (.slice none 0 0)), .int .i64 wd, .bool true]) ∧ Only [] w w')
    (HP : ∀ w1, Only [] w w1 → Calls Tryz.prog 46 #[.pointer (some ⟨rb, 0, none⟩), .agg (pcs k n t (.slice none 0 0) (.slice none 0 0))] w1 fun e w' => e = .returned (.tuple #[]) ∧ R w') :
    Calls Tryz.prog 35 #[.pointer (some ⟨rb, 0, none⟩), .string r] w fun e w' => e = .returned (.int .i64 wd) ∧ R w' := by
  have rs := store_com
  have HB := Lib.hid hb
  have HL := Lib.hid HL
  have HP := Lib.hid HP
  have e2 : decide (st ≤ 1) = true := by simpa using hst
  clear hb hst
  go_enter Tryz.func35, Tryz.ntmps35
  go_wp2_with fail
  (with_reducible refine (HL.out).mono ?_)
  rintro e w1 ⟨rfl, o1⟩
  have O1 := Lib.hid (o1.alloc (.cells (pcs k n t (.slice none 0 0) (.slice none 0 0)) 30))
  have D := Lib.hid (Bk.made w1 30 (pcs k n t (.slice none 0 0) (.slice none 0 0)))
  have B1 := Lib.hid (HB.out.only O1.out (by simp))
  obtain ⟨c0, c1, c2, c3⟩ := B1.out.fifteen
  obtain ⟨z0, z1, z2, z3, z4, z5, z6, z7, z8, z9, z10⟩ := D.out.eleven
  have PP := Lib.hid (HP.out _ O1.out)
  clear o1
  go_wp2_with fail
  (with_reducible refine (need_yes rb _).mono ?_)
  rintro e w2 ⟨rfl, rfl⟩
  go_wp2_with fail
  (with_reducible refine (PP.out).mono ?_)
  rintro e w3 ⟨rfl, hR⟩
  go_wp2_with fail
  go_ret
  exact ⟨rfl, hR⟩
set_option maxRecDepth 20000 in
set_option maxHeartbeats 1000000 in
theorem single_no (r : ByteArray) (w : World) (rb : Nat) (s : ByteArray) (a st : Int) (bv : Value) (u : Fin 11 → Value) (ok : Bool) (hb : Bk w rb 40 (qcs s a st bv u)) (hst : ok = false ∨ ¬ st ≤ 1)
    (HL : Calls Tryz.prog 47 #[.string r] w fun e w' => (∃ k n t wd, e = .returned (.tuple #[.agg (pcs k n t (.slice none 0 0) (.slice none 0 0)), .int .i64 wd, .bool ok])) ∧ Only [] w w') :
    Calls Tryz.prog 35 #[.pointer (some ⟨rb, 0, none⟩), .string r] w fun e w' => GaveUp a e ∧ Only [] w w' := by
  have rs := store_com
  have HB := Lib.hid hb
  have HL := Lib.hid HL
  clear hb
  cases ok with
  | false =>
    clear hst
    go_enter Tryz.func35, Tryz.ntmps35
    go_wp2_with fail
    (with_reducible refine (HL.out).mono ?_)
    rintro e w1 ⟨⟨k, n, t, wd, rfl⟩, o1⟩
    have O1 := Lib.hid (o1.alloc (.cells (pcs k n t (.slice none 0 0) (.slice none 0 0)) 30))
    have B1 := Lib.hid (HB.out.only O1.out (by simp))
    obtain ⟨c0, c1, c2, c3⟩ := B1.out.fifteen
    clear o1
    go_wp2_with fail
    (with_reducible refine (need_no rb a _ c1).mono ?_)
    rintro e w2 ⟨hg, rfl⟩
    have HG := Lib.hid hg
    unfold GaveUp at hg
    subst hg
    go_wp2_with fail
    exact ⟨rfl, HG.out, O1.out⟩
  | true =>
    have e2 : decide (st ≤ 1) = false := by simpa using hst
    clear hst
    go_enter Tryz.func35, Tryz.ntmps35
    go_wp2_with fail
    (with_reducible refine (HL.out).mono ?_)
    rintro e w1 ⟨⟨k, n, t, wd, rfl⟩, o1⟩
    have O1 := Lib.hid (o1.alloc (.cells (pcs k n t (.slice none 0 0) (.slice none 0 0)) 30))
    have B1 := Lib.hid (HB.out.only O1.out (by simp))
    obtain ⟨c0, c1, c2, c3⟩ := B1.out.fifteen
    clear o1
    go_wp2_with fail
    (with_reducible refine (need_no rb a _ c1).mono ?_)
    rintro e w2 ⟨hg, rfl⟩
    have HG := Lib.hid hg
    unfold GaveUp at hg
    subst hg
    go_wp2_with fail
    exact ⟨rfl, HG.out, O1.out⟩
end Go.Proofs.YtlilfmpikampgaaGreatDoor

namespace Go.Proofs.YtlilfmpikampgaaGreatDoor
open Go.RowKit

set_option maxHeartbeats 1000000 in
theorem qtake_123 (r : ByteArray) (b : UInt8) (w : World) (rb : Nat) (a : Int) (R1 R2 : World → Prop) (h0 : (lst r)[0]? = some b) (hb : b.toNat = 123) (C : Calls Tryz.prog 31 #[.pointer (some ⟨rb, 0, none⟩), .int .i64 5] w fun e w' => EitherQ (.tuple #[]) a R1 R2 e w') :
    Calls Tryz.prog 20 #[.pointer (some ⟨rb, 0, none⟩), .string r] w fun e w' => EitherQ (.int .i64 1) a R1 R2 e w' := by
  have hsz : 0 < r.size := by
    have := (List.getElem?_eq_some_iff.1 h0).1
    rw [lst_len] at this
    exact this
  have hb0 : r[0]'hsz = b := by
    have := (lst_at hsz).symm.trans h0
    injection this
  have e1 : ((b.toNat : Int) == 123) = true := by simp; omega
  have C := Lib.hid C
  clear h0 hb
  go_enter Tryz.func20, Tryz.ntmps20
  go_wp2_with fail
  (with_reducible refine C.out.mono ?_)
  rintro e w' h
  rcases h with ⟨rfl, hR⟩ | ⟨hg, hR⟩
  · go_wp2_with fail
    go_ret
    exact .inl ⟨rfl, hR⟩
  · have HG := Lib.hid hg
    unfold GaveUp at hg
    subst hg
    go_wp2_with fail
    exact ⟨rfl, .inr ⟨HG.out, hR⟩⟩
set_option maxHeartbeats 1000000 in
theorem qtake_91 (r : ByteArray) (b : UInt8) (w : World) (rb : Nat) (a : Int) (R1 R2 : World → Prop) (h0 : (lst r)[0]? = some b) (hb : b.toNat = 91) (C : Calls Tryz.prog 31 #[.pointer (some ⟨rb, 0, none⟩), .int .i64 6] w fun e w' => EitherQ (.tuple #[]) a R1 R2 e w') :
    Calls Tryz.prog 20 #[.pointer (some ⟨rb, 0, none⟩), .string r] w fun e w' => EitherQ (.int .i64 1) a R1 R2 e w' := by
  have hsz : 0 < r.size := by
    have := (List.getElem?_eq_some_iff.1 h0).1
    rw [lst_len] at this
    exact this
  have hb0 : r[0]'hsz = b := by
    have := (lst_at hsz).symm.trans h0
    injection this
  have e1 : ((b.toNat : Int) == 123) = false := by simp; omega
  have e2 : ((b.toNat : Int) == 91) = true := by simp; omega
  have C := Lib.hid C
  clear h0 hb
  go_enter Tryz.func20, Tryz.ntmps20
  go_wp2_with fail
  (with_reducible refine C.out.mono ?_)
  rintro e w' h
  rcases h with ⟨rfl, hR⟩ | ⟨hg, hR⟩
  · go_wp2_with fail
    go_ret
    exact .inl ⟨rfl, hR⟩
  · have HG := Lib.hid hg
    unfold GaveUp at hg
    subst hg
    go_wp2_with fail
    exact ⟨rfl, .inr ⟨HG.out, hR⟩⟩
set_option maxHeartbeats 1000000 in
theorem qtake_125 (r : ByteArray) (b : UInt8) (w : World) (rb : Nat) (a : Int) (R1 R2 : World → Prop) (h0 : (lst r)[0]? = some b) (hb : b.toNat = 125) (C : Calls Tryz.prog 32 #[.pointer (some ⟨rb, 0, none⟩), .int .i64 5] w fun e w' => EitherQ (.tuple #[]) a R1 R2 e w') :
    Calls Tryz.prog 20 #[.pointer (some ⟨rb, 0, none⟩), .string r] w fun e w' => EitherQ (.int .i64 1) a R1 R2 e w' := by
  have hsz : 0 < r.size := by
    have := (List.getElem?_eq_some_iff.1 h0).1
    rw [lst_len] at this
    exact this
  have hb0 : r[0]'hsz = b := by
    have := (lst_at hsz).symm.trans h0
    injection this
  have e1 : ((b.toNat : Int) == 123) = false := by simp; omega
  have e2 : ((b.toNat : Int) == 91) = false := by simp; omega
  have e3 : ((b.toNat : Int) == 125) = true := by simp; omega
  have C := Lib.hid C
  clear h0 hb
  go_enter Tryz.func20, Tryz.ntmps20
  go_wp2_with fail
  (with_reducible refine C.out.mono ?_)
  rintro e w' h
  rcases h with ⟨rfl, hR⟩ | ⟨hg, hR⟩
  · go_wp2_with fail
    go_ret
    exact .inl ⟨rfl, hR⟩
  · have HG := Lib.hid hg
    unfold GaveUp at hg
    subst hg
    go_wp2_with fail
    exact ⟨rfl, .inr ⟨HG.out, hR⟩⟩
set_option maxHeartbeats 1000000 in
theorem qtake_93 (r : ByteArray) (b : UInt8) (w : World) (rb : Nat) (a : Int) (R1 R2 : World → Prop) (h0 : (lst r)[0]? = some b) (hb : b.toNat = 93) (C : Calls Tryz.prog 32 #[.pointer (some ⟨rb, 0, none⟩), .int .i64 6] w fun e w' => EitherQ (.tuple #[]) a R1 R2 e w') :
    Calls Tryz.prog 20 #[.pointer (some ⟨rb, 0, none⟩), .string r] w fun e w' => EitherQ (.int .i64 1) a R1 R2 e w' := by
  have hsz : 0 < r.size := by
    have := (List.getElem?_eq_some_iff.1 h0).1
    rw [lst_len] at this
    exact this
  have hb0 : r[0]'hsz = b := by
    have := (lst_at hsz).symm.trans h0
    injection this
  have e1 : ((b.toNat : Int) == 123) = false := by simp; omega
  have e2 : ((b.toNat : Int) == 91) = false := by simp; omega
  have e3 : ((b.toNat : Int) == 125) = false := by simp; omega
  have e4 : ((b.toNat : Int) == 93) = true := by simp; omega
  have C := Lib.hid C
  clear h0 hb
  go_enter Tryz.func20, Tryz.ntmps20
  go_wp2_with fail
  (with_reducible refine C.out.mono ?_)
  rintro e w' h
  rcases h with ⟨rfl, hR⟩ | ⟨hg, hR⟩
  · go_wp2_with fail
    go_ret
    exact .inl ⟨rfl, hR⟩
  · have HG := Lib.hid hg
    unfold GaveUp at hg
    subst hg
    go_wp2_with fail
    exact ⟨rfl, .inr ⟨HG.out, hR⟩⟩
set_option maxHeartbeats 1000000 in
theorem qtake_44 (r : ByteArray) (b : UInt8) (w : World) (rb : Nat) (a : Int) (R1 R2 : World → Prop) (h0 : (lst r)[0]? = some b) (hb : b.toNat = 44) (C : Calls Tryz.prog 33 #[.pointer (some ⟨rb, 0, none⟩)] w fun e w' => EitherQ (.tuple #[]) a R1 R2 e w') :
    Calls Tryz.prog 20 #[.pointer (some ⟨rb, 0, none⟩), .string r] w fun e w' => EitherQ (.int .i64 1) a R1 R2 e w' := by
  have hsz : 0 < r.size := by
    have := (List.getElem?_eq_some_iff.1 h0).1
    rw [lst_len] at this
    exact this
  have hb0 : r[0]'hsz = b := by
    have := (lst_at hsz).symm.trans h0
    injection this
  have e1 : ((b.toNat : Int) == 123) = false := by simp; omega
  have e2 : ((b.toNat : Int) == 91) = false := by simp; omega
  have e3 : ((b.toNat : Int) == 125) = false := by simp; omega
  have e4 : ((b.toNat : Int) == 93) = false := by simp; omega
  have e5 : ((b.toNat : Int) == 44) = true := by simp; omega
  have C := Lib.hid C
  clear h0 hb
  go_enter Tryz.func20, Tryz.ntmps20
  go_wp2_with fail
  (with_reducible refine C.out.mono ?_)
  rintro e w' h
  rcases h with ⟨rfl, hR⟩ | ⟨hg, hR⟩
  · go_wp2_with fail
    go_ret
    exact .inl ⟨rfl, hR⟩
  · have HG := Lib.hid hg
    unfold GaveUp at hg
    subst hg
    go_wp2_with fail
    exact ⟨rfl, .inr ⟨HG.out, hR⟩⟩
set_option maxHeartbeats 1000000 in
theorem qtake_124 (r : ByteArray) (b : UInt8) (w : World) (rb : Nat) (a : Int) (R1 R2 : World → Prop) (h0 : (lst r)[0]? = some b) (hb : b.toNat = 124) (C : Calls Tryz.prog 34 #[.pointer (some ⟨rb, 0, none⟩)] w fun e w' => EitherQ (.tuple #[]) a R1 R2 e w') :
    Calls Tryz.prog 20 #[.pointer (some ⟨rb, 0, none⟩), .string r] w fun e w' => EitherQ (.int .i64 1) a R1 R2 e w' := by
  have hsz : 0 < r.size := by
    have := (List.getElem?_eq_some_iff.1 h0).1
    rw [lst_len] at this
    exact this
  have hb0 : r[0]'hsz = b := by
    have := (lst_at hsz).symm.trans h0
    injection this
  have e1 : ((b.toNat : Int) == 123) = false := by simp; omega
  have e2 : ((b.toNat : Int) == 91) = false := by simp; omega
  have e3 : ((b.toNat : Int) == 125) = false := by simp; omega
  have e4 : ((b.toNat : Int) == 93) = false := by simp; omega
  have e5 : ((b.toNat : Int) == 44) = false := by simp; omega
  have e6 : ((b.toNat : Int) == 124) = true := by simp; omega
  have C := Lib.hid C
  clear h0 hb
  go_enter Tryz.func20, Tryz.ntmps20
  go_wp2_with fail
  (with_reducible refine C.out.mono ?_)
  rintro e w' h
  rcases h with ⟨rfl, hR⟩ | ⟨hg, hR⟩
  · go_wp2_with fail
    go_ret
    exact .inl ⟨rfl, hR⟩
  · have HG := Lib.hid hg
    unfold GaveUp at hg
    subst hg
    go_wp2_with fail
    exact ⟨rfl, .inr ⟨HG.out, hR⟩⟩
set_option maxHeartbeats 1000000 in
theorem qtake_leaf (r : ByteArray) (b : UInt8) (w : World) (rb : Nat) (a wd : Int) (R1 R2 : World → Prop) (h0 : (lst r)[0]? = some b) (hb : isPs b = false) (C : Calls Tryz.prog 35 #[.pointer (some ⟨rb, 0, none⟩), .string r] w fun e w' => EitherQ (.int .i64 wd) a R1 R2 e w') :
    Calls Tryz.prog 20 #[.pointer (some ⟨rb, 0, none⟩), .string r] w fun e w' => EitherQ (.int .i64 wd) a R1 R2 e w' := by
  simp only [isPs, isSg, Bool.or_eq_false_iff, decide_eq_false_iff_not] at hb
  have hsz : 0 < r.size := by
    have := (List.getElem?_eq_some_iff.1 h0).1
    rw [lst_len] at this
    exact this
  have hb0 : r[0]'hsz = b := by
    have := (lst_at hsz).symm.trans h0
    injection this
  have e1 : ((b.toNat : Int) == 123) = false := by simp; omega
  have e2 : ((b.toNat : Int) == 91) = false := by simp; omega
  have e3 : ((b.toNat : Int) == 125) = false := by simp; omega
  have e4 : ((b.toNat : Int) == 93) = false := by simp; omega
  have e5 : ((b.toNat : Int) == 44) = false := by simp; omega
  have e6 : ((b.toNat : Int) == 124) = false := by simp; omega
  have C := Lib.hid C
  clear h0 hb
  go_enter Tryz.func20, Tryz.ntmps20
  go_wp2_with fail
  (with_reducible refine C.out.mono ?_)
  rintro e w' h
  rcases h with ⟨rfl, hR⟩ | ⟨hg, hR⟩
  · go_wp2_with fail
    go_ret
    exact .inl ⟨rfl, hR⟩
  · have HG := Lib.hid hg
    unfold GaveUp at hg
    subst hg
    go_wp2_with fail
    exact ⟨rfl, .inr ⟨HG.out, hR⟩⟩
end Go.Proofs.YtlilfmpikampgaaGreatDoor

namespace Go.Proofs.YtlilfmpikampgaaGreatDoor
open Go.RowKit

theorem qk_signs {s : ByteArray} {j : Nat} {b : UInt8} (h : (lst s)[j]? = some b) (hb : isPs b = true) : qkAt s j = .sign b ∧ qfin s j = j + 1 := by
  have h2 : b.toNat ≠ 36 ∧ b.toNat ≠ 58 := by
    simp only [isPs, isSg, Bool.or_eq_true, decide_eq_true_eq] at hb
    omega
  unfold qkAt qfin
  rw [h]
  simp only [hb, if_true, true_or]
  rw [if_neg h2.1, if_neg h2.2]
  exact ⟨trivial, rfl⟩
theorem qk_leaf {s : ByteArray} {j : Nat} {p : QT} (h : qkAt s j = .leaf p) : ∀ k l r, p ≠ .seq k l r := by
  unfold qkAt at h
  repeat' split at h
  all_goals first
    | (injection h with h; subst h; intro k l r e; cases e; done)
    | cases h
/-- What a leaf leaves, if the machine takes it. -/
theorem qsingle_step (s : ByteArray) (j : Nat) (b : UInt8) (hs : s.size ≤ 262144) (h0 : (lst s)[j]? = some b) (hps : isPs b = false) (hbl : isBl b = false) (w : World) (base rb : Nat) (σ : QS) (hh : QHolds w base rb s j σ) (hv : Vars w) (hk : KN w) (hg : 0 < w.heap.size) (hrb : rb < base) (hsm : QSmall σ) :
    Calls Tryz.prog 35 #[.pointer (some ⟨rb, 0, none⟩), .string (s.extract j s.size)] w fun e w' => EitherQ (.int .i64 (qfin (s.extract j s.size) 0 : Nat)) j (QAfter w base rb s j (qstep σ (qkAt s j))) (QNone w base rb (qstep σ (qkAt s j))) e w' := by
  have hL := leaf_at (s.extract j s.size) b w hv hk hg ((at_sh s j).trans h0) hps hbl (by rw [size_ext _ _ _ (Nat.le_refl _)]; omega)
  unfold LeafE at hL
  rw [qk_sh] at hL
  have hno : ∀ m : Option QS, m = none → ∀ (st : Int) (bv : Value) (u : Fin 11 → Value) (ok : Bool), Bk w rb 40 (qcs s j st bv u) → (ok = false ∨ ¬ st ≤ 1) → Calls Tryz.prog 47 #[.string (s.extract j s.size)] w (fun e w' => (∃ k n t wd, e = .returned (.tuple #[.agg (pcs k n t (.slice none 0 0) (.slice none 0 0)), .int .i64 wd, .bool ok])) ∧ Only [] w w') →
      Calls Tryz.prog 35 #[.pointer (some ⟨rb, 0, none⟩), .string (s.extract j s.size)] w fun e w' => EitherQ (.int .i64 (qfin (s.extract j s.size) 0 : Nat)) j (QAfter w base rb s j m) (QNone w base rb m) e w' := by
    intro m hm st bv u ok hB hst hl
    exact (single_no _ w rb s j st bv u ok hB hst hl).mono fun e w' ⟨h1, h2⟩ => .inr ⟨h1, hm, Low.of0 h2⟩
  obtain ⟨st, bv, u, hB, hst⟩ := hh.four
  cases hq : qkAt s j with
  | sign c =>
    obtain ⟨h1, h2⟩ := qk_sign hq
    rw [h0] at h1
    injection h1 with h1
    rw [← h1, hps] at h2
    cases h2
  | bad =>
    rw [hq] at hL
    refine hno _ (by cases σ <;> rfl) st bv u false hB (.inl rfl) (hL.mono fun e w' ⟨⟨k, n, wd, h1⟩, h2⟩ => ⟨⟨k, n, _, wd, h1⟩, h2⟩)
  | leaf p =>
    rw [hq] at hL
    have hL2 : Calls Tryz.prog 47 #[.string (s.extract j s.size)] w fun e w' => (∃ k n t wd, e = .returned (.tuple #[.agg (pcs k n t (.slice none 0 0) (.slice none 0 0)), .int .i64 wd, .bool true])) ∧ Only [] w w' := hL.mono fun e w' ⟨h1, h2⟩ => ⟨⟨p.k, p.n, p.t, _, h1⟩, h2⟩
    cases σ with
    | whole t => exact hno _ rfl st bv u true hB (.inr (by rw [hst]; simp)) hL2
    | go stk md =>
      by_cases hm : md ≤ 1
      · obtain ⟨hm3, F, bv', ps, u', rfl, hB', hr⟩ := hh
        obtain ⟨hs1, hs2⟩ := hsm
        refine (single_yes _ w rb s j md p.k p.n (qfin (s.extract j s.size) 0 : Nat) p.t bv' u' (QAfter w base rb s j (some (qput (ps.map (·.1)) p))) hB' (by omega) hL fun w1 o1 => ?_).mono fun e w' ⟨h1, h2⟩ => ?_
        · exact (qput_any w1 base rb F s j md bv' _ _ ps u' p (hB'.only o1 (by simp)) (hr.only o1 (by simp)) ((QV.leaf (qk_leaf hq)).2 ⟨rfl, rfl⟩) (fun q hq => hs2 q.1 (List.mem_map_of_mem hq)) (by simpa using hs1) hrb).mono fun e w' ⟨h1, h2, h3⟩ => ⟨h1, _, rfl, (Low.of0 o1).trans h2, h3⟩
        · refine .inl ⟨h1, ?_⟩
          have e1 : qstep (.go (ps.map (·.1)) md) (.leaf p) = some (qput (ps.map (·.1)) p) := by simp only [qstep, if_pos hm]
          rw [e1]
          exact h2
      · exact hno _ (by simp only [qstep, if_neg hm]) st bv u true hB (.inr (by rw [hst]; simp only; omega)) hL2
theorem qtake_any (s : ByteArray) (j : Nat) (hs : s.size ≤ 262144) (hj : j < s.size) (hbl : ∀ b, (lst s)[j]? = some b → isBl b = false) (w : World) (base rb : Nat) (σ : QS) (hh : QHolds w base rb s j σ) (hv : Vars w) (hk : KN w) (hg : 0 < w.heap.size) (hrb : rb < base) (hsm : QSmall σ) :
    Calls Tryz.prog 20 #[.pointer (some ⟨rb, 0, none⟩), .string (s.extract j s.size)] w fun e w' => EitherQ (.int .i64 (qfin s j - j : Nat)) j (QAfter w base rb s j (qstep σ (qkAt s j))) (QNone w base rb (qstep σ (qkAt s j))) e w' := by
  obtain ⟨b, h0⟩ : ∃ b, (lst s)[j]? = some b := ⟨_, lst_at hj⟩
  have h0' := (at_sh s j).trans h0
  cases hps : isPs b with
  | true =>
    obtain ⟨hq, hf⟩ := qk_signs h0 hps
    rw [hq, hf, show j + 1 - j = 1 by omega]
    simp only [isPs, isSg, Bool.or_eq_true, decide_eq_true_eq] at hps
    rcases hps with ((((h | h) | h) | h) | h) | h
    · exact qtake_123 _ b w rb _ _ _ h0' h (qbegin_step hh hrb hsm b 5 (.inl h) (by simp [kP, h]))
    · exact qtake_125 _ b w rb _ _ _ h0' h (qend_step hh hrb hsm b 5 (.inl h) (by simp [kP, h]))
    · exact qtake_91 _ b w rb _ _ _ h0' h (qbegin_step hh hrb hsm b 6 (.inr h) (by simp [kP, h]))
    · exact qtake_93 _ b w rb _ _ _ h0' h (qend_step hh hrb hsm b 6 (.inr h) (by simp [kP, h]))
    · exact qtake_44 _ b w rb _ _ _ h0' h (qcomma_step hh hrb hsm b h)
    · exact qtake_124 _ b w rb _ _ _ h0' h (qbar_step hh hrb hsm b h)
  | false =>
    rw [show qfin s j - j = qfin (s.extract j s.size) 0 by rw [qfin_sh s j]; omega]
    exact qtake_leaf _ b w rb _ _ _ _ h0' hps (qsingle_step s j b hs h0 hps (hbl b h0) w base rb σ hh hv hk hg hrb hsm)
end Go.Proofs.YtlilfmpikampgaaGreatDoor

namespace Go.Proofs.YtlilfmpikampgaaGreatDoor
open Go.RowKit

theorem qskip_step (w : World) (base rb i : Nat) (s : ByteArray) (σ : QS) (hs : s.size ≤ 262144) (hi : i ≤ s.size) (hh : QHolds w base rb s i σ) (hrb : rb < base) :
    Calls Tryz.prog 19 #[.pointer (some ⟨rb, 0, none⟩)] w fun e w' => e = .returned (.tuple #[]) ∧ Only [rb] w w' ∧ QHolds w' base rb s (nxt s i : Nat) σ := by
  cases σ with
  | go stk md =>
    obtain ⟨hm, F, bv, ps, u, rfl, hb, hr⟩ := hh
    exact (skip_any w rb i s md bv u hs hi hb).mono fun e w' ⟨h1, h2, h3⟩ => ⟨h1, h2, hm, F, bv, ps, u, rfl, h3, hr.only h2 (by simpa using hrb)⟩
  | whole t =>
    obtain ⟨F, A, cap, sl, sr, hb, ht, hF⟩ := hh
    refine (skip_any w rb i s 4 _ _ hs hi hb).mono fun e w' ⟨h1, h2, h3⟩ => ⟨h1, h2, F, A, cap, sl, sr, h3, QV.only h2 (fun b hb hf => ?_) (fun _ h => h) t _ _ ht, fun b hb => ⟨(hF b hb).1, Nat.lt_of_lt_of_le (hF b hb).2 h2.size⟩⟩
    have := (hF b hf).1
    have := List.mem_singleton.1 hb
    omega
theorem Vars.low {w w' : World} {base rb : Nat} (h : Vars w) (l : Low base rb w w') (h9 : 9 ≤ rb) (hrb : rb < base) : Vars w' := by
  obtain ⟨S, h1, h2, _⟩ := l
  exact h.only h1 fun b hb => by rcases h2 b hb with h | h <;> omega
theorem KN.low {w w' : World} {base rb : Nat} (h : KN w) (hg : 0 < w.heap.size) (l : Low base rb w w') (hgr : 0 < rb) (hrb : rb < base) : KN w' := by
  obtain ⟨S, h1, h2, _⟩ := l
  exact h.only hg h1 fun hm => by rcases h2 _ hm with h | h <;> omega
theorem Low.size {w w' : World} {base rb : Nat} (l : Low base rb w w') : w.heap.size ≤ w'.heap.size := by
  obtain ⟨S, h1, _⟩ := l
  exact h1.size
/-- What a state keeps: no more begun ones, no more items than tokens; trees that a reader makes. -/
def QInv (n : Nat) : QS → Prop
  | .go stk md => stk.length ≤ n ∧ (∀ o ∈ stk, o.items.length ≤ n ∧ QGoods o.items ∧ ((o.k = 5 ∧ o.bar = false ∧ o.rest = []) ∨ (o.k = 6 ∧ o.rest.length ≤ 1 ∧ QGoods o.rest))) ∧ (md = 2 ∨ md = 3 → stk ≠ [])
  | .whole t => t.Good
theorem QInv.put {n : Nat} {stk : List QOpn} {t : QT} (h1 : stk.length ≤ n + 1) (h2 : ∀ o ∈ stk, o.items.length ≤ n ∧ QGoods o.items ∧ ((o.k = 5 ∧ o.bar = false ∧ o.rest = []) ∨ (o.k = 6 ∧ o.rest.length ≤ 1 ∧ QGoods o.rest))) (ht : t.Good) : QInv (n + 1) (qput stk t) := by
  cases stk with
  | nil => exact ht
  | cons o r =>
    have h0 := h2 o (by simp)
    have hr : ∀ p ∈ r, p.items.length ≤ n + 1 ∧ QGoods p.items ∧ ((p.k = 5 ∧ p.bar = false ∧ p.rest = []) ∨ (p.k = 6 ∧ p.rest.length ≤ 1 ∧ QGoods p.rest)) := fun p hp => by
      obtain ⟨h3, h4, h5⟩ := h2 p (by simp [hp])
      exact ⟨by omega, h4, h5⟩
    unfold qput
    simp only
    split
    · rename_i hbar
      refine ⟨h1, fun p hp => ?_, fun _ => by simp⟩
      rcases List.mem_cons.1 hp with rfl | hp
      · refine ⟨by simp only; omega, h0.2.1, .inr ?_⟩
        rcases h0.2.2 with h | h
        · rw [h.2.1] at hbar; cases hbar
        · exact ⟨h.1, by simp, QGoods.one ht⟩
      · exact hr p hp
    · refine ⟨h1, fun p hp => ?_, fun _ => by simp⟩
      rcases List.mem_cons.1 hp with rfl | hp
      · refine ⟨by simp; omega, h0.2.1.snoc ht, ?_⟩
        rcases h0.2.2 with h | h
        · exact .inl ⟨h.1, rfl, h.2.2⟩
        · exact .inr h
      · exact hr p hp
theorem QGoods.nil : QGoods [] := trivial
theorem qk_good {s : ByteArray} {j : Nat} {p : QT} (hs : s.size ≤ 262144) (h : qkAt s j = .leaf p) : p.Good := by
  unfold qkAt at h
  split at h
  · cases h
  · split at h
    · cases h
    · split at h
      · injection h with h; subst h; trivial
      · split at h
        · split at h
          · split at h
            · rename_i hn
              injection h with h; subst h; exact hn
            · cases h
          · cases h
        · split at h
          · split at h
            · rename_i hk
              injection h with h; subst h; exact kindP_bd hk
            · cases h
          · split at h
            · rename_i t ht
              injection h with h; subst h
              have hg := lf_good (by rw [← lst_len, ext_lst, List.length_take, List.length_drop, lst_len]; omega) ht
              exact ⟨hg.2, hg.1, lf_ok ht⟩
            · cases h
theorem kP_ok {b : UInt8} : kP b = 5 ∨ kP b = 6 := by
  unfold kP
  split
  · exact .inl rfl
  · exact .inr rfl
theorem QInv.step {s : ByteArray} {j n : Nat} {σ σ' : QS} (hs : s.size ≤ 262144) (h : QInv n σ) (hm : qstep σ (qkAt s j) = some σ') : QInv (n + 1) σ' := by
  cases σ with
  | whole t => rw [q_whole_step] at hm; cases hm
  | go stk md =>
    obtain ⟨h1, h2, h3⟩ := h
    have hup : ∀ o ∈ stk, o.items.length ≤ n + 1 ∧ QGoods o.items ∧ ((o.k = 5 ∧ o.bar = false ∧ o.rest = []) ∨ (o.k = 6 ∧ o.rest.length ≤ 1 ∧ QGoods o.rest)) := fun o ho => ⟨by have := (h2 o ho).1; omega, (h2 o ho).2⟩
    cases ht : qkAt s j with
    | bad => rw [ht] at hm; simp [qstep] at hm
    | leaf t =>
      rw [ht] at hm
      simp only [qstep] at hm
      split at hm
      · injection hm with hm
        subst hm
        exact QInv.put (by omega) h2 (qk_good hs ht)
      · cases hm
    | sign b =>
      rw [ht] at hm
      simp only [qstep] at hm
      split at hm
      · split at hm
        · injection hm with hm
          subst hm
          refine ⟨by simp; omega, fun o ho => ?_, fun _ => by simp⟩
          rcases List.mem_cons.1 ho with rfl | ho
          · refine ⟨by simp, QGoods.nil, ?_⟩
            rcases kP_ok (b := b) with h | h
            · exact .inl ⟨h, rfl, rfl⟩
            · exact .inr ⟨h, by simp, QGoods.nil⟩
          · exact hup o ho
        · cases hm
      · split at hm
        · split at hm
          · rename_i hmd
            injection hm with hm
            subst hm
            exact ⟨by omega, hup, fun h => by omega⟩
          · cases hm
        · cases stk with
          | nil => simp at hm
          | cons o r =>
            simp only at hm
            have ho := h2 o (by simp)
            split at hm
            · split at hm
              · rename_i hk
                injection hm with hm
                subst hm
                refine ⟨by simp at h1 ⊢; omega, fun p hp => ?_, fun h => by omega⟩
                rcases List.mem_cons.1 hp with rfl | hp
                · refine ⟨by simp only; omega, ho.2.1, .inr ?_⟩
                  rcases ho.2.2 with h | h
                  · have := hk.2; omega
                  · exact h
                · exact hup p (by simp [hp])
              · cases hm
            · split at hm
              · injection hm with hm
                subst hm
                refine QInv.put (by simp at h1; omega) (fun p hp => h2 p (by simp [hp])) ⟨?_, ho.2.1, ?_⟩
                · rcases ho.2.2 with h | h
                  · exact .inl ⟨h.1, h.2.2⟩
                  · exact .inr ⟨h.1, h.2.1⟩
                · rcases ho.2.2 with h | h
                  · rw [h.2.2]; exact QGoods.nil
                  · exact h.2.2
              · cases hm
theorem QInv.small {n : Nat} {σ : QS} (h : QInv n σ) (hn : n ≤ 262144) : QSmall σ := by
  cases σ with
  | whole t => trivial
  | go stk md => exact ⟨by have := h.1; omega, fun o ho => by have := (h.2.1 o ho).1; omega⟩
theorem QInv.init : QInv 0 (.go [] 0) := ⟨Nat.le_refl _, by simp, fun h => by omega⟩
end Go.Proofs.YtlilfmpikampgaaGreatDoor
