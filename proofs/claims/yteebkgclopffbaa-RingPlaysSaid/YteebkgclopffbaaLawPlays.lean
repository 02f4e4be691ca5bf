/- The law RingPlays, walked. -/
import Derived.Test.YteebkgclopffbaaSides
import Derived.Test.YteebkgclopffbaaLawQueue
namespace Go.Proofs.Yteebkgclopffbaa
open Go.RowKit

/-- The script reads: op i's three cells, its list. -/
def OpAt (w : World) (bl off i : Nat) (kind n : Int) (Al : Option Addr) (l : List Int) (capl : Nat) : Prop :=
  w.cell? ⟨bl, off + i * 3, none⟩ = some (.int .i64 kind) ∧ w.cell? ⟨bl, off + i * 3 + 1, none⟩ = some (.int .i64 n) ∧ w.cell? ⟨bl, off + i * 3 + 2, none⟩ = some (.slice Al l.length capl) ∧ Rd w Al l ∧ l.length + 20 ≤ 17592186044416
def RdOps (w : World) (As : Option Addr) (m : Nat) : Prop :=
  m = 0 ∨ ∃ bl off, As = some ⟨bl, off, none⟩ ∧ bl < w.heap.size ∧ ∀ i, i < m → ∃ kind n Al l capl, OpAt w bl off i kind n Al l capl

def CPart (w0 wr : World) (b : Nat) (A : Option Nat) (room : Nat) (xs : List Int) (Aw : Option Addr) (W V : Nat) (vc : Value) : Prop :=
  (vc = .pointer none ∧ (∃ u v, Bk wr V 29 #[u, v]) ∧ w0.heap.size ≤ V ∧ V ∉ W :: b :: A.toList ∧ (xs ≠ [] → ∀ bl off, Aw = some ⟨bl, off, none⟩ → bl ≠ V)) ∨
  ∃ b2 A2 ys Av capv, vc = .pointer (some ⟨b2, 0, none⟩) ∧ Side w0 wr b2 A2 room ys Av capv V ∧ Two b A xs Aw W b2 A2 ys Av V
def St (w0 : World) (b W V room : Nat) (vc : Value) (wr : World) : Prop :=
  ∃ A xs Aw cap, Side w0 wr b A room xs Aw cap W ∧ Only [] w0 wr ∧ CPart w0 wr b A room xs Aw W V vc
def PRel (w0 : World) (b W V room m : Nat) (vc vi : Value) (wr : World) : Prop := ∃ i : Nat, vi = .int .i64 i ∧ i ≤ m ∧ St w0 b W V room vc wr

theorem St.start {w w2 : World} {room : Nat} (r : Ring w2 w.heap.size none room []) (o : Only [] w w2) :
    St w w.heap.size w2.heap.size (w2.heap.size + 1) room (.pointer none) ((w2.alloc (.cells #[.int .i64 room, .slice none 0 0] 29)).alloc (.cells #[.int .i64 0, .slice none 0 0] 29)) := by
  have o2 : Only [] w2 ((w2.alloc (.cells #[.int .i64 room, .slice none 0 0] 29)).alloc (.cells #[.int .i64 0, .slice none 0 0] 29)) := ((Only.refl _ _).alloc _).alloc _
  have hb := r.lt
  have hs := o.size
  refine ⟨none, [], none, 0, ⟨r.only o2 (by simp) (by simp), Nat.le_refl _, (fun g hg => by cases hg), (Bk.made _ _ _).alloc _, hs, Rd.nil _ _, by simp, by simp [maxLen], fun h => absurd rfl h⟩, o.trans o2 (by simp), .inl ⟨rfl, ⟨.int .i64 0, .slice none 0 0, ?_⟩, by omega, ?_, fun h => absurd rfl h⟩⟩
  · have := Bk.made (w2.alloc (.cells #[.int .i64 room, .slice none 0 0] 29)) 29 #[.int .i64 0, .slice none 0 0]
    simpa using this
  · simp
    omega

/-- Behind does on the ring, and is, and the store. -/
theorem St.stepR {w0 wr w1 w2 : World} {b W V room : Nat} {vc : Value} {A A' : Option Nat} {xs xs' : List Int} {Aw Aw' : Option Addr} {cap cap' : Nat} (s : Side w0 wr b A room xs Aw cap W) (o0 : Only [] w0 wr) (c : CPart w0 wr b A room xs Aw W V vc)
    (r : Ring w1 b A' room xs') (n : NewA wr A A') (o : Only (b :: A.toList) wr w1) (rd : Rd w1 Aw' xs') (h1 : xs'.length ≤ cap') (h2 : cap' ≤ maxLen)
    (loc : xs' ≠ [] → ∀ bl off, Aw' = some ⟨bl, off, none⟩ → ((Aw = some ⟨bl, off, none⟩ ∧ xs ≠ []) ∨ wr.heap.size ≤ bl) ∧ bl ∉ b :: A'.toList) (o2 : Only [] w1 w2) : St w0 b W V room vc (put2 w2 W room Aw' xs'.length cap') := by
  refine ⟨A', xs', Aw', cap', s.step o0.size r n o rd h1 h2 loc o2, ?_, ?_⟩
  · refine ((o0.trans o (fun i hi => ?_)).trans o2 (by simp)).trans (put2_only w2 W room Aw' xs'.length cap') (fun i hi => ?_)
    · simp only [List.mem_cons, Option.mem_toList] at hi
      rcases hi with rfl | hi
      · exact .inr s.rb
      · exact .inr (s.rA i (by simpa using hi))
    · simp only [List.mem_cons, List.not_mem_nil, or_false] at hi
      subst hi
      exact .inr s.bW
  · rcases c with ⟨hc, ⟨u, v, hv⟩, h3, h4, h5⟩ | ⟨b2, A2, ys, Av, capv, hc, s2, t⟩
    · refine .inl ⟨hc, ⟨u, v, ?_⟩, h3, ?_, ?_⟩
      · exact ((hv.only o (s.ring.boxNot hv)).only o2 (by simp)).only (put2_only w2 W room Aw' xs'.length cap') (by simp only [List.mem_cons, not_or] at h4; simp; exact h4.1)
      · simp only [List.mem_cons, Option.mem_toList, not_or] at h4 ⊢
        refine ⟨h4.1, h4.2.1, fun hm => ?_⟩
        rcases n with n | ⟨g, n, n2⟩
        · exact h4.2.2 (by rw [← n]; exact hm)
        · rw [n] at hm
          have : V = g := by simpa using hm.symm
          have := hv.lt
          omega
      · intro hx bl off e
        rcases (loc hx bl off e).1 with ⟨h6, h7⟩ | h6
        · exact h5 h7 bl off h6
        · have := hv.lt
          omega
    · obtain ⟨s2', t'⟩ := s.other s2 t n o loc o2
      exact .inr ⟨b2, A2, ys, Av, capv, hc, s2', t'⟩

/-- Behind does on the copy, and the store. -/
theorem St.stepC {w0 wr w1 w2 : World} {b b2 W V room : Nat} {A A2 A' : Option Nat} {xs ys ys' : List Int} {Aw Av Av' : Option Addr} {cap capv cap' : Nat} (s : Side w0 wr b A room xs Aw cap W) (o0 : Only [] w0 wr) (s2 : Side w0 wr b2 A2 room ys Av capv V) (t : Two b A xs Aw W b2 A2 ys Av V)
    (r : Ring w1 b2 A' room ys') (n : NewA wr A2 A') (o : Only (b2 :: A2.toList) wr w1) (rd : Rd w1 Av' ys') (h1 : ys'.length ≤ cap') (h2 : cap' ≤ maxLen)
    (loc : ys' ≠ [] → ∀ bl off, Av' = some ⟨bl, off, none⟩ → ((Av = some ⟨bl, off, none⟩ ∧ ys ≠ []) ∨ wr.heap.size ≤ bl) ∧ bl ∉ b2 :: A'.toList) (o2 : Only [] w1 w2) : St w0 b W V room (.pointer (some ⟨b2, 0, none⟩)) (put2 w2 V room Av' ys'.length cap') := by
  obtain ⟨s1', t'⟩ := s2.other s t.symm n o loc o2
  refine ⟨A, xs, Aw, cap, s1', ?_, .inr ⟨b2, A', ys', Av', cap', rfl, s2.step o0.size r n o rd h1 h2 loc o2, t'.symm⟩⟩
  refine ((o0.trans o (fun i hi => ?_)).trans o2 (by simp)).trans (put2_only w2 V room Av' ys'.length cap') (fun i hi => ?_)
  · simp only [List.mem_cons, Option.mem_toList] at hi
    rcases hi with rfl | hi
    · exact .inr s2.rb
    · exact .inr (s2.rA i (by simpa using hi))
  · simp only [List.mem_cons, List.not_mem_nil, or_false] at hi
    subst hi
    exact .inr s2.bW

/-- Behind Copy, and v = w. -/
theorem St.copied {w0 wr w1 : World} {b W V room b2 G : Nat} {vc : Value} {A : Option Nat} {xs : List Int} {Aw : Option Addr} {cap : Nat} (s : Side w0 wr b A room xs Aw cap W) (o0 : Only [] w0 wr) (c : CPart w0 wr b A room xs Aw W V vc)
    (hb : wr.heap.size ≤ b2) (hG : wr.heap.size ≤ G) (r : Ring w1 b2 (some G) room xs) (o : Only [] wr w1) : St w0 b W V room (.pointer (some ⟨b2, 0, none⟩)) (put2 w1 V room Aw xs.length cap) := by
  have hV : (∃ u v, Bk wr V 29 #[u, v]) ∧ w0.heap.size ≤ V ∧ V ∉ W :: b :: A.toList ∧ (xs ≠ [] → ∀ bl off, Aw = some ⟨bl, off, none⟩ → bl ≠ V) := by
    rcases c with ⟨_, h2, h3, h4, h5⟩ | ⟨b2, A2, ys, Av, capv, _, s2, t⟩
    · exact ⟨h2, h3, h4, h5⟩
    · exact ⟨⟨_, _, s2.box⟩, s2.bW, fun hm => t.f V hm (by simp), fun hx bl off e he => t.a12 hx bl off e (by simp [he])⟩
  obtain ⟨⟨u, v, hv⟩, h3, h4, h5⟩ := hV
  have hvl := hv.lt
  have hWl := s.box.lt
  have hbl := s.ring.lt
  have hAl := s.ring.ltA
  have hs0 := o0.size
  have op := put2_only w1 V room Aw xs.length cap
  have hlow : ∀ k ∈ W :: b :: A.toList, k < wr.heap.size := by
    intro k hk
    simp only [List.mem_cons, Option.mem_toList] at hk
    rcases hk with rfl | rfl | hk
    · exact hWl
    · exact hbl
    · exact hAl k (by simpa using hk)
  refine ⟨A, xs, Aw, cap, ?_, (o0.trans o (by simp)).trans op (by simp; omega), .inr ⟨b2, some G, xs, Aw, cap, rfl, ⟨?_, by omega, (fun g hg => by injection hg with hg; omega), put2_box (hv.only o (by simp)) Aw xs.length cap, h3, ?_, s.c1, s.c2, ?_⟩, ⟨?_, ?_, ?_⟩⟩⟩
  · refine (s.quiet o).keep op (fun k hk hm => ?_) (fun hx bl off e hm => ?_)
    · simp only [List.mem_cons, List.not_mem_nil, or_false] at hm
      subst hm
      exact h4 hk
    · simp only [List.mem_cons, List.not_mem_nil, or_false] at hm
      exact h5 hx bl off e hm
  · refine r.only op (by simp; omega) (fun g hg => ?_)
    injection hg with hg
    simp
    omega
  · exact (s.rd.only o (by simp)).only op (fun hx bl off e => by simp; exact h5 hx bl off e)
  · intro hx bl off e hm
    have := s.rd.lt hx bl off e
    simp only [List.mem_cons, Option.mem_toList, Option.some.injEq] at hm
    rcases hm with hm | hm | hm
    · exact h5 hx bl off e hm
    · omega
    · omega
  · intro k hk hm
    have := hlow k hk
    simp only [List.mem_cons, Option.mem_toList, Option.some.injEq] at hm
    rcases hm with rfl | hm | hm
    · exact h4 hk
    · omega
    · omega
  · intro hx bl off e hm
    have := s.rd.lt hx bl off e
    simp only [List.mem_cons, Option.mem_toList, Option.some.injEq] at hm
    rcases hm with hm | hm | hm
    · exact h5 hx bl off e hm
    · omega
    · omega
  · exact s.away

/-- Behind x, ok := does(r, w, o): x lies in a variable of its own. -/
def Mid (wr : World) (b : Nat) (A : Option Nat) (room : Nat) (xs : List Int) (Aw : Option Addr) (x ok : Value) (wx : World) : Prop :=
  ∃ X xs' A' Aw' cap', x = .pointer (some ⟨X, 0, none⟩) ∧ ok = .bool true ∧ xs'.length ≤ cap' ∧ cap' ≤ maxLen ∧ Ring wx b A' room xs' ∧ NewA wr A A' ∧ Only (b :: A.toList) wr wx ∧ Rd wx Aw' xs' ∧
    (xs' ≠ [] → ∀ bl off, Aw' = some ⟨bl, off, none⟩ → ((Aw = some ⟨bl, off, none⟩ ∧ xs ≠ []) ∨ wr.heap.size ≤ bl) ∧ bl ∉ b :: A'.toList) ∧ Bk wx X 29 #[.int .i64 room, .slice Aw' xs'.length cap'] ∧ wr.heap.size ≤ X
theorem Mid.after {wr w3 : World} {b : Nat} {A A' : Option Nat} {room : Nat} {xs xs' : List Int} {Aw Aw' : Option Addr} {cap' : Nat} (h1 : xs'.length ≤ cap') (h2 : cap' ≤ maxLen) (r : Ring w3 b A' room xs') (n : NewA wr.drew A A') (o : Only (b :: A.toList) wr.drew w3) (rd : Rd w3 Aw' xs')
    (loc : xs' ≠ [] → ∀ bl off, Aw' = some ⟨bl, off, none⟩ → ((Aw = some ⟨bl, off, none⟩ ∧ xs ≠ []) ∨ wr.drew.heap.size ≤ bl) ∧ bl ∉ b :: A'.toList) :
    Mid wr b A room xs Aw (.pointer (some ⟨w3.heap.size, 0, none⟩)) (.bool true) (w3.alloc (.cells #[.int .i64 room, .slice Aw' xs'.length cap'] 29)) := by
  have oa : Only [] w3 (w3.alloc (.cells #[.int .i64 room, .slice Aw' xs'.length cap'] 29)) := (Only.refl _ _).alloc _
  exact ⟨_, xs', A', Aw', cap', rfl, rfl, h1, h2, r.only oa (by simp) (by simp), n, (o.undrew (n := 1)).trans oa (by simp), rd.only oa (by simp), loc, Bk.made _ _ _, o.size⟩
theorem Mid.ahead {wr w3 : World} {b : Nat} {A A' : Option Nat} {room : Nat} {xs xs' : List Int} {Aw Aw' : Option Addr} {cap' : Nat} {ob : Obj} {u v : Value} (hb : b < wr.heap.size) (hA : ∀ g, A = some g → g < wr.heap.size) (hAw : xs ≠ [] → ∀ bl off, Aw = some ⟨bl, off, none⟩ → bl < wr.heap.size) (h1 : xs'.length ≤ cap') (h2 : cap' ≤ maxLen) (r : Ring w3 b A' room xs') (n : NewA (wr.alloc ob).drew A A') (o : Only (b :: A.toList) (wr.alloc ob).drew w3) (rd : Rd w3 Aw' xs')
    (loc : xs' ≠ [] → ∀ bl off, Aw' = some ⟨bl, off, none⟩ → ((Aw = some ⟨bl, off, none⟩ ∧ xs ≠ []) ∨ (wr.alloc ob).drew.heap.size ≤ bl) ∧ bl ∉ b :: A'.toList) (hx : Bk w3 wr.heap.size 29 #[u, v]) :
    Mid wr b A room xs Aw (.pointer (some ⟨wr.heap.size, 0, none⟩)) (.bool true) (put2 w3 wr.heap.size room Aw' xs'.length cap') := by
  have op := put2_only w3 wr.heap.size room Aw' xs'.length cap'
  have hs : (wr.alloc ob).drew.heap.size = wr.heap.size + 1 := by simp
  rw [hs] at loc
  refine ⟨_, xs', A', Aw', cap', rfl, rfl, h1, h2, r.only op (by simp; omega) (fun g hg => ?_), ?_, ?_, rd.only op (fun hx bl off e => ?_), fun hx bl off e => ⟨?_, (loc hx bl off e).2⟩, put2_box hx Aw' xs'.length cap', Nat.le_refl _⟩
  · rcases n with n | ⟨g', n, n2⟩
    · have := hA g (by rw [← n]; exact hg)
      simp
      omega
    · rw [n] at hg
      injection hg with hg
      rw [hs] at n2
      simp
      omega
  · rcases n with n | ⟨g', n, n2⟩
    · exact .inl n
    · exact .inr ⟨g', n, by rw [hs] at n2; omega⟩
  · exact ((((Only.refl _ wr).alloc ob).drew).trans o (fun i hi => .inl hi)).trans op (by simp)
  · simp only [List.mem_cons, List.not_mem_nil, or_false]
    rcases (loc hx bl off e).1 with ⟨h3, h4⟩ | h3
    · have := hAw h4 bl off h3
      omega
    · omega
  · rcases (loc hx bl off e).1 with h3 | h3
    · exact .inl h3
    · exact .inr (by omega)

set_option maxRecDepth 100000 in
set_option maxHeartbeats 8000000 in
theorem plays_yes (room : Nat) (As : Option Addr) (m caps : Nat) (w : World) (h1 : 1 ≤ room) (h2 : room ≤ 65536) (hs : RdOps w As m) (hm : m ≤ 9223372036854775807) :
    Calls Try.prog 3 #[.int .i64 room, .slice As m caps] w fun e w' => e = .returned (.bool true) ∧ Only [] w w' := by
  have N1 := Lib.hid (new_yes room h1 h2 w)
  have n2 := fun W => refNew_any room W
  rw [if_pos (by omega), if_pos (by omega)] at n2
  have N2 := Lib.hid n2
  have HS := Lib.hid hs
  clear hs n2
  go_enter Try.func3, Try.ntmps3
  go_wp2_with fail
  (with_reducible refine N1.out.mono ?_)
  rintro e w1 ⟨rfl, r1, o1⟩
  have R1 := Lib.hid r1
  have O1 := Lib.hid o1
  clear r1 o1
  go_wp2_with fail
  (with_reducible refine (N2.out _).mono ?_)
  rintro e w2 ⟨rfl, o2⟩
  have O2 := Lib.hid (O1.out.trans o2 (by simp))
  have R2 := Lib.hid (R1.out.only o2 (by simp) (by simp))
  clear o2
  go_wp2_with fail
  have S0 := Lib.hid (St.start R2.out O2.out)
  clear R1 O1 R2 O2 N1 N2
  go_loopw [9, 11] (fun vc vi wr => PRel w w.heap.size w2.heap.size (w2.heap.size + 1) room m vc vi wr) (fun _ vi _ => m - (intOf vi).toNat)
  case atStart => exact ⟨0, rfl, Nat.zero_le _, S0.out⟩
  case round =>
    clear S0
    obtain ⟨i, rfl, hi, A, xs, Aw, cap, s, o, c⟩ := hrel
    by_cases hlt : i < m
    · have hmpos : m ≠ 0 := by omega
      rcases HS.out with h0 | ⟨bl, off, rfl, hbl, hops⟩
      · exact absurd h0 hmpos
      · obtain ⟨kind, n, Al, l, capl, k0, k1, k2, hR, hll⟩ := hops i hlt
        have p0 : wr.cell? ⟨bl, off + i * 3, none⟩ = some (.int .i64 kind) := (o.cell (p := ⟨bl, off + i * 3, none⟩) hbl (by simp)).trans k0
        have p1 : wr.cell? ⟨bl, off + i * 3 + 1, none⟩ = some (.int .i64 n) := (o.cell (p := ⟨bl, off + i * 3 + 1, none⟩) hbl (by simp)).trans k1
        have p2 : wr.cell? ⟨bl, off + i * 3 + 2, none⟩ = some (.slice Al l.length capl) := (o.cell (p := ⟨bl, off + i * 3 + 2, none⟩) hbl (by simp)).trans k2
        have q0 := s.box.cell0 (i := 0) rfl
        have q1 := s.box.cell0 (i := 1) rfl
        have hal : l ≠ [] → ∀ bl off, Al = some ⟨bl, off, none⟩ → bl ∉ w.heap.size :: A.toList := fun hx bl' off' e hm => by
          have h3 := hR.lt hx bl' off' e
          simp only [List.mem_cons, Option.mem_toList] at hm
          rcases hm with hm | hm
          · omega
          · have := s.rA bl' (by simpa using hm)
            omega
        have D := Lib.hid (does_any (s.drew.pre h1) kind n Al l capl (hR.only (o.drew) (by simp)) hal hll)
        have D2 := Lib.hid (fun ob => does_any (((s.quiet ((Only.refl [] wr).alloc ob)).drew).pre h1) kind n Al l capl (hR.only ((o.alloc ob).drew) (by simp)) hal hll)
        have hnW : w2.heap.size ∉ w.heap.size :: A.toList := s.ring.boxNot s.box
        have hnS : bl ∉ w.heap.size :: A.toList := by
          simp only [List.mem_cons, Option.mem_toList, not_or]
          exact ⟨by omega, fun hm => by have := s.rA bl (by simpa using hm); omega⟩
        have hnX : wr.heap.size ∉ w.heap.size :: A.toList := by
          simp only [List.mem_cons, Option.mem_toList, not_or]
          exact ⟨by have := s.ring.lt; omega, fun hm => by have := s.ring.ltA _ (by simpa using hm); omega⟩
        have hblr : bl < wr.heap.size := Nat.lt_of_lt_of_le hbl o.size
        have hWr := s.box.lt
        have HSD := Lib.hid s
        have HO := Lib.hid o
        have HC := Lib.hid c
        have HR := Lib.hid hR
        have HNW := Lib.hid hnW
        have HNS := Lib.hid hnS
        have HNX := Lib.hid hnX
        clear s o c hR k0 k1 k2 hops hnW hnS hal hnX
        go_upto_region 12 with fail
        go_cut [12, 13] (fun x ok wx => Mid wr w.heap.size A room xs Aw x ok wx)
        case first =>
          have ne3 : wr.heap.size ≠ w2.heap.size := by omega
          have ne4 : wr.heap.size ≠ bl := by omega
          go_region_held3 (fun w' => w'.cell? ⟨w2.heap.size, 0, none⟩ = some (.int .i64 room) ∧ w'.cell? ⟨w2.heap.size, 1, none⟩ = some (.slice Aw xs.length cap) ∧ w'.cell? ⟨bl, off + i * 3, none⟩ = some (.int .i64 kind) ∧ w'.cell? ⟨bl, off + i * 3 + 1, none⟩ = some (.int .i64 n) ∧ w'.cell? ⟨bl, off + i * 3 + 2, none⟩ = some (.slice Al l.length capl)) (first | exact ⟨by assumption, by assumption, by assumption, by assumption, by assumption⟩ | go_keep)
            (first
              | (go_at_call 11; (with_reducible refine D.out.mono ?_); rintro e w3 ⟨xs', A', Aw', cap', rfl, hc1, hc2, r3, n3, o3, rd3, loc3⟩; have g0 : w3.cell? ⟨w2.heap.size, 0, none⟩ = some (.int .i64 room) := (HSD.out.drew.box.only o3 HNW.out).cell0 rfl; have g1 : w3.cell? ⟨w2.heap.size, 1, none⟩ = some (.slice Aw xs.length cap) := (HSD.out.drew.box.only o3 HNW.out).cell0 rfl; have g2 : w3.cell? ⟨bl, off + i * 3, none⟩ = some (.int .i64 kind) := (o3.cell (p := ⟨bl, off + i * 3, none⟩) hblr HNS.out).trans p0; have g3 : w3.cell? ⟨bl, off + i * 3 + 1, none⟩ = some (.int .i64 n) := (o3.cell (p := ⟨bl, off + i * 3 + 1, none⟩) hblr HNS.out).trans p1; have g4 : w3.cell? ⟨bl, off + i * 3 + 2, none⟩ = some (.slice Al l.length capl) := (o3.cell (p := ⟨bl, off + i * 3 + 2, none⟩) hblr HNS.out).trans p2; have ne1 : w3.heap.size ≠ w2.heap.size := (Nat.ne_of_lt (HSD.out.drew.box.only o3 HNW.out).lt).symm; have ne2 : w3.heap.size ≠ bl := (Nat.ne_of_lt (Nat.lt_of_lt_of_le hblr o3.size)).symm; have M1 := Lib.hid (Mid.after hc1 hc2 r3 n3 o3 rd3 loc3); clear r3 n3 o3 rd3 loc3)
              | (go_at_call 11; (with_reducible refine (D2.out _).mono ?_); rintro e w3 ⟨xs', A', Aw', cap', rfl, hc1, hc2, r3, n3, o3, rd3, loc3⟩; have hb3 := ((Bk.made wr 29 #[.int .i64 0, .slice none 0 0]).drew).only o3 HNX.out; have g0 : w3.cell? ⟨w2.heap.size, 0, none⟩ = some (.int .i64 room) := ((HSD.out.box.alloc _).drew.only o3 HNW.out).cell0 rfl; have g1 : w3.cell? ⟨w2.heap.size, 1, none⟩ = some (.slice Aw xs.length cap) := ((HSD.out.box.alloc _).drew.only o3 HNW.out).cell0 rfl; have g2 : w3.cell? ⟨bl, off + i * 3, none⟩ = some (.int .i64 kind) := (o3.cell (p := ⟨bl, off + i * 3, none⟩) (by simp; omega) HNS.out).trans ((World.cell?_alloc_lt wr _ ⟨bl, off + i * 3, none⟩ hblr).trans p0); have g3 : w3.cell? ⟨bl, off + i * 3 + 1, none⟩ = some (.int .i64 n) := (o3.cell (p := ⟨bl, off + i * 3 + 1, none⟩) (by simp; omega) HNS.out).trans ((World.cell?_alloc_lt wr _ ⟨bl, off + i * 3 + 1, none⟩ hblr).trans p1); have g4 : w3.cell? ⟨bl, off + i * 3 + 2, none⟩ = some (.slice Al l.length capl) := (o3.cell (p := ⟨bl, off + i * 3 + 2, none⟩) (by simp; omega) HNS.out).trans ((World.cell?_alloc_lt wr _ ⟨bl, off + i * 3 + 2, none⟩ hblr).trans p2); have x0 := hb3.cell0 (i := 0) rfl; have x1 := hb3.cell0 (i := 1) rfl; have y0 := hb3.free 0; have y1 := hb3.free 1; have M1 := Lib.hid (Mid.ahead HSD.out.ring.lt HSD.out.ring.ltA HSD.out.rd.lt hc1 hc2 r3 n3 o3 rd3 loc3 hb3); clear r3 n3 o3 rd3 loc3 hb3))
          all_goals (go_wp2_with fail; go_meet; exact M1.out)
        case rest =>
          clear q0 q1 p1 p2 D D2
          obtain ⟨X, xs', A', Aw', cap', rfl, rfl, hc1, hc2, r3, n3, o3, rd3, loc3, bX, hX⟩ := hcut
          have x0 := bX.cell0 (i := 0) rfl
          have x1 := bX.cell0 (i := 1) rfl
          have IS := Lib.hid (is_any Aw' cap' r3 rd3)
          have hbw := HSD.out.box.only o3 HNW.out
          have p0' : wc.cell? ⟨bl, off + i * 3, none⟩ = some (.int .i64 kind) := (o3.cell (p := ⟨bl, off + i * 3, none⟩) hblr HNS.out).trans p0
          have hneS : w2.heap.size ≠ bl := by have := HSD.out.bW; omega
          have HBW := Lib.hid hbw
          have HBX := Lib.hid bX
          have ST := Lib.hid (fun w4 o4 => St.stepR (w2 := w4) HSD.out HO.out HC.out r3 n3 o3 rd3 hc1 hc2 loc3 o4)
          have hsz3 := o3.size
          clear r3 n3 o3 rd3 loc3 bX hbw p0
          go_upto_if 69 with ((go_at_call 12; (with_reducible refine IS.out.mono ?_); rintro e w4 ⟨rfl, o4⟩; have p4 : w4.cell? ⟨bl, off + i * 3, none⟩ = some (.int .i64 kind) := (o4.cell (p := ⟨bl, off + i * 3, none⟩) (by show bl < _; omega) (by simp)).trans p0'; have y0 : w4.cell? ⟨X, 0, none⟩ = some (.int .i64 room) := (HBX.out.only o4 (by simp)).cell0 rfl; have y1 : w4.cell? ⟨X, 1, none⟩ = some (.slice Aw' xs'.length cap') := (HBX.out.only o4 (by simp)).cell0 rfl; have z0 : w4.cell? ⟨w2.heap.size, 0, none⟩ = some (.int .i64 room) := (HBW.out.only o4 (by simp)).cell0 rfl; have z1 : w4.cell? ⟨w2.heap.size, 1, none⟩ = some (.slice Aw xs.length cap) := (HBW.out.only o4 (by simp)).cell0 rfl; have f0 := (HBW.out.only o4 (by simp)).free 0; have f1 := (HBW.out.only o4 (by simp)).free 1; have S4 := Lib.hid (ST.out w4 o4); clear o4))
          go_cut [9] (fun vc wx => St w w.heap.size w2.heap.size (w2.heap.size + 1) room vc wx)
          case first =>
            clear IS HBW HBX ST HC HSD HO p0' x0 x1 y0 y1 z0 z1 f0 f1 p4
            have S5 := S4.out
            unfold put2 at S5
            generalize ((w4.setCell ⟨w2.heap.size, 0, none⟩ (Value.int .i64 room)).setCell ⟨w2.heap.size, 1, none⟩ (Value.slice Aw' xs'.length cap')) = w5 at *
            have HS5 := Lib.hid S5
            clear S5 S4
            by_cases hk : kind = 7
            · have hkb : (kind == 7) = true := by simp [hk]
              have HK := Lib.hid hk
              clear hk
              obtain ⟨A1, xs1, Aw1, cap1, s1, oo1, c1⟩ := HS5.out
              have hV : ∃ u v, Bk w5 (w2.heap.size + 1) 29 #[u, v] := by
                rcases c1 with ⟨_, h, _⟩ | ⟨b2, A2, ys, Av, capv, _, s2, t⟩
                · exact h
                · exact ⟨_, _, s2.box⟩
              obtain ⟨vu, vv, hV⟩ := hV
              have CP := Lib.hid (copy_yes s1.ring)
              have HB := Lib.hid s1.box
              have HV := Lib.hid hV
              have SC := Lib.hid (fun w6 b2 G a1 a2 r o => St.copied (w1 := w6) (b2 := b2) (G := G) s1 oo1 c1 a1 a2 r o)
              clear s1 oo1 c1 hV HS5
              go_wp2_with ((go_at_call 13; (with_reducible refine CP.out.mono ?_); rintro e w6 ⟨b2, G, rfl, a1, a2, r6, o6⟩; have y0 : w6.cell? ⟨w2.heap.size, 0, none⟩ = some (.int .i64 room) := (HB.out.only o6 (by simp)).cell0 rfl; have y1 : w6.cell? ⟨w2.heap.size, 1, none⟩ = some (.slice Aw1 xs1.length cap1) := (HB.out.only o6 (by simp)).cell0 rfl; have v0 : w6.cell? ⟨w2.heap.size + 1, 0, none⟩ = some vu := (HV.out.only o6 (by simp)).cell0 rfl; have v1 : w6.cell? ⟨w2.heap.size + 1, 1, none⟩ = some vv := (HV.out.only o6 (by simp)).cell0 rfl; have f0 := (HV.out.only o6 (by simp)).free 0; have f1 := (HV.out.only o6 (by simp)).free 1; have S6 := Lib.hid (SC.out w6 b2 G a1 a2 r6 o6); clear r6 o6))
              go_meet
              exact S6.out
            · have hkb : (kind == 7) = false := by simp [hk]
              clear hk
              go_wp2_with fail
              go_meet
              exact HS5.out
          case rest =>
            clear IS HBW HBX ST HC HSD HO p0' x0 x1 S4 y0 y1 z0 z1 f0 f1 p4
            have HST := Lib.hid hcut
            obtain ⟨A1, xs1, Aw1, cap1, s1, oo1, c1⟩ := hcut
            rcases c1 with ⟨rfl, _⟩ | ⟨b2, A2, ys, Av, capv, rfl, s2, t2⟩
            · clear s1 oo1
              go_wp2
              go_roundw
              case rel => exact ⟨i + 1, by go_num, by omega, HST.out⟩
              case measure => simp [intOf]; omega
            · by_cases h3 : (i : Int) % 3 = 0
              · have h3b : ((i : Int) % 3 == 0) = true := by simp [h3]
                have D3 := Lib.hid (does_any (s2.pre h1) (1 + (i : Int) % 2) i none [] 0 (Rd.nil _ _) (fun h => absurd rfl h) (by simp))
                have v0 := s2.box.cell0 (i := 0) rfl
                have v1 := s2.box.cell0 (i := 1) rfl
                have HS1 := Lib.hid s1
                have HS2 := Lib.hid s2
                have HO1 := Lib.hid oo1
                have HT := Lib.hid t2
                have hVn := s2.ring.boxNot s2.box
                have HVN := Lib.hid hVn
                clear s1 s2 oo1 t2 h3 HST hVn
                rw [List.length_nil] at D3
                go_wp2_with ((go_at_call 11; (with_reducible refine D3.out.mono ?_); rintro e w7 ⟨ys', A2', Av', capv', rfl, hd1, hd2, r7, n7, o7, rd7, loc7⟩; have oa := (Only.refl [] w7).alloc (.cells #[.int .i64 room, .slice Av' ys'.length capv'] 29); have hbv := (HS2.out.box.only o7 HVN.out); have hbv2 := hbv.alloc (.cells #[.int .i64 room, .slice Av' ys'.length capv'] 29); have z0 : ∀ o : Obj, (w7.alloc o).cell? ⟨w2.heap.size + 1, 0, none⟩ = some (.int .i64 room) := fun o => (hbv.alloc o).cell0 rfl; have z1 : ∀ o : Obj, (w7.alloc o).cell? ⟨w2.heap.size + 1, 1, none⟩ = some (.slice Av ys.length capv) := fun o => (hbv.alloc o).cell0 rfl; have f0 : ∀ o : Obj, (w7.alloc o).frozen? ⟨w2.heap.size + 1, 0, none⟩ = false := fun o => (hbv.alloc o).free 0; have f1 : ∀ o : Obj, (w7.alloc o).frozen? ⟨w2.heap.size + 1, 1, none⟩ = false := fun o => (hbv.alloc o).free 1; have hnv : w7.heap.size ≠ w2.heap.size + 1 := (Nat.ne_of_lt hbv.lt).symm; have S7 := Lib.hid (St.stepC HS1.out HO1.out HS2.out HT.out r7 n7 o7 rd7 hd1 hd2 loc7 oa); clear hbv hbv2 oa r7 n7 o7 rd7 loc7))
                go_roundw
                case rel => exact ⟨i + 1, by go_num, by omega, S7.out⟩
                case measure => simp [intOf]; omega
              · have h3b : ((i : Int) % 3 == 0) = false := by simp [h3]
                clear s1 s2 oo1 t2 h3
                go_wp2
                go_roundw
                case rel => exact ⟨i + 1, by go_num, by omega, HST.out⟩
                case measure => simp [intOf]; omega
    · obtain rfl : i = m := by omega
      have q0 := s.box.cell0 (i := 0) rfl
      have q1 := s.box.cell0 (i := 1) rfl
      have IS := Lib.hid (is_any Aw cap s.ring s.rd)
      have HO := Lib.hid o
      rcases c with ⟨rfl, _⟩ | ⟨b2, A2, ys, Av, capv, rfl, s2, t2⟩
      · clear s o
        go_wp2_with fail
        (with_reducible refine IS.out.mono ?_)
        rintro e w3 ⟨rfl, o3⟩
        have O3 := Lib.hid (HO.out.trans o3 (by simp))
        clear o3
        go_wp2_with fail
        (with_reducible refine (awake_any _).mono ?_)
        rintro e w4 ⟨rfl, o4⟩
        have O4 := Lib.hid (O3.out.trans o4 (by simp))
        clear o4
        go_wp2
        go_ret
        exact ⟨rfl, O4.out⟩
      · have HS2 := Lib.hid s2
        clear s o s2 t2
        go_wp2_with fail
        (with_reducible refine IS.out.mono ?_)
        rintro e w3 ⟨rfl, o3⟩
        have O3 := Lib.hid (HO.out.trans o3 (by simp))
        have s3 := HS2.out.quiet o3
        have v0 := s3.box.cell0 (i := 0) rfl
        have v1 := s3.box.cell0 (i := 1) rfl
        have IS2 := Lib.hid (is_any Av capv s3.ring s3.rd)
        clear o3 s3
        go_wp2_with fail
        (with_reducible refine IS2.out.mono ?_)
        rintro e w5 ⟨rfl, o5⟩
        have O5 := Lib.hid (O3.out.trans o5 (by simp))
        clear o5
        go_wp2_with fail
        (with_reducible refine (awake_any _).mono ?_)
        rintro e w4 ⟨rfl, o4⟩
        have O4 := Lib.hid (O5.out.trans o4 (by simp))
        clear o4
        go_wp2
        go_ret
        exact ⟨rfl, O4.out⟩

set_option maxHeartbeats 4000000 in
theorem plays_no (room : Int) (v : Value) (w : World) (hr : ¬ (1 ≤ room ∧ room ≤ 65536)) :
    Calls Try.prog 3 #[.int .i64 room, v] w fun e w' => e = .returned (.bool true) ∧ Only [] w w' := by
  have N1 := Lib.hid (new_no room hr w)
  have n2 := refNew_any room w
  rw [if_neg hr, if_neg hr] at n2
  have N2 := Lib.hid n2
  clear hr n2
  go_enter Try.func3, Try.ntmps3
  go_wp2_with fail
  (with_reducible refine N1.out.mono ?_)
  rintro e w1 ⟨rfl, rfl⟩
  go_wp2_with fail
  (with_reducible refine N2.out.mono ?_)
  rintro e w2 ⟨rfl, o2⟩
  have O2 := Lib.hid o2
  clear o2
  go_wp2_with fail
  (with_reducible refine (awake_any _).mono ?_)
  rintro e w3 ⟨rfl, o3⟩
  have O3 := Lib.hid o3
  clear o3
  go_wp2
  go_ret
  exact ⟨rfl, (O2.out.alloc _).trans O3.out (by simp)⟩

theorem plays_any (room : Int) (As : Option Addr) (m caps : Nat) (w : World) (hs : RdOps w As m) (hm : m ≤ 9223372036854775807) :
    Calls Try.prog 3 #[.int .i64 room, .slice As m caps] w fun e w' => e = .returned (.bool true) ∧ Only [] w w' := by
  by_cases hr : 1 ≤ room ∧ room ≤ 65536
  · obtain ⟨k, rfl⟩ := Int.eq_ofNat_of_zero_le (show 0 ≤ room by omega)
    exact plays_yes k As m caps w (by omega) (by omega) hs hm
  · exact plays_no room _ w hr

end Go.Proofs.Yteebkgclopffbaa
