/- ring.Windows. -/
import Derived.Test.YteebkgclopffbaaWin
namespace Go.Proofs.Yteebkgclopffbaa
open Go.RowKit

/-- copy over a row of the call's own that was made last. -/
theorem wpList_copyI {w : World} {ops : Array Oper} {rest : List Oper} {o : Oper} {a : Act} {Q : Exit → Act → World → Prop} (hgd : o.guard = none) (d s : Operand)
    (ho : o.op = .call { callee := .builtin .copy, args := #[d, s], argTypes := #[27, 27] }) (G : Nat) (B : Option Addr) (ys zs : List Int) (m cap : Nat) (hd : a.eval d = .slice (some ⟨G, 0, none⟩) m m) (hs : a.eval s = .slice B m cap)
    (hG : Bk w G 3 (ics zs)) (hsz : w.heap.size = G + 1) (hm : m = ys.length) (hz : zs.length = ys.length) (hR : Rd w B ys)
    (h : ∀ w', Bk w' G 3 (ics ys) → Only [G] w w' → wpList Try.prog ops Q rest (a.put o.dst (goInt m)) w') : wpList Try.prog ops Q (o :: rest) a w := by
  subst hm
  have hll : ∀ l : List Int, (l.map (Value.int .i64)).length = l.length := fun l => by simp
  refine wpList_copy_splice hgd d s 27 27 ho 3 Try.underlying27 (by kernel_rfl) (some ⟨G, 0, none⟩) B ys.length ys.length ys.length cap hd hs G 0 (zs.map (Value.int .i64)) 3 hG (ys.map (Value.int .i64)) (by simp) (fun hp => ?_) (by simp; omega)
    (by intro u hu; obtain ⟨n, _, rfl⟩ := List.mem_map.1 hu; rfl) G w (Below.refl _ _) (Nat.le_refl _) ?_
  · refine ⟨rfl, ?_⟩
    rcases hR with rfl | ⟨bl, off, rfl, _, hc⟩
    · simp at hp
    · refine ⟨_, rfl, fun j v hj => ?_⟩
      rw [List.getElem?_map] at hj
      rw [Go.WideShapes.add_plain]
      cases hy : ys[j]? with
      | none => rw [hy] at hj; cases hj
      | some y =>
        rw [hy] at hj
        injection hj with hj
        subst hj
        exact hc j y hy
  · intro w' hg hb
    have e : splice (zs.map (Value.int .i64)) 0 (ys.map (Value.int .i64)) = ys.map (Value.int .i64) := by
      unfold splice
      rw [List.take_zero, List.nil_append, List.drop_of_length_le (by simp; omega), List.append_nil]
    have hg' := hg.out
    rw [e] at hg'
    have := h w' hg' ⟨hb.os, hb.tape, hb.output, hb.size, fun k hk hn => hb.block k (by simp at hn; omega)⟩
    rw [hll]
    exact this

/-- What holds at the head of Windows' loop: R is the copy. -/
def WRel (w : World) (R room : Nat) (l : List Int) (vrest vparts : Value) (wr : World) : Prop :=
  ∃ k o A, o ≤ l.length ∧ vrest = .slice A (l.length - o) (l.length - o) ∧ (o < l.length → A = some ⟨R, o, none⟩ ∧ o = k * room) ∧ k * room < l.length + room ∧ (o = l.length → l.length ≤ k * room) ∧
    OwnV wr w.heap.size vparts (wins R room l.length k) ∧ Bk wr R 3 (ics l) ∧ Only [] w wr
theorem WRel.start {w wr : World} {R room : Nat} {l : List Int} (h1 : 1 ≤ room) (hb : Bk wr R 3 (ics l)) (ho : Only [] w wr) : WRel w R room l (.slice (some ⟨R, 0, none⟩) l.length l.length) (.slice none 0 0) wr :=
  ⟨0, 0, _, Nat.zero_le _, rfl, fun _ => ⟨rfl, by simp⟩, by simp; omega, fun h => by omega, OwnV.nil _ _, hb, ho⟩
theorem WRel.step {w wr w' : World} {R room k m : Nat} {l : List Int} {v v' : Value} {obj : Obj} (hlt : k * room < l.length) (hm1 : m ≤ room) (hm2 : m ≤ l.length - k * room) (hm3 : m = room ∨ m = l.length - k * room) (hb : Bk wr R 3 (ics l)) (ho : Only [] w wr)
    (hv : OwnV wr w.heap.size v (wins R room l.length k)) (hown : OwnV w' w.heap.size v' (wins R room l.length k ++ [.slice (some ⟨R, k * room, none⟩) m m])) (hg : (wr.alloc obj).grownBy w' v.ownBlock) :
    WRel w R room l (.slice (some ⟨R, if l.length - k * room = m then k * room else k * room + m, none⟩) (l.length - k * room - m) (l.length - k * room - m)) v' w' := by
  have hmin : min room (l.length - k * room) = m := by omega
  have e : (k + 1) * room = k * room + room := by rw [Nat.add_mul, Nat.one_mul]
  obtain ⟨A0, cap0, e0, _, _, hf⟩ := hv.form
  have hR : v.ownBlock.toList = [] ∨ ∃ g, v.ownBlock = some g ∧ w.heap.size ≤ g ∧ g ≠ R := by
    rcases hf with ⟨rfl, _⟩ | ⟨g, cur, rfl, hg0, hbg, hob, _⟩
    · left
      rw [e0]
      simp [Value.ownBlock]
    · exact .inr ⟨g, hob, hg0, hbg.apart hb (by decide)⟩
  have og : Only v.ownBlock.toList (wr.alloc obj) w' := Only.of_grown hg
  refine ⟨k + 1, k * room + m, some ⟨R, if l.length - k * room = m then k * room else k * room + m, none⟩, by omega, ?_, fun h => ?_, by omega, fun h => by omega, ?_, ?_, ?_⟩
  · rw [Nat.sub_sub]
  · rw [if_neg (by omega)]
    exact ⟨rfl, by omega⟩
  · rw [wins_succ]
    unfold win
    rw [hmin]
    exact hown
  · refine (hb.alloc obj).only og ?_
    rcases hR with h | ⟨g, h, _, h2⟩
    · rw [h]; simp
    · rw [h]; simp; exact fun e => h2 e.symm
  · refine (ho.alloc obj).trans og (fun i hi => ?_)
    rcases hR with h | ⟨g, h, h2, _⟩
    · rw [h] at hi; simp at hi
    · rw [h] at hi
      have : i = g := by simpa using hi
      subst this
      exact .inr h2

/-- A list cut into windows that lie behind one another in one row. -/
def Cuts (w : World) (room : Nat) (l : List Int) (e : Ending) (w' : World) : Prop :=
  ∃ R K P cap, e = .returned (.tuple #[.slice P K cap, .int .i64 0]) ∧ K * room < l.length + room ∧ l.length ≤ K * room ∧ OwnV w' w.heap.size (.slice P K cap) (wins R room l.length K) ∧ Bk w' R 3 (ics l) ∧ w.heap.size ≤ R ∧ Only [] w w'

def lenOf : Value → Nat
  | .slice _ n _ => n
  | _ => 0

theorem windows_no (room : Int) (v : Value) (h : ¬ (1 ≤ room ∧ room ≤ 65536)) (w : World) :
    Calls Try.prog 14 #[v, .int .i64 room] w fun e w' => e = .returned (.tuple #[.slice none 0 0, .int .i64 1]) ∧ w = w' := by
  have hd : decide (1 ≤ room ∧ room ≤ 65536) = false := decide_eq_false h
  have MB := Lib.hid (mayBe_any room w)
  rw [hd] at MB
  clear hd
  go_enter Try.func14, Try.ntmps14
  go_wp2_with (first
    | (go_at_call 27; (with_reducible refine MB.out.mono ?_); rintro e w' ⟨rfl, rfl⟩))
  go_ret2
  exact ⟨rfl, rfl⟩

set_option maxHeartbeats 2000000 in
theorem windows_yes (room : Nat) (A : Option Addr) (l : List Int) (cap : Nat) (h1 : 1 ≤ room) (h2 : room ≤ 65536) (w : World) (hl : Rd w A l) (hlen : l.length ≤ 1000000000) :
    Calls Try.prog 14 #[.slice A l.length cap, .int .i64 room] w (Cuts w room l) := by
  have hd : decide (1 ≤ (room : Int) ∧ (room : Int) ≤ 65536) = true := decide_eq_true (by omega)
  have MB := Lib.hid (mayBe_any room w)
  rw [hd] at MB
  clear hd
  have hmk := run_make_row' (P := Try.prog) 27 3 (.int .i64 0) 8 Try.underlying27 int_info rfl .i64 .i64 l.length (by omega) (by omega)
  have HL := Lib.hid hl
  clear hl
  go_enter Try.func14, Try.ntmps14
  go_wp2_with (first
    | (go_at_call 27; (with_reducible refine MB.out.mono ?_); rintro e w' ⟨rfl, rfl⟩)
    | (refine wpList_copyI (by rfl) (.tmp 15) (.tmp 16) (by rfl) w.heap.size A l (List.replicate l.length 0) l.length cap (by rfl) (by rfl) (by rw [← made_ics]; exact Bk.made _ _ _) (by simp) rfl (by simp) (HL.out.only ((Only.refl [] _).alloc _) (by simp)) ?_; intro w1 hb1 o1; have H1 := Lib.hid (WRel.start (w := w) (room := room) h1 hb1 (((Only.refl [] w).alloc _).trans o1 (by simp))); clear hb1 o1))
  clear hmk MB
  go_loopw [6, 7] (fun vr vp wr => WRel w w.heap.size room l vr vp wr) (fun vr _ _ => lenOf vr)
  case atStart => exact H1.out
  case round =>
    clear H1 HL
    obtain ⟨k, o, A', hol, rfl, hA, hk, hend, hv, hb, oo⟩ := hrel
    by_cases hlt : o < l.length
    · obtain ⟨rfl, rfl⟩ := hA hlt
      have hsz := oo.size
      have hkl : k ≤ 1000000000 := Nat.le_trans (Nat.le_mul_of_pos_right k h1) (by omega)
      have ho : (Value.slice (some ⟨w.heap.size, k * room, none⟩) 0 0).oneCell' = true := rfl
      obtain ⟨n, hn⟩ : ∃ n, n = l.length - k * room := ⟨_, rfl⟩
      obtain ⟨m, hm, hmc⟩ : ∃ m : Nat, m = min room n ∧ ((room ≤ n ∧ m = room) ∨ (n < room ∧ m = n)) := ⟨_, rfl, by omega⟩
      have hm1 : 1 ≤ m := by omega
      have hmn : m ≤ n := by omega
      have e1 := cut_hm w.heap.size (k * room) n m (m : Int) rfl hm1 hmn
      have e2 := cut_l w.heap.size (k * room) n m (m : Int) rfl hm1 hmn
      have ST := Lib.hid (fun v' w' obj a b => WRel.step (v' := v') (w' := w') (obj := obj) (m := m) hlt (by omega) (by omega) (by omega) hb oo hv a b)
      rw [← hn] at ST ⊢
      have HV := Lib.hid hv
      have hwl := wins_len w.heap.size room l.length k
      have HN := Lib.hid hn
      have HM := Lib.hid hm
      clear hA hend hv hb oo hn hm hol hk
      rcases hmc with ⟨h3, rfl⟩ | ⟨h3, rfl⟩
      all_goals
        go_wp2_with ((at_builtin; refine wpList_appV _ (by rfl) (.tmp 25) (.tmp 30) (by rfl) (by rfl) (HV.out.alloc _) wr.heap.size _ (by rfl) (Bk.made _ _ _) (by rfl) (by simp; omega) (by rw [hwl]; omega) ?_; intro v' w1 hown1 hg1 _; have N1 := Lib.hid (ST.out v' w1 _ hown1 hg1); clear hown1 hg1))
        go_roundw
        case rel => first | exact N1.out | (have := N1.out; simpa using this)
        case measure => simp [lenOf]; omega
    · obtain rfl : o = l.length := by omega
      obtain ⟨P, cp, rfl, _, _, _⟩ := hv.form
      have HC := Lib.hid (show Cuts w room l (.returned (.tuple #[.slice P (wins w.heap.size room l.length k).length cp, .int .i64 0])) wr from ⟨w.heap.size, k, P, cp, by rw [wins_len], hk, hend rfl, by rw [wins_len] at hv; exact hv, hb, Nat.le_refl _, oo⟩)
      clear hA hv hb oo hk hend
      rw [Nat.sub_self]
      generalize (wins w.heap.size room l.length k).length = kk at *
      go_wp2
      go_ret2
      exact HC.out

end Go.Proofs.Yteebkgclopffbaa
