/- text: the tokens of a text, as an iterator that stops. -/
import Derived.Test.YtlilfmpikampgaaGreatDoorPMc
import Derived.RangeFuncNested
import Derived.RangeFuncBound
import Derived.RangeFuncCalls
import Derived.RangeFuncLeaves
import Derived.RangeFuncFrom
import Derived.RangeFuncWrites
import Derived.Shelf.Abstract
import Derived.Shelf.RegionOpen
import Derived.OwnWalkIn
import Derived.TacticsInMore
import Derived.LoopNIn
import Derived.LoopIn
namespace Go.Proofs.YtlilfmpikampgaaGreatDoor
open Go.RowKit Go.Shelf
attribute [local go_sem] Oper.semAt_some

abbrev Pos (s : ByteArray) := { j : Nat // j < s.size }
abbrev encT (s : ByteArray) (x : Pos s) : Array Value := #[.int .i64 (x.1 : Int), .string (s.extract x.1 (fin s x.1))]
/-- What a round keeps: walks, and the text's cell. -/
def KpT (sb : Nat) (W W' : World) : Prop := KeepsWalks W W' ∧ (sb < W.heap.size → W'.cell? ⟨sb, 0, none⟩ = W.cell? ⟨sb, 0, none⟩ ∧ sb < W'.heap.size)
theorem cell_lt {w : World} {p : Addr} {v : Value} (h : w.cell? p = some v) : p.block < w.heap.size := by
  by_cases hp : p.block < w.heap.size
  · exact hp
  · unfold World.cell? at h
    rw [Array.getElem?_eq_none (by omega)] at h
    simp at h
theorem grown_of_only {w w' : World} (o : Only [] w w') : w.grownBy w' none := ⟨o.os, o.tape, o.output, o.size, fun k hk _ => o.block k hk (by simp)⟩
theorem grown_iterAt (w : World) (k : Nat) (s : ByteArray) (pos : Nat) : w.grownBy (w.iterAt k s pos) (some k) :=
  ⟨rfl, rfl, rfl, by rw [Lib.iterAt_size]; exact Nat.le_refl _, fun j _ hj => Lib.iterAt_other w k j s pos (fun e => hj (by rw [e]))⟩
theorem below_of_only {n₀ : Nat} {w w' : World} (o : Only [] w w') (h : n₀ ≤ w.heap.size) : Below n₀ w w' := o.below.mono h

theorem width_at (s : ByteArray) (pos k : Nat) (w : World) (hs : s.size ≤ 262144) (hp : pos < s.size) (hk : wid ((lst s).drop pos) = k) :
    Calls Tryz.prog 97 #[.string (s.extract pos s.size), .int .i32 (Utf8.decode s pos).1] w fun e w' => e = .returned (.int .i64 k) ∧ Only [] w w' := by
  have hl : lst (s.extract pos s.size) = s[pos]'hp :: (lst s).drop (pos + 1) := by
    rw [lst_from, List.drop_eq_getElem_cons (by rw [lst_len]; exact hp)]
    rfl
  exact (width_any (s.extract pos s.size) _ _ _ w (by rw [ext_size]; omega) hl (runeOf_dec s hp)).mono fun _ _ ⟨he, ho⟩ => ⟨by rw [he, lst_from, hk], ho⟩

set_option maxRecDepth 100000 in
set_option maxHeartbeats 4000000 in
theorem tokens_in (s : ByteArray) (hs : s.size ≤ 262144) (n l sb : Nat) (hn : 1 ≤ n) (J Jx : List (Pos s) → World → Prop) (W : World) (hJ : AbidesFrom W.heap.size J)
    (hY : ∀ pre x W1, J pre W1 → pre.length < s.size → YieldAt Fence.wide (n - 1) Tryz.prog l (encT s x) W1 fun e W' =>
      (e = .returned (.bool true) ∧ J (pre ++ [x]) W' ∧ KpT sb W1 W') ∨ (e = .returned (.bool false) ∧ Jx (pre ++ [x]) W'))
    (hc : W.cell? ⟨sb, 0, none⟩ = some (.string s)) (h0 : J [] W) :
    CallsIn Fence.wide n Tryz.prog 95 #[.func (.yield l) #[] #[], .pointer (some ⟨sb, 0, none⟩)] W fun e W' => (∃ v, e = .returned v) ∧
      ((∃ ys : List (Pos s), ys.map (·.1) = ptk s 0 0 ∧ J ys W') ∨ (∃ pre : List (Pos s), (∃ rest, ptk s 0 0 = pre.map (·.1) ++ rest) ∧ Jx pre W')) := by
  refine callsIn_of_wp Tryz.func95 rfl trivial ?_ rfl
  simp only [Tryz.ntmps95, List.size_toArray, List.length_cons, List.length_nil, Nat.reduceAdd, Nat.reduceSub, Array.replicate_succ, Array.replicate_zero, List.push_toArray, List.append_toArray, List.nil_append, List.cons_append]
  gi_wp2
  gi_loopw [3] (fun ev wr => ∃ (pos e : Nat) (pre : List (Pos s)), ev = .int .i64 e ∧ e ≤ s.size ∧ pre.length ≤ pos ∧ pre.map (·.1) ++ ptk s pos e = ptk s 0 0 ∧ wr.heap[W.heap.size]? = some (.stringIter s pos) ∧ J pre wr ∧ wr.cell? ⟨sb, 0, none⟩ = some (.string s)) (fun _ wr => s.size - wr.iterPos W.heap.size)
  case atStart =>
    refine ⟨0, 0, [], rfl, Nat.zero_le _, Nat.le_refl _, rfl, World.iter_heap W s 0, ?_, ?_⟩
    · exact hJ _ _ _ none h0 (World.grownBy_alloc W _ none) (fun r e => by cases e)
    · exact (((Only.refl [] W).alloc _).cell (p := ⟨sb, 0, none⟩) (cell_lt hc) (by simp)).trans hc
  case round =>
    obtain ⟨pos, e, pre, rfl, he, hpl, hpt, hit, hj, hb⟩ := hrel
    by_cases hp : pos < s.size
    · have hnx : ∀ ty, (Instr.next (.pointer (some ⟨W.heap.size, 0, none⟩)) true ty).run Tryz.prog wr = _ := fun ty => Lib.run_next_any_at wr W.heap.size s pos ty hit hp
      have hit2 := Lib.hid (Lib.iterAt_heap wr W.heap.size s pos (pos + (Utf8.decode s pos).2) hit)
      have hj2 := Lib.hid (hJ _ _ _ (some W.heap.size) hj (grown_iterAt wr W.heap.size s (pos + (Utf8.decode s pos).2)) (fun r e => by cases e; exact ⟨Nat.le_refl _, _, hit, rfl⟩))
      have hb2 := Lib.hid (show (wr.iterAt W.heap.size s (pos + (Utf8.decode s pos).2)).cell? ⟨sb, 0, none⟩ = some (.string s) from (World.cell?_of_block (Lib.iterAt_other wr W.heap.size sb s _ (by have := cell_lt hc; simp only at this; omega))).trans hb)
      have Hit := Lib.hid hit
      have Hpt := Lib.hid hpt
      clear hit hj hb hpt
      have hd := dec_pos s hp
      have hdl := decode_le s pos
      by_cases hlt : pos < e
      · -- within the token that was told
        have hskip := Lib.hid (show pre.map (·.1) ++ ptk s (pos + (Utf8.decode s pos).2) e = ptk s 0 0 by
          rw [← Hpt.out, ptk_in e hp, if_pos (.inl hlt)])
        have hlt' : ¬ e ≤ pos := by omega
        gi_wp2_with fail
        refine ⟨trivial, ?_⟩
        gi_wp2_with fail
        go_roundw
        case rel => exact ⟨_, e, pre, rfl, he, by omega, hskip.out, hit2.out, hj2.out, hb2.out⟩
        case measure =>
          have h1 := hit2.out
          have h2 := Hit.out
          simp only [World.iterPos, h1, h2]
          omega
      · have hge : e ≤ pos := by omega
        gi_wp2_with fail
        refine ⟨trivial, ?_⟩
        refine (callsIn_wide.2 (is_blank _ _)).mono ?_
        rintro e' w' ⟨rfl, rfl⟩
        cases hbl : blR (Utf8.decode s pos).1 with
        | true =>
          have hskip := Lib.hid (show pre.map (·.1) ++ ptk s (pos + (Utf8.decode s pos).2) e = ptk s 0 0 by
            rw [← Hpt.out, ptk_in e hp, if_pos (.inr hbl)])
          gi_wp2_with fail
          go_roundw
          case rel => exact ⟨_, e, pre, rfl, he, by omega, hskip.out, hit2.out, hj2.out, hb2.out⟩
          case measure =>
            have h1 := hit2.out
            have h2 := Hit.out
            simp only [World.iterPos, h1, h2]
            omega
        | false =>
          have hskip := Lib.hid (show pre.map (·.1) ++ pos :: ptk s (pos + (Utf8.decode s pos).2) (fin s pos) = ptk s 0 0 by
            rw [← Hpt.out, ptk_in e hp, if_neg (by rintro (h | h); exact hlt h; rw [hbl] at h; cases h)])
          have hcs := hb2.out
          obtain ⟨k, hk⟩ : ∃ k, wid ((lst s).drop pos) = k := ⟨_, rfl⟩
          have hfb := fin_bd hp
          have hfin : fin s pos = pos + k := by unfold fin; rw [hk]
          have HK := Lib.hid hk
          have Hfin := Lib.hid hfin
          have hkb : pos + k ≤ s.size := by omega
          have hk1 : 1 ≤ k := by omega
          clear hk hfin hfb
          gi_wp2_with fail
          refine ⟨trivial, ?_⟩
          refine (callsIn_wide.2 (width_at s pos k _ hs hp HK.out)).mono ?_
          rintro e' w2 ⟨rfl, o2⟩
          have hit3 := Lib.hid ((o2.block W.heap.size (Array.getElem?_eq_some_iff.1 hit2.out).1 (by simp)).trans hit2.out)
          have hj3 := hJ _ _ _ none hj2.out (grown_of_only o2) (fun r e => by cases e)
          have hb3 := Lib.hid ((o2.cell (p := ⟨sb, 0, none⟩) (cell_lt hb2.out) (by simp)).trans hb2.out)
          have hcs2 := hb3.out
          obtain ⟨fn, tmps, assign, body, hy, hR⟩ := hY pre ⟨pos, hp⟩ w2 hj3 (by omega)
          have HR := Lib.hid hR
          dsimp only [encT] at hy
          rw [Hfin.out] at hy
          clear o2 hcs hj3 hR
          gi_wp2_with fail
          refine HR.out.mono ?_
          rintro e' W3 (⟨rfl, hJ3, hk3, hk4⟩ | ⟨rfl, hJx3⟩)
          · have hit4 := Lib.hid (hk3.same _ _ hit3.out rfl)
            have hJ4 := Lib.hid hJ3
            have hb4 := Lib.hid ((hk4 (cell_lt hb3.out)).1.trans hb3.out)
            clear hk3 hk4 hJ3 hy
            gi_wp2_with fail
            go_roundw
            case rel =>
              refine ⟨pos + (Utf8.decode s pos).2, pos + k, pre ++ [⟨pos, hp⟩], by go_num, hkb, by simp; omega, ?_, hit4.out, hJ4.out, hb4.out⟩
              rw [← hskip.out, Hfin.out]
              simp
            case measure =>
              have h1 := hit4.out
              have h2 := Hit.out
              simp only [World.iterPos, h1, h2]
              omega
          · have hx := Lib.hid hJx3
            clear hJx3 hy
            gi_wp2_with fail
            refine bodyPost_ret (results_none rfl _ _ _) rfl ?_
            refine ⟨⟨_, rfl⟩, .inr ⟨_, ⟨ptk s (pos + (Utf8.decode s pos).2) (fin s pos), ?_⟩, hx.out⟩⟩
            rw [← hskip.out]
            simp
    · have hnx : ∀ ty, (Instr.next (.pointer (some ⟨W.heap.size, 0, none⟩)) true ty).run Tryz.prog wr = _ := fun ty => Lib.run_next_end_at wr W.heap.size s pos ty hit hp
      rw [ptk_end hp, List.append_nil] at hpt
      have Hj := Lib.hid hj
      have Hpt := Lib.hid hpt
      clear hit hj hb hpt
      gi_wp2_with fail
      go_end0
      exact ⟨⟨_, rfl⟩, .inl ⟨pre, Hpt.out, Hj.out⟩⟩
theorem tokens_any (s : ByteArray) (w : World) : CallsIn Fence.wide 9 Tryz.prog 84 #[.string s] w fun e w' => e = .returned (.func (.func 95) #[] #[.pointer (some ⟨w.heap.size, 0, none⟩)]) ∧ w' = w.alloc (.cells #[.string s] 9) := by
  refine callsIn_of_wp Tryz.func84 rfl trivial ?_ rfl
  simp only [Tryz.ntmps84, List.size_toArray, List.length_cons, List.length_nil, Nat.reduceAdd, Nat.reduceSub, Array.replicate_succ, Array.replicate_zero, List.push_toArray, List.append_toArray, List.nil_append, List.cons_append]
  gi_wp2
  go_ret
  exact ⟨rfl, rfl⟩
/-- The iterator's contract. -/
theorem tokens_stops (s : ByteArray) (hs : s.size ≤ 262144) (n sb : Nat) (hn : 1 ≤ n) (w : World) (hc : w.cell? ⟨sb, 0, none⟩ = some (.string s)) :
    SeqStopsK Fence.wide n Tryz.prog 95 #[.pointer (some ⟨sb, 0, none⟩)] (encT s) (KpT sb) (fun ys => ys.map (·.1) = ptk s 0 0) (fun pre => ∃ rest, ptk s 0 0 = pre.map (·.1) ++ rest) s.size w :=
  fun l J Jx W hW hJ _ hY h0 => tokens_in s hs n l sb hn J Jx W hJ hY ((hW.cell (p := ⟨sb, 0, none⟩) (cell_lt hc)).trans hc) h0
theorem kpT_t {sb : Nat} {A B C : World} (h : KpT sb A B) (k : KpT sb B C) : KpT sb A C := ⟨h.1.trans k.1, fun hs => ⟨((k.2 (h.2 hs).2).1).trans (h.2 hs).1, (k.2 (h.2 hs).2).2⟩⟩
theorem kpT_b {sb : Nat} {w : World} (hn : sb < w.heap.size) (W : World) (l : Nat) (o o' : Obj) (hl : w.heap.size ≤ l) (h : W.heap[l]? = some o) (h1 : o.isCells = false) (h2 : o.isWalk = false) : KpT sb W (W.putObj l o') :=
  ⟨walksK_b W l o o' hl h h1 h2, fun hs => by
    have hb : Below (sb + 1) W (W.putObj l o') := belowK_b (w := w) (n₀ := sb + 1) hn W l o o' hl h h1 h2
    exact ⟨hb.cell (p := ⟨sb, 0, none⟩) (Nat.lt_succ_self sb), Nat.lt_of_lt_of_le hs hb.size⟩⟩
end Go.Proofs.YtlilfmpikampgaaGreatDoor
