/- marked on a window: a part of a row of the call's own, full. -/
import Derived.Test.YteebkgclopffbaaWin3
namespace Go.Proofs.Yteebkgclopffbaa
open Go.RowKit

theorem OwnL.lower {w : World} {base base' : Nat} {v : Value} {xs : List Int} (h : OwnL w base v xs) (hb : base' ≤ base) : OwnL w base' v xs := by
  obtain ⟨h1, h2⟩ := h
  refine ⟨h1, ?_⟩
  rcases h2 with h2 | ⟨g, cap, cur, rfl, hg, rest⟩
  · exact .inl h2
  · exact .inr ⟨g, cap, cur, rfl, Nat.le_trans hb hg, rest⟩

/-- append of one int onto a full part of a row: it moves away. -/
theorem wpList_appW (w : World) {ops : Array Oper} {rest : List Oper} {o : Oper} {a : Act} {Q : Exit → Act → World → Prop} (hgd : o.guard = none) (s x : Operand)
    (ho : o.op = .call { callee := .builtin .append, args := #[s, x], argTypes := #[27, 27] })
    (R off n : Nat) (hs : a.eval s = .slice (some ⟨R, off, none⟩) n n) (ys : List Int) (hn : n = ys.length) (hR : Rd w (some ⟨R, off, none⟩) ys) (g : Nat) (y : Int) (hx : a.eval x = .slice (some ⟨g, 0, none⟩) 1 1) (hc : Bk w g 3 (ics [y])) (hlen : ys.length ≤ 1000000000000)
    (h : ∀ v' w', OwnL w' w.heap.size v' (ys ++ [y]) → w.grownBy w' none → wpList Try.prog ops Q rest (a.put o.dst v') w') : wpList Try.prog ops Q (o :: rest) a w := by
  subst hn
  obtain ⟨i0, hi, hz0, hz1, hz2⟩ := info_parts int_info
  refine wpList_append_grows w hgd s x 27 ho 3 i0 (.int .i64 0) 1 8 Try.underlying27 hi hz0 hz1 hz2 rfl (by omega) (some ⟨R, off, none⟩) ys.length ys.length (ys.map (Value.int .i64)) hs (fun e => by cases e) (by simp) (fun b hb j u hu => ?_)
    ⟨g, 0, none⟩ 1 1 [.int .i64 y] hx (by simp) (fun j u hu => ?_) (by intro u hu; simp at hu; rw [hu]; rfl) (by omega) (by simp only [maxLen]; omega) (by omega) (fun v' w' h1 h2 => h v' w' ?_ h2)
  · injection hb with hb
    subst hb
    rcases hR with rfl | ⟨bl, off', e, _, hcell⟩
    · simp at hu
    · injection e with e
      rw [e, Go.WideShapes.add_plain]
      rw [List.getElem?_map] at hu
      cases hy : ys[j]? with
      | none => rw [hy] at hu; cases hu
      | some z =>
        rw [hy] at hu
        injection hu with hu
        subst hu
        exact hcell j z hy
  · cases j with
    | zero =>
      simp at hu
      subst hu
      exact hc.cell0 rfl
    | succ j => simp at hu
  · unfold OwnL
    rw [List.length_append, List.map_append]
    exact h1

/-- A row whose places off .. off + k - 1 are written over. -/
def over (xs : List Int) (off k : Nat) (x : Int) : List Int := xs.take off ++ (List.replicate k x ++ xs.drop (off + k))
theorem over_len {xs : List Int} {off k : Nat} {x : Int} (h : off + k ≤ xs.length) : (over xs off k x).length = xs.length := by simp [over]; omega
theorem over_zero (xs : List Int) (off : Nat) (x : Int) : over xs off 0 x = xs := by simp [over]
theorem over_at {xs : List Int} {off k : Nat} {x : Int} (h : off + k ≤ xs.length) (j : Nat) : (over xs off k x)[j]? = if off ≤ j ∧ j < off + k then some x else xs[j]? := by
  unfold over
  have hl : (xs.take off).length = off := by simp; omega
  by_cases h1 : j < off
  · rw [List.getElem?_append_left (by omega), if_neg (by omega), List.getElem?_take, if_pos h1]
  · rw [List.getElem?_append_right (by omega), hl]
    by_cases h2 : j < off + k
    · rw [List.getElem?_append_left (by simp; omega), if_pos (by omega), List.getElem?_replicate, if_pos (by omega)]
    · rw [List.getElem?_append_right (by simp; omega), if_neg (by omega), List.getElem?_drop, List.length_replicate]
      congr 1
      omega
theorem over_step {xs : List Int} {off k : Nat} {x : Int} (h : off + k < xs.length) : (over xs off k x).set (off + k) x = over xs off (k + 1) x := by
  apply List.ext_getElem?
  intro j
  rw [over_at (by omega)]
  by_cases e : off + k = j
  · subst e
    rw [List.getElem?_set_self (by rw [over_len (by omega)]; exact h), if_pos (by omega)]
  · rw [List.getElem?_set_ne e, over_at (by omega)]
    by_cases h1 : off ≤ j ∧ j < off + k
    · rw [if_pos h1, if_pos (by omega)]
    · rw [if_neg h1, if_neg (by omega)]

def N1 (w : World) (R off n : Nat) (xs : List Int) (x : Int) (vi : Value) (wr : World) : Prop :=
  ∃ k : Nat, vi = .int .i64 k ∧ k ≤ n ∧ Bk wr R 3 (ics (over xs off k x)) ∧ Only [R] w wr
def N2 (w : World) (R off n : Nat) (ys : List Int) (v vi : Value) (wr : World) : Prop :=
  ∃ k : Nat, vi = .int .i64 k ∧ k ≤ 20 ∧ Bk wr R 3 (ics ys) ∧ Only [R] w wr ∧ ((k = 0 ∧ v = .slice (some ⟨R, off, none⟩) n n) ∨ ∃ zs, zs.length = n + k ∧ OwnL wr w.heap.size v zs)

theorem N1.step {w wr : World} {R off n k : Nat} {xs : List Int} {x : Int} (hk : k < n) (hfit : off + n ≤ xs.length) (hb : Bk wr R 3 (ics (over xs off k x))) (o : Only [R] w wr) :
    N1 w R off n xs x (.int .i64 ((k : Int) + 1)) (wr.setCell ⟨R, off + k, none⟩ (.int .i64 x)) := by
  refine ⟨k + 1, by go_num, by omega, ?_, o.set (.inl (by simp)) _⟩
  have := hb.set (off + k) (.int .i64 x)
  rwa [ics_set, over_step (by omega)] at this
theorem N2.first {w wr w' : World} {R off n : Nat} {ys zs : List Int} {x : Int} {v' : Value} {obj : Obj} (hl : zs.length = n) (hb : Bk wr R 3 (ics ys)) (o : Only [R] w wr) (hown : OwnL w' (wr.alloc obj).heap.size v' (zs ++ [x])) (hg : (wr.alloc obj).grownBy w' none) :
    N2 w R off n ys v' (.int .i64 1) w' := by
  have og : Only [] (wr.alloc obj) w' := Only.of_grown hg
  have := o.size
  exact ⟨1, rfl, by omega, (hb.alloc obj).only og (by simp), (o.alloc obj).trans og (by simp), .inr ⟨_, by simp [hl], hown.lower (by simp; omega)⟩⟩
theorem N2.next {w wr w' : World} {R off n k : Nat} {ys zs : List Int} {x : Int} {v v' : Value} {obj : Obj} (hk : k < 20) (hRl : R < w.heap.size) (hl : zs.length = n + k) (hb : Bk wr R 3 (ics ys)) (o : Only [R] w wr) (hv : OwnL wr w.heap.size v zs) (hown : OwnL w' w.heap.size v' (zs ++ [x])) (hg : (wr.alloc obj).grownBy w' v.ownBlock) :
    N2 w R off n ys v' (.int .i64 ((k : Int) + 1)) w' := by
  have og : Only v.ownBlock.toList (wr.alloc obj) w' := Only.of_grown hg
  refine ⟨k + 1, by go_num, by omega, (hb.alloc obj).only og (fun hm => ?_), (o.alloc obj).trans og (fun g hm => .inr ?_), .inr ⟨_, by simp [hl]; omega, hown⟩⟩
  · have := (hv.blk R (by simpa using hm)).1
    omega
  · exact (hv.blk g (by simpa using hm)).1

set_option maxHeartbeats 2000000 in
theorem marked_win {w : World} {R off n : Nat} {xs : List Int} (hb : Bk w R 3 (ics xs)) (hfit : off + n ≤ xs.length) (hlen : xs.length ≤ 1000000000) (c : Nat) (hc : c ≤ 1000000000000) :
    Calls Try.prog 17 #[.slice (some ⟨R, off, none⟩) n n, .int .i64 c] w fun e w' => e = .returned (.tuple #[]) ∧ Bk w' R 3 (ics (over xs off n (-770000 - (c : Int)))) ∧ Only [R] w w' := by
  have hRl := hb.lt
  have HB := Lib.hid hb
  clear hb
  obtain ⟨x, hx⟩ : ∃ x : Int, x = -770000 - (c : Int) := ⟨_, rfl⟩
  rw [← hx]
  have HX := Lib.hid hx
  clear hx
  go_enter Try.func17, Try.ntmps17
  go_wp2_with fail
  go_loopw [4] (fun vi wr => N1 w R off n xs x vi wr) (fun vi _ => n - (intOf vi).toNat)
  case atStart => exact ⟨0, rfl, Nat.zero_le _, by rw [over_zero]; exact HB.out, Only.refl _ _⟩
  case round =>
    clear HB
    obtain ⟨k, rfl, hk, hb, o⟩ := hrel
    by_cases hlt : k < n
    · have hcell : ∃ z, wr.cell? ⟨R, off + k, none⟩ = some (.int .i64 z) := by
        have hl := over_len (xs := xs) (off := off) (k := k) (x := x) (by omega)
        exact ⟨_, hb.cell0 (ics_at (getElem?_getD (by omega)))⟩
      obtain ⟨z, hcell⟩ := hcell
      have hfr := hb.free (off + k)
      have NX := Lib.hid (N1.step hlt hfit hb o)
      clear hb o
      go_wp2
      go_roundw
      case rel => rw [← HX.out]; exact NX.out
      case measure => simp [intOf]; omega
    · obtain rfl : k = n := by omega
      have H2 := Lib.hid (show N2 w R off k (over xs off k x) (.slice (some ⟨R, off, none⟩) k k) (.int .i64 0) wr from ⟨0, rfl, by omega, hb, o, .inl ⟨rfl, rfl⟩⟩)
      have hol := over_len (x := x) hfit
      obtain ⟨ys, hys⟩ : ∃ ys, ys = over xs off k x := ⟨_, rfl⟩
      rw [← hys] at H2 hol
      have HYS := Lib.hid hys
      clear hb o hk hys
      go_wp2_with fail
      obtain ⟨wo, rfl⟩ : ∃ wo : World, wo = wr := ⟨_, rfl⟩
      go_loopw [0, 5] (fun v vi wr => N2 w R off k ys v vi wr) (fun _ vi _ => 20 - (intOf vi).toNat)
      case atStart => exact H2.out
      case round =>
        clear H2
        obtain ⟨j, rfl, hj, hb, o, hv⟩ := hrel
        obtain ⟨y, hy⟩ : ∃ y : Int, y = -880000 - (c : Int) := ⟨_, rfl⟩
        have HY := Lib.hid hy
        clear hy
        by_cases hlt : j < 20
        · rcases hv with ⟨rfl, rfl⟩ | ⟨zs, hl, hown⟩
          · have hzl : ((ys.drop off).take k).length = k := by simp; omega
            have hRd : Rd wr (some ⟨R, off, none⟩) ((ys.drop off).take k) := .inr ⟨R, off, rfl, hb.lt, fun t v ht => by
              rw [List.getElem?_take] at ht
              by_cases h : t < k
              · rw [if_pos h, List.getElem?_drop] at ht
                exact hb.cell0 (ics_at ht)
              · rw [if_neg h] at ht
                cases ht⟩
            generalize (ys.drop off).take k = zs at *
            have NX := Lib.hid (fun v' w' obj a b => N2.first (x := y) (v' := v') (w' := w') (obj := obj) (off := off) hzl hb o a b)
            have HRD := Lib.hid hRd
            have HZ := Lib.hid hzl
            clear hb o hRd hzl
            go_wp2_with ((at_builtin; refine wpList_appW _ (by rfl) (.tmp 21) (.tmp 24) (by rfl) R off k (by rfl) zs HZ.out.symm (HRD.out.only ((Only.refl [] _).alloc _) (by simp)) wr.heap.size y (by rfl) (by rw [HY.out]; exact Bk.made wr 3 (ics [_])) (by rw [HZ.out]; omega) ?_; intro v' w1 hown1 hg1; have N3 := Lib.hid (NX.out v' w1 _ hown1 hg1); clear hown1 hg1))
            go_roundw
            case rel => exact N3.out
            case measure => simp [intOf]; try omega
          · have NX := Lib.hid (fun v' w' obj a b => N2.next (x := y) (v' := v') (w' := w') (obj := obj) (off := off) hlt hRl hl hb o hown a b)
            have HOWN := Lib.hid hown
            have HL := Lib.hid hl
            have hsz := o.size
            clear hb o hown hl
            go_wp2_with ((at_builtin; refine wpList_app _ (by rfl) (.tmp 21) (.tmp 24) (by rfl) (by rfl) (HOWN.out.alloc _) (some ⟨wr.heap.size, 0, none⟩) [y] 1 1 (by rfl) rfl (by rw [HY.out]; exact Rd.of_bk (Bk.made wr 3 (ics [_]))) (by simp; omega) (by rw [HL.out]; simp; omega) ?_; intro v' w1 hown1 hg1 _; have N3 := Lib.hid (NX.out v' w1 _ hown1 hg1); clear hown1 hg1))
            go_roundw
            case rel => exact N3.out
            case measure => simp [intOf]; omega
        · have HB := Lib.hid hb
          have HO := Lib.hid o
          clear hb o hv
          go_wp2
          go_end0
          exact ⟨rfl, by rw [← HYS.out]; exact HB.out, HO.out⟩

end Go.Proofs.Yteebkgclopffbaa
