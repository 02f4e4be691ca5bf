/- Is, NameOf, Where, Free of the program's table; of none at all. -/
import Derived.Test.YtlidnlcmnkagaaaJ3
namespace Go.Proofs.Ytlidnlcmnkagaaa
open Go.RowKit
set_option maxRecDepth 20000

set_option maxHeartbeats 2000000 in
theorem find_nil (p : Pd) (w : World) : Calls Try.prog 41 #[.pointer none, .agg p.cs] w fun e w' => e = .returned (.pointer none) ∧ Only [] w w' := by
  have KG : Hid (∀ n, Calls Try.prog 36 #[.pointer none] ((w.alloc (.cells p.cs 38)).drewN n) fun e w' => e = .returned (.bool false) ∧ (w.alloc (.cells p.cs 38)).drewN n = w') := Lib.hid (fun n => given_nil _)
  have O : Hid (∀ n, Only [] w ((w.alloc (.cells p.cs 38)).drewN n)) := Lib.hid (fun n => ((Only.refl [] w).alloc _).drewN n)
  go_enter Try.func41, Try.ntmps41
  go_wp2_with fail
  go_quiet ((go_at_call 36; exact quietS (KG.out _)))
  go_wp2
  go_ret
  exact ⟨rfl, O.out _⟩
set_option maxHeartbeats 1000000 in
theorem is_nil (p : Pd) (w : World) : Calls Try.prog 21 #[.pointer none, .agg p.cs] w fun e w' => e = .returned (.bool false) ∧ Only [] w w' := by
  have K := Lib.hid (find_nil p (w.alloc (.cells p.cs 38)))
  have c := (Bk.made w 38 p.cs).pid
  obtain ⟨c0, c1⟩ := c
  have O := Lib.hid ((Only.refl [] w).alloc (.cells p.cs 38))
  go_enter Try.func21, Try.ntmps21
  go_wp2_with fail
  (with_reducible refine K.out.mono ?_)
  rintro e w1 ⟨rfl, o1⟩
  go_wp2_with fail
  go_ret
  exact ⟨rfl, O.out.trans o1 (by simp)⟩
set_option maxHeartbeats 1000000 in
theorem nameOf_nil (p : Pd) (w : World) : Calls Try.prog 23 #[.pointer none, .agg p.cs] w fun e w' => e = .returned (.string E0b) ∧ Only [] w w' := by
  have K := Lib.hid (find_nil p (w.alloc (.cells p.cs 38)))
  have c := (Bk.made w 38 p.cs).pid
  obtain ⟨c0, c1⟩ := c
  have O := Lib.hid ((Only.refl [] w).alloc (.cells p.cs 38))
  go_enter Try.func23, Try.ntmps23
  go_wp2_with fail
  (with_reducible refine K.out.mono ?_)
  rintro e w1 ⟨rfl, o1⟩
  go_wp2_with fail
  go_ret
  exact ⟨rfl, O.out.trans o1 (by simp)⟩
set_option maxHeartbeats 1000000 in
theorem is_any {w : World} {b g mb cap : Nat} {T : List Pl} (h : TRep w b g mb cap T) (p : Pd) : Calls Try.prog 21 #[ptA b, .agg p.cs] w fun e w' => e = .returned (.bool (isF T p)) ∧ Only [] w w' := by
  have K := Lib.hid (find_any (h.alloc (.cells p.cs 38)) p)
  have c := (Bk.made w 38 p.cs).pid
  obtain ⟨c0, c1⟩ := c
  have O := Lib.hid ((Only.refl [] w).alloc (.cells p.cs 38))
  clear h
  cases hf : findF T p with
  | none =>
    rw [show isF T p = false from by unfold isF; rw [hf]; rfl]
    have HF := Lib.hid hf
    clear hf
    go_enter Try.func21, Try.ntmps21
    go_wp2_with fail
    (with_reducible refine K.out.mono ?_)
    rintro e w1 ⟨rfl, o1⟩
    rw [HF.out]
    simp only [Option.map_none]
    go_wp2_with fail
    go_ret
    exact ⟨rfl, O.out.trans o1 (by simp)⟩
  | some x =>
    rw [show isF T p = true from by unfold isF; rw [hf]; rfl]
    have HF := Lib.hid hf
    clear hf
    go_enter Try.func21, Try.ntmps21
    go_wp2_with fail
    (with_reducible refine K.out.mono ?_)
    rintro e w1 ⟨rfl, o1⟩
    rw [HF.out]
    simp only [Option.map_some]
    go_wp2_with fail
    go_ret
    exact ⟨rfl, O.out.trans o1 (by simp)⟩
set_option maxHeartbeats 1000000 in
theorem nameOf_any {w : World} {b g mb cap : Nat} {T : List Pl} (h : TRep w b g mb cap T) (p : Pd) : Calls Try.prog 23 #[ptA b, .agg p.cs] w fun e w' => e = .returned (.string (nameOfF T p)) ∧ Only [] w w' := by
  have H := Lib.hid h
  have K := Lib.hid (find_any (h.alloc (.cells p.cs 38)) p)
  have c := (Bk.made w 38 p.cs).pid
  obtain ⟨c0, c1⟩ := c
  have O := Lib.hid ((Only.refl [] w).alloc (.cells p.cs 38))
  clear h
  cases hf : findF T p with
  | none =>
    rw [show nameOfF T p = E0b from by unfold nameOfF; rw [hf]]
    have HF := Lib.hid hf
    clear hf
    go_enter Try.func23, Try.ntmps23
    go_wp2_with fail
    (with_reducible refine K.out.mono ?_)
    rintro e w1 ⟨rfl, o1⟩
    rw [HF.out]
    simp only [Option.map_none]
    go_wp2_with fail
    go_ret
    exact ⟨rfl, O.out.trans o1 (by simp)⟩
  | some x =>
    rw [show nameOfF T p = x.nm from by unfold nameOfF; rw [hf]]
    have HF := Lib.hid hf
    obtain ⟨-, hx, -, -⟩ := find_some hf
    have HX := Lib.hid hx
    clear hf hx
    go_enter Try.func23, Try.ntmps23
    go_wp2_with fail
    (with_reducible refine K.out.mono ?_)
    rintro e w1 ⟨rfl, o1⟩
    have x2 := ((H.out.alloc (.cells p.cs 38)).only o1 (by simp) (by simp) (by simp)).row.at_ HX.out (j := 2) rfl (q := p.n.toNat * 3 + 2) rfl
    rw [HF.out]
    simp only [Option.map_some]
    go_wp2_with fail
    go_ret
    exact ⟨rfl, O.out.trans o1 (by simp)⟩

/-! ### Where -/
abbrev pidE (p : Pd) (e : Int) : Value := .tuple #[.agg p.cs, .int .i64 e]
set_option maxHeartbeats 1000000 in
theorem where_nil (s : ByteArray) (w : World) : Calls Try.prog 25 #[.pointer none, .string s] w fun e w' => e = .returned (pidE P0 1) ∧ Only [] w w' := by
  have K := Lib.hid (given_nil (w.alloc (.cells P0.cs 38)))
  have O := Lib.hid ((Only.refl [] w).alloc (.cells P0.cs 38))
  go_enter Try.func25, Try.ntmps25
  go_wp2_with fail
  (with_reducible refine K.out.mono ?_)
  rintro e w1 ⟨rfl, rfl⟩
  go_wp2_with fail
  refine bodyPost_ret (v := pidE P0 1) (by simp [results, Try.results25, go_sem]) rfl ⟨rfl, O.out⟩
def whereE (o : Option Pd) : Value := match o with
  | some p => pidE p 0
  | none => pidE P0 3
set_option maxHeartbeats 2000000 in
theorem where_any {w : World} {b g mb cap : Nat} {T : List Pl} (h : TRep w b g mb cap T) (s : ByteArray) : Calls Try.prog 25 #[ptA b, .string s] w fun e w' => e = .returned (whereE (whereF T s)) ∧ Only [] w w' := by
  have h1 := h.alloc (.cells P0.cs 38)
  have K := Lib.hid (given_any h1)
  have c2 := h1.blk.cell0 (i := 2) rfl
  have hm := map_look h1.map s
  have O : Hid (∀ c, Only [] w ((w.alloc (.cells P0.cs 38)).alloc c)) := Lib.hid (fun c => ((Only.refl [] w).alloc (.cells P0.cs 38)).alloc c)
  have B0 := Bk.made w 38 P0.cs
  have Z := Lib.hid B0
  clear h1 h B0
  cases hw : whereF T s with
  | none =>
    rw [hw] at hm
    clear hw
    simp only [whereE]
    dsimp only [Option.getD_none, Option.isSome_none] at hm
    go_enter Try.func25, Try.ntmps25
    go_wp2_with fail
    (with_reducible refine K.out.mono ?_)
    rintro e w1 ⟨rfl, rfl⟩
    go_wp2_with fail
    refine bodyPost_ret (v := pidE P0 3) (by simp [results, Try.results25, go_sem]) rfl ⟨rfl, O.out _⟩
  | some p =>
    rw [hw] at hm
    clear hw
    simp only [whereE]
    dsimp only [Option.getD_some, Option.isSome_some] at hm
    go_enter Try.func25, Try.ntmps25
    go_wp2_with fail
    (with_reducible refine K.out.mono ?_)
    rintro e w1 ⟨rfl, rfl⟩
    have L : w.heap.size ≤ w.heap.size := Nat.le_refl _
    go_wp2_with fail
    refine bodyPost_ret (v := pidE p 0) (by simp [results, Try.results25, go_sem]) rfl ⟨rfl, ?_⟩
    have O1 := ((O.out (.cells p.cs 38)).set (p := ⟨w.heap.size, 0, none⟩) (.inr L) (.int .i64 p.n)).set (p := ⟨w.heap.size, 1, none⟩) (.inr L) (.int .i64 p.g)
    first | exact O1 | exact (((Only.refl [] w).alloc _).alloc _)

/-! ### Free -/
set_option maxHeartbeats 1000000 in
theorem free_nil (p : Pd) (w : World) : Calls Try.prog 20 #[.pointer none, .agg p.cs] w fun e w' => e = .returned (.int .i64 1) ∧ Only [] w w' := by
  have K := Lib.hid (given_nil (w.alloc (.cells p.cs 38)))
  have O := Lib.hid ((Only.refl [] w).alloc (.cells p.cs 38))
  go_enter Try.func20, Try.ntmps20
  go_wp2_with fail
  (with_reducible refine K.out.mono ?_)
  rintro e w1 ⟨rfl, rfl⟩
  go_wp2_with fail
  go_ret
  exact ⟨rfl, O.out⟩
def FreeE (w : World) (b g mb cap : Nat) (r : List Pl × Int) (e : Ending) (w' : World) : Prop := e = .returned (.int .i64 r.2) ∧ TRep w' b g mb cap r.1 ∧ Only [g, mb] w w'
set_option maxHeartbeats 4000000 in
theorem free_any {w : World} {b g mb cap : Nat} {T : List Pl} (h : TRep w b g mb cap T) (p : Pd) : Calls Try.prog 20 #[ptA b, .agg p.cs] w (FreeE w b g mb cap (freeF T p)) := by
  have H := Lib.hid h
  have h1 := h.alloc (.cells p.cs 38)
  have K0 := Lib.hid (given_any h1)
  have K := Lib.hid (find_any h1 p)
  obtain ⟨c0, c1⟩ := (Bk.made w 38 p.cs).pid
  have O := Lib.hid ((Only.refl [] w).alloc (.cells p.cs 38))
  have H1 := Lib.hid h1
  clear h h1
  cases hf : findF T p with
  | none =>
    have E := Lib.hid (show freeF T p = (T, 3) by unfold freeF; rw [hf])
    have HF := Lib.hid hf
    clear hf
    rw [E.out]
    go_enter Try.func20, Try.ntmps20
    go_wp2_with fail
    (with_reducible refine K0.out.mono ?_)
    rintro e w1 ⟨rfl, rfl⟩
    go_wp2_with fail
    (with_reducible refine K.out.mono ?_)
    rintro e w1 ⟨rfl, o1⟩
    rw [HF.out]
    simp only [Option.map_none]
    go_wp2_with fail
    go_ret
    exact ⟨rfl, H1.out.only o1 (by simp) (by simp) (by simp), (O.out.trans o1 (by simp)).more (by simp)⟩
  | some x =>
    have E := Lib.hid (show freeF T p = (T.set p.n.toNat ⟨x.had, false, E0b⟩, 0) by unfold freeF; rw [hf])
    have HF := Lib.hid hf
    obtain ⟨-, hx, -, -⟩ := find_some hf
    have HX := Lib.hid hx
    clear hf hx
    rw [E.out]
    go_enter Try.func20, Try.ntmps20
    go_wp2_with fail
    (with_reducible refine K0.out.mono ?_)
    rintro e w1 ⟨rfl, rfl⟩
    go_wp2_with fail
    (with_reducible refine K.out.mono ?_)
    rintro e w1 ⟨rfl, o1⟩
    rw [HF.out]
    simp only [Option.map_some]
    have R1 := Lib.hid (H1.out.only o1 (by simp) (by simp) (by simp))
    have O1 := Lib.hid (O.out.trans o1 (by simp))
    have x2 := R1.out.row.at_ HX.out (j := 2) rfl (q := p.n.toNat * 3 + 2) rfl
    have d2 := R1.out.blk.cell0 (i := 2) rfl
    clear o1
    go_wp2_with fail
    refine wp_region_quiet_then 8 (by kernel_rfl) (by kernel_rfl) ?_
    simp only [List.take_succ_cons, List.take_zero, List.drop_succ_cons, List.drop_zero]
    repeat (go_big_quiet_step (fail))
    refine wpQuiet_nil ?_
    intro q
    obtain ⟨w2, hd, hm2, o2⟩ := map_del (R1.out.drewN q).map x.nm 0
    have R2 := Lib.hid (OwnS.only ((R1.out.drewN q).row) o2 (fun g' e => by
      injection e with e
      subst e
      have := R1.out.mg
      simp; omega))
    have B2 := Lib.hid ((R1.out.drewN q).blk.only o2 (by have := R1.out.mb_; simp; omega))
    have O2 : Hid (Only [g, mb] w w2) := Lib.hid ((O1.out.drewN q).more (by simp) |>.trans o2 (by simp))
    have M2 := Lib.hid (hm2.ext fun s => (where_free H.out.ok HF.out s).symm)
    have y0 := R2.out.at_ HX.out (j := 0) rfl (q := p.n.toNat * 3) (by show _ = _ * 3 + 0; omega)
    have y1 := R2.out.at_ HX.out (j := 1) rfl (q := p.n.toNat * 3 + 1) rfl
    have y2 := R2.out.at_ HX.out (j := 2) rfl (q := p.n.toNat * 3 + 2) rfl
    have fr := R2.out.free_
    rw [E.out] at M2
    clear o2 hm2 x2 d2
    go_wp2_with fail
    go_ret
    have T1 := ((R2.out.put (i := p.n.toNat) (j := 0) x HX.out (.int .i64 x.had) (by show 0 < 3; omega) rfl (q := p.n.toNat * 3) (by show _ = _ * 3 + 0; omega)).put (x := x) (j := 1) (i := p.n.toNat) ⟨x.had, false, x.nm⟩ (by rw [List.getElem?_set_self (List.getElem?_eq_some_iff.1 HX.out).1]) (.bool false) (by show 1 < 3; omega) rfl (q := p.n.toNat * 3 + 1) rfl).put (x := ⟨x.had, false, x.nm⟩) (j := 2) (i := p.n.toNat) ⟨x.had, false, E0b⟩ (by rw [List.getElem?_set_self (by rw [List.length_set]; exact (List.getElem?_eq_some_iff.1 HX.out).1)]) (.string E0b) (by show 2 < 3; omega) rfl (q := p.n.toNat * 3 + 2) rfl
    simp only [List.set_set] at T1
    have W3 : ∀ S, g ∈ S → Only S w2 (((w2.setCell ⟨g, p.n.toNat * 3, none⟩ (.int .i64 x.had)).setCell ⟨g, p.n.toNat * 3 + 1, none⟩ (.bool false)).setCell ⟨g, p.n.toNat * 3 + 2, none⟩ (.string E0b)) := fun S hS => (((Only.refl _ w2).set (.inl hS) _).set (.inl hS) _).set (.inl hS) _
    have l1 : (T.set p.n.toNat ⟨x.had, false, E0b⟩).length = T.length := List.length_set ..
    exact ⟨rfl, ⟨by rw [l1]; exact B2.out.only (W3 [g] (by simp)) (by have := R1.out.gb; simp; omega), by rw [l1]; exact T1, M2.out.only (W3 [g] (by simp)) (by have := R1.out.mg; simp; omega), by have := H.out.ok.free p; rw [E.out] at this; exact this⟩, O2.out.trans (W3 [g] (by simp)) (by simp)⟩
end Go.Proofs.Ytlidnlcmnkagaaa
