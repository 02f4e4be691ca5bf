/- The program's ties in memory: given, full, New, Copy. The program's Link. The program's Unlink. -/
import Derived.Test.YtkodblhompphjaaVh
import Derived.Test.YtkodblhompphjaaVk
import Derived.LaidEqlPtr
namespace Go.Proofs.Ytkodblhompphjaa
open Go.RowKit Go.Maps
set_option maxRecDepth 20000

def lks (l : List Te) : List Te := l.filter fun x => x.r == 0
def mns (l : List Te) : List Te := l.filter fun x => !(x.r == 0)
theorem lks_ok {l : List Te} (h : MayT l) : ∀ x ∈ lks l, LkT x := fun x hx => by
  obtain ⟨h1, h2⟩ := List.mem_filter.1 hx
  exact ⟨mayT_ok h x h1, by simpa using h2⟩
theorem srt_pair {l : List Te} (h : MayT l) {x y : Te} (hx : x ∈ l) (hy : y ∈ l) (h0 : x.r ≠ 0) (e : x.r = y.r) : x = y := by
  have hs := mayT_srt h
  have ok := mayT_ok h
  obtain ⟨i, hi⟩ := List.mem_iff_getElem?.1 hx
  obtain ⟨j, hj⟩ := List.mem_iff_getElem?.1 hy
  have hil := (List.getElem?_eq_some_iff.1 hi)
  have hjl := (List.getElem?_eq_some_iff.1 hj)
  obtain ⟨hil, hi'⟩ := hil
  obtain ⟨hjl, hj'⟩ := hjl
  have rx := okTie_r (ok x hx)
  have ry := okTie_r (ok y hy)
  rcases Nat.lt_trichotomy i j with hlt | rfl | hlt
  · have := List.pairwise_iff_getElem.1 hs i j hil hjl hlt
    rw [hi', hj', aheadT_iff rx ry] at this
    omega
  · exact hi'.symm.trans hj'
  · have := List.pairwise_iff_getElem.1 hs j i hjl hil hlt
    rw [hi', hj', aheadT_iff ry rx] at this
    omega
theorem mns_ok {l : List Te} (h : MayT l) : MnS (mns l) := by
  refine ⟨fun x hx => ?_, fun x hx y hy e => ?_⟩
  · obtain ⟨h1, h2⟩ := List.mem_filter.1 hx
    exact ⟨mayT_ok h x h1, by simpa using h2⟩
  · obtain ⟨h1, h2⟩ := List.mem_filter.1 hx
    obtain ⟨h3, h4⟩ := List.mem_filter.1 hy
    exact srt_pair h h1 h3 (by simpa using h2) e
theorem lks_mns (l : List Te) : (lks l).length + (mns l).length = l.length := by
  unfold lks mns
  induction l with
  | nil => rfl
  | cons x r ih =>
    cases h : x.r == 0 <;> simp only [List.filter_cons, h, Bool.not_true, Bool.not_false, if_true, Bool.false_eq_true, if_false, List.length_cons] <;> omega
abbrev tiesC (b lb mb : Nat) : Array Value := #[.pointer (some ⟨b, 0, none⟩), .map (some lb), .map (some mb)]
/-- The ties at block b, their maps in lb and mb, are l. -/
structure LRep (w : World) (b lb mb : Nat) (l : List Te) : Prop where
  may : MayT l
  len : l.length ≤ 1024
  blk : Bk w b 61 (tiesC b lb mb)
  ne : lb ≠ mb
  lnk : LkM w lb (lks l)
  mon : MnM w mb (mns l)
theorem LRep.only {w w' : World} {b lb mb : Nat} {l : List Te} {S : List Nat} (h : LRep w b lb mb l) (o : Only S w w') (h1 : b ∉ S) (h2 : lb ∉ S) (h3 : mb ∉ S) : LRep w' b lb mb l :=
  ⟨h.may, h.len, h.blk.only o h1, h.ne, h.lnk.only o h2, h.mon.only o h3⟩
theorem LRep.only0 {w w' : World} {b lb mb : Nat} {l : List Te} (h : LRep w b lb mb l) (o : Only [] w w') : LRep w' b lb mb l := h.only o (by simp) (by simp) (by simp)
theorem LRep.lb_ {w : World} {b lb mb : Nat} {l : List Te} (h : LRep w b lb mb l) : lb ≠ b := h.lnk.apart h.blk
theorem LRep.mb_ {w : World} {b lb mb : Nat} {l : List Te} (h : LRep w b lb mb l) : mb ≠ b := h.mon.apart h.blk
theorem LRep.look {w : World} {b lb mb : Nat} {l : List Te} (h : LRep w b lb mb l) {x : Te} (hx : LkT x) :
    (Instr.lookup mpL (.map (some lb)) (.agg (prC x)) true).run Try.prog w = .ok (.tuple #[.agg #[], .bool (decide (x ∈ l))]) w := by
  rw [h.lnk.look (lks_ok h.may) hx]
  have e : decide (x ∈ lks l) = decide (x ∈ l) := by
    rw [Bool.eq_iff_iff, decide_eq_true_eq, decide_eq_true_eq]
    unfold lks
    rw [List.mem_filter]
    exact ⟨fun h => h.1, fun h => ⟨h, by simpa using hx.2⟩⟩
  rw [e]
theorem find_mns {l : List Te} (h : MayT l) {r : Int} : (mns l).find? (fun x => x.r == r) = findT l r := by
  unfold findT
  split
  · rename_i hr
    unfold mns
    rw [List.find?_filter]
    congr 1
    funext x
    by_cases e : x.r = r
    · have : ¬ x.r = 0 := by omega
      simp [e]; omega
    · simp [e]
  · rename_i hr
    rw [List.find?_eq_none]
    intro x hx
    obtain ⟨h1, h2⟩ := List.mem_filter.1 hx
    have := okTie_r (mayT_ok h x h1)
    have h3 : ¬ x.r = 0 := by simpa using h2
    simp only [beq_iff_eq]
    omega
theorem LRep.find {w : World} {b lb mb : Nat} {l : List Te} (h : LRep w b lb mb l) (r : Int) : (Instr.lookup mpM (.map (some mb)) (.int .i64 r) true).run Try.prog w = .ok (refV (findT l r)) w := by
  rw [h.mon.look (mns_ok h.may), find_mns h.may]

@[go_sem high] theorem tie_self (b : Nat) (w : World) : (binOp .eql 23 (.pointer (some ⟨b, 0, none⟩)) (.pointer (some ⟨b, 0, none⟩))).run Try.prog w = .ok (.bool true) w :=
  run_eql_ptr_same (j := (Try.prog.info? 61).getD default) _ _ Try.underlying23 (by kernel_rfl)
theorem given_any {w : World} {b lb mb : Nat} {l : List Te} (h : LRep w b lb mb l) : Calls Try.prog 34 #[ptB b] w fun e w' => e = .returned (.bool true) ∧ w = w' := by
  have c0 := h.blk.cell0 (i := 0) rfl
  clear h
  go_enter Try.func34, Try.ntmps34
  go_wp2_with fail
  go_ret
  exact ⟨rfl, rfl⟩
theorem given_nil (w : World) : Calls Try.prog 34 #[.pointer none] w fun e w' => e = .returned (.bool false) ∧ w = w' := by
  go_enter Try.func34, Try.ntmps34
  go_wp2_with fail
  go_ret
  exact ⟨rfl, rfl⟩
theorem full_any {w : World} {b lb mb : Nat} {l : List Te} (h : LRep w b lb mb l) : Calls Try.prog 42 #[ptB b] w fun e w' => e = .returned (.bool (decide (1024 ≤ l.length))) ∧ Only [] w w' := by
  have c1 : ∀ n, (w.drewN n).cell? ⟨b, 1, none⟩ = some (.map (some lb)) := fun n => h.blk.cell0 (i := 1) rfl
  have c2 : ∀ n, (w.drewN n).cell? ⟨b, 2, none⟩ = some (.map (some mb)) := fun n => h.blk.cell0 (i := 2) rfl
  have l1 : ∀ n ty, (Builtin.len_ #[mpL] ty #[.map (some lb)]).run Try.prog (w.drewN n) = .ok (.int .i64 ((lks l).length : Nat)) (w.drewN n) := fun n ty => (h.lnk.only ((Only.refl [] w).drewN n) (by simp)).len ty
  have l2 : ∀ n ty, (Builtin.len_ #[mpM] ty #[.map (some mb)]).run Try.prog (w.drewN n) = .ok (.int .i64 ((mns l).length : Nat)) (w.drewN n) := fun n ty => (h.mon.only ((Only.refl [] w).drewN n) (by simp)).len ty
  have hs := lks_mns l
  have hl := h.len
  generalize (lks l).length = x at *
  generalize (mns l).length = y at *
  have hw : wrap64 ((x : Int) + (y : Int)) = ((l.length : Nat) : Int) := by rw [wrap64_in (by omega) (by omega)]; omega
  clear h
  go_enter Try.func42, Try.ntmps42
  go_wp2_with fail
  go_quiet (fail)
  go_wp2
  go_ret
  exact ⟨retB (by rw [decide_eq_decide]; omega), (Only.refl [] w).drewN _⟩
theorem of_any (w : World) (lb mb : Nat) : Calls Try.prog 26 #[.map (some lb), .map (some mb)] w fun e w' => e = .returned (ptB w.heap.size) ∧ Bk w' w.heap.size 61 (tiesC w.heap.size lb mb) ∧ Only [] w w' := by
  go_enter Try.func26, Try.ntmps26
  go_wp2_with fail
  go_ret
  exact ⟨rfl, Bk.made w _ _, (Only.refl [] w).alloc _⟩
/-- What a call that makes ties of its own answers. -/
def MadeE (w : World) (l : List Te) (e : Ending) (w' : World) : Prop := ∃ b lb mb, e = .returned (ptB b) ∧ LRep w' b lb mb l ∧ (w.heap.size ≤ b ∧ w.heap.size ≤ lb ∧ w.heap.size ≤ mb) ∧ Only [] w w'
theorem of_made {w w1 : World} {lb mb : Nat} {l : List Te} (hm : MayT l) (hl : l.length ≤ 1024) (hne : lb ≠ mb) (h1 : LkM w1 lb (lks l)) (h2 : MnM w1 mb (mns l)) (o : Only [] w w1) (k1 : w.heap.size ≤ lb) (k2 : w.heap.size ≤ mb) :
    Calls Try.prog 26 #[.map (some lb), .map (some mb)] w1 (MadeE w l) :=
  (of_any w1 lb mb).mono fun _ _ ⟨he, hb, ho⟩ => ⟨_, lb, mb, he, ⟨hm, hl, hb, hne, h1.only ho (by simp), h2.only ho (by simp)⟩, ⟨o.size, k1, k2⟩, o.trans ho (by simp)⟩
theorem mayT_nil : MayT [] := fun j _ hj => absurd hj (by simp)
theorem new_any (w : World) : Calls Try.prog 7 #[] w (MadeE w []) := by
  have hmm := @run_makeMap Try.prog
  have K := Lib.hid (of_made (w := w) (w1 := (w.alloc (.map #[] 0)).alloc (.map #[] 0)) (lb := w.heap.size) (mb := w.heap.size + 1) (l := []) mayT_nil (by simp) (by omega) ((LkM.made w).only ((Only.refl [] _).alloc _) (by simp)) (by have := MnM.made (w.alloc (.map #[] 0)); simp only [World.size_alloc] at this; exact this) (((Only.refl [] w).alloc _).alloc _) (by omega) (by omega))
  go_enter Try.func7, Try.ntmps7
  go_wp2_with fail
  (with_reducible refine K.out.mono ?_)
  rintro e w1 ⟨b, lb, mb, rfl, hh⟩
  have H := Lib.hid hh
  clear hh
  go_wp2_with fail
  go_ret
  exact ⟨_, _, _, rfl, H.out⟩
end Go.Proofs.Ytkodblhompphjaa

namespace Go.Proofs.Ytkodblhompphjaa
open Go.RowKit Go.Maps
set_option maxRecDepth 20000

theorem putR_perm (y : Te) : ∀ l, (putR l y).Perm (y :: l)
  | [] => List.Perm.refl _
  | x :: r => by
    unfold putR
    split
    · exact List.Perm.refl _
    · exact ((putR_perm y r).cons x).trans (List.Perm.swap y x r)
theorem putT_perm (l : List Te) (y : Te) : (putT l y).Perm (y :: l) := by rw [putT_eq]; exact putR_perm y l
theorem lks_put0 {l : List Te} {y : Te} (hy : y.r = 0) : (y :: lks l).Perm (lks (putT l y)) := by
  have := (putT_perm l y).filter (fun x => x.r == 0)
  unfold lks
  rw [List.filter_cons_of_pos (by simpa using hy)] at this
  exact this.symm
theorem mns_put0 {l : List Te} {y : Te} (hy : y.r = 0) : (mns l).Perm (mns (putT l y)) := by
  have := (putT_perm l y).filter (fun x => !(x.r == 0))
  unfold mns
  rw [List.filter_cons_of_neg (by simpa using hy)] at this
  exact this.symm
theorem lks_put1 {l : List Te} {y : Te} (hy : y.r ≠ 0) : (lks l).Perm (lks (putT l y)) := by
  have := (putT_perm l y).filter (fun x => x.r == 0)
  unfold lks
  rw [List.filter_cons_of_neg (by simpa using hy)] at this
  exact this.symm
theorem mns_put1 {l : List Te} {y : Te} (hy : y.r ≠ 0) : (y :: mns l).Perm (mns (putT l y)) := by
  have := (putT_perm l y).filter (fun x => !(x.r == 0))
  unfold mns
  rw [List.filter_cons_of_pos (by simpa using hy)] at this
  exact this.symm
theorem lks_less (l : List Te) (y : Te) : lks (lessT l y) = (lks l).filter fun x => !eqT x y := by
  unfold lks lessT
  rw [List.filter_filter, List.filter_filter]
  congr 1
  funext x
  exact Bool.and_comm _ _
theorem mns_less (l : List Te) (y : Te) : mns (lessT l y) = (mns l).filter fun x => !eqT x y := by
  unfold mns lessT
  rw [List.filter_filter, List.filter_filter]
  congr 1
  funext x
  exact Bool.and_comm _ _
theorem mns_less0 {l : List Te} {y : Te} (hy : y.r = 0) : mns (lessT l y) = mns l := by
  rw [mns_less, List.filter_eq_self]
  intro x hx
  have h := (List.mem_filter.1 hx).2
  cases he : eqT x y with
  | false => rfl
  | true =>
    obtain rfl := eqT_iff.1 he
    rw [show (x.r == 0) = true by simpa using hy] at h
    cases h
theorem lks_less1 {l : List Te} {y : Te} (hy : y.r ≠ 0) : lks (lessT l y) = lks l := by
  rw [lks_less, List.filter_eq_self]
  intro x hx
  have h := (List.mem_filter.1 hx).2
  cases he : eqT x y with
  | false => rfl
  | true =>
    obtain rfl := eqT_iff.1 he
    exact absurd (by simpa using h) hy
theorem pairT_lk {a p : Pd} (h : pairT a p = true) : LkT (linkT a p) := by
  obtain ⟨h1, h2, h3⟩ := pairT_iff.1 h
  refine ⟨linkT_ok h1 h2 h3, ?_⟩
  unfold linkT
  split <;> rfl
/-- A call that turns the maps' blocks alone. -/
def TurnE (w : World) (b lb mb : Nat) (r : List Te × Int) (e : Ending) (w' : World) : Prop := e = .returned (.int .i64 r.2) ∧ LRep w' b lb mb r.1 ∧ Only [lb, mb] w w'
set_option maxHeartbeats 4000000 in
theorem plink_any {w : World} {b lb mb : Nat} {l : List Te} (h : LRep w b lb mb l) (a p : Pd) : Calls Try.prog 16 #[ptB b, .agg a.cs, .agg p.cs] w (TurnE w b lb mb (linkF l a p)) := by
  have KM := Lib.hid (fun w => mayLink_any a p w)
  have KP := Lib.hid (fun w => pairOf_any a p w)
  have o0 := ((Only.refl [] w).alloc (.cells a.cs 32)).alloc (.cells p.cs 32)
  have H0 := Lib.hid (h.only0 o0)
  have K0 := Lib.hid (given_any H0.out)
  have BA := Lib.hid ((Bk.made w 32 a.cs).alloc (.cells p.cs 32))
  have BB := Lib.hid (Bk.newAt (w := w.alloc (.cells a.cs 32)) (t := 32) (cs := p.cs) (b := w.heap.size + 1) (by simp))
  have O0 := Lib.hid o0
  clear o0
  cases hp : pairT a p with
  | false =>
    have e : linkF l a p = (l, 1) := by unfold linkF; rw [if_neg (by rw [hp]; simp)]
    rw [e]
    go_enter Try.func16, Try.ntmps16
    go_upto_region 1 with fail
    generalize ((w.alloc (.cells a.cs 32)).alloc (.cells p.cs 32)) = w0 at *
    obtain ⟨a0, a1⟩ := BA.out.pid
    obtain ⟨b0, b1⟩ := BB.out.pid
    rw [hp] at KM
    go_wp2_with fail
    (with_reducible refine K0.out.mono ?_)
    rintro e w1 ⟨rfl, rfl⟩
    go_wp2_with fail
    (with_reducible refine (KM.out _).mono ?_)
    rintro e w1 ⟨rfl, o1⟩
    go_wp2_with fail
    go_ret
    exact ⟨rfl, H0.out.only0 o1, (O0.out.trans o1 (by simp)).more (by simp)⟩
  | true =>
    have hx := pairT_lk hp
    rw [hp] at KM
    have E : linkF l a p = (if linkT a p ∈ l then (l, 0) else if 1024 ≤ l.length then (l, 150) else (putT l (linkT a p), 0)) := by unfold linkF; rw [if_pos hp]
    have HM : Hid (MayT (linkF l a p).1) := Lib.hid (linkF_may h.may a p)
    have HR1 : Hid (linkT a p ∈ l → linkF l a p = (l, 0)) := Lib.hid (fun h => by rw [E, if_pos h])
    have HR2 : Hid (linkT a p ∉ l → 1024 ≤ l.length → linkF l a p = (l, 150)) := Lib.hid (fun h k => by rw [E, if_neg h, if_pos k])
    have HR3 : Hid (linkT a p ∉ l → ¬ 1024 ≤ l.length → linkF l a p = (putT l (linkT a p), 0)) := Lib.hid (fun h k => by rw [E, if_neg h, if_neg k])
    clear E
    generalize linkF l a p = r at HM HR1 HR2 HR3 ⊢
    generalize linkT a p = x at KP hx HR1 HR2 HR3 ⊢
    have HX := Lib.hid hx
    clear hx hp h
    go_enter Try.func16, Try.ntmps16
    go_upto_region 1 with fail
    generalize ((w.alloc (.cells a.cs 32)).alloc (.cells p.cs 32)) = w0 at *
    obtain ⟨a0, a1⟩ := BA.out.pid
    obtain ⟨b0, b1⟩ := BB.out.pid
    go_wp2_with fail
    (with_reducible refine K0.out.mono ?_)
    rintro e w1 ⟨rfl, rfl⟩
    go_wp2_with fail
    (with_reducible refine (KM.out _).mono ?_)
    rintro e w1 ⟨rfl, o1⟩
    clear a0 a1 b0 b1
    obtain ⟨a0, a1⟩ := (BA.out.only o1 (by simp)).pid
    obtain ⟨b0, b1⟩ := (BB.out.only o1 (by simp)).pid
    have H1 := Lib.hid (H0.out.only0 o1)
    have O1 := Lib.hid (O0.out.trans o1 (by simp))
    clear o1 BA BB H0 O0
    go_wp2_with fail
    (with_reducible refine (KP.out _).mono ?_)
    rintro e w2 ⟨rfl, o2⟩
    have H2 := Lib.hid (H1.out.only0 (o2.alloc (.cells (prC x) 75)))
    have O2 := Lib.hid ((O1.out.trans o2 (by simp)).alloc (.cells (prC x) 75))
    have B2 := Lib.hid (Bk.made w2 75 (prC x))
    clear o2 H1 O1 a0 a1 b0 b1
    go_wp2_with fail
    generalize hW : w2.alloc (.cells (prC x) 75) = W at *
    clear hW
    have s0 : (W.drew).cell? ⟨b, 1, none⟩ = some (.map (some lb)) := H2.out.blk.cell0 (i := 1) rfl
    have s1 : ∀ z, ((W.alloc z).drew).cell? ⟨b, 1, none⟩ = some (.map (some lb)) := fun z => (H2.out.blk.alloc z).cell0 (i := 1) rfl
    have p0 : (W.drew).cell? ⟨w2.heap.size, 0, none⟩ = some (.int .i64 x.a.n) := B2.out.cell0 (i := 0) rfl
    have p1 : (W.drew).cell? ⟨w2.heap.size, 1, none⟩ = some (.int .i64 x.a.g) := B2.out.cell0 (i := 1) rfl
    have p2 : (W.drew).cell? ⟨w2.heap.size, 2, none⟩ = some (.int .i64 x.b.n) := B2.out.cell0 (i := 2) rfl
    have p3 : (W.drew).cell? ⟨w2.heap.size, 3, none⟩ = some (.int .i64 x.b.g) := B2.out.cell0 (i := 3) rfl
    have q0 : ∀ z, ((W.alloc z).drew).cell? ⟨w2.heap.size, 0, none⟩ = some (.int .i64 x.a.n) := fun z => (B2.out.alloc z).cell0 (i := 0) rfl
    have q1 : ∀ z, ((W.alloc z).drew).cell? ⟨w2.heap.size, 1, none⟩ = some (.int .i64 x.a.g) := fun z => (B2.out.alloc z).cell0 (i := 1) rfl
    have q2 : ∀ z, ((W.alloc z).drew).cell? ⟨w2.heap.size, 2, none⟩ = some (.int .i64 x.b.n) := fun z => (B2.out.alloc z).cell0 (i := 2) rfl
    have q3 : ∀ z, ((W.alloc z).drew).cell? ⟨w2.heap.size, 3, none⟩ = some (.int .i64 x.b.g) := fun z => (B2.out.alloc z).cell0 (i := 3) rfl
    have L0 : (Instr.lookup mpL (.map (some lb)) (.agg (prC x)) true).run Try.prog W.drew = .ok (.tuple #[.agg #[], .bool (decide (x ∈ l))]) W.drew := (H2.out.only0 ((Only.refl [] W).drew)).look HX.out
    have L1 : ∀ z, (Instr.lookup mpL (.map (some lb)) (.agg (prC x)) true).run Try.prog ((W.alloc z).drew) = .ok (.tuple #[.agg #[], .bool (decide (x ∈ l))]) ((W.alloc z).drew) := fun z => (H2.out.only0 (((Only.refl [] W).alloc z).drew)).look HX.out
    have F0 : Hid (∀ (v : Int) w', r = (l, v) → Only [] W w' → TurnE w b lb mb r (.returned (.int .i64 v)) w') := Lib.hid (fun v w' e o => by
      subst e
      exact ⟨rfl, H2.out.only0 o, (O2.out.trans o (by simp)).more (by simp)⟩)
    by_cases hm : x ∈ l
    · have HR := Lib.hid (HR1.out hm)
      rw [decide_eq_true hm] at L0 L1
      clear hm HR1 HR2 HR3 HM
      go_region
      all_goals
        go_wp2_with fail
        go_ret
        exact F0.out _ _ HR.out (((Only.refl [] W).alloc _).drew)
    · have HN := Lib.hid hm
      rw [decide_eq_false hm] at L0 L1
      have KF := Lib.hid (fun z => full_any (H2.out.only0 (((Only.refl [] W).alloc z).drew)))
      clear hm HR1
      go_region
      all_goals
        clear s0 s1 p0 p1 p2 p3 q0 q1 q2 q3 L0 L1
        by_cases hl : 1024 ≤ l.length
        · have HR := Lib.hid (HR2.out HN.out hl)
          rw [decide_eq_true hl] at KF
          clear hl HR2 HR3 HM
          go_wp2_with fail
          (with_reducible refine (KF.out _).mono ?_)
          rintro e w5 ⟨rfl, o5⟩
          go_wp2_with fail
          go_ret
          exact F0.out _ _ HR.out ((((Only.refl [] W).alloc _).drew).trans o5 (by simp))
        · have HR := Lib.hid (HR3.out HN.out hl)
          have HL := Lib.hid hl
          rw [decide_eq_false hl] at KF
          clear hl HR2 HR3
          go_wp2_with fail
          (with_reducible refine (KF.out _).mono ?_)
          rintro e w5 ⟨rfl, o5⟩
          have oo := (((Only.refl [] W).alloc (.cells #[] 76)).drew).trans o5 (by simp)
          have H5 := Lib.hid (H2.out.only0 oo)
          have O5 := Lib.hid (O2.out.trans oo (by simp))
          have B5 := B2.out.only oo (by simp)
          have c1 := H5.out.blk.cell0 (i := 1) (v := .map (some lb)) rfl
          have p0 := B5.cell0 (i := 0) (v := .int .i64 x.a.n) rfl
          have p1 := B5.cell0 (i := 1) (v := .int .i64 x.a.g) rfl
          have p2 := B5.cell0 (i := 2) (v := .int .i64 x.b.n) rfl
          have p3 := B5.cell0 (i := 3) (v := .int .i64 x.b.g) rfl
          clear o5 oo B5 KF F0 H2 O2 B2
          go_wp2_with fail
          refine wp_region_quiet_then 6 (by kernel_rfl) (by kernel_rfl) ?_
          simp only [List.take_succ_cons, List.take_zero, List.drop_succ_cons, List.drop_zero]
          repeat (go_big_quiet_step (fail))
          refine wpQuiet_nil ?_
          intro q
          have H6 := Lib.hid (H5.out.only0 ((Only.refl [] w5).drewN q))
          have O6 := Lib.hid (O5.out.drewN q)
          obtain ⟨w7, hd, m7, o7⟩ := H6.out.lnk.put (lks_ok H6.out.may) HX.out (fun hx => HN.out (List.mem_filter.1 hx).1) (by have := lks_mns l; have := H6.out.len; simp only [maxLen]; omega)
          have M7 := Lib.hid m7
          have O7 := Lib.hid o7
          clear m7 o7
          go_wp2_with fail
          go_ret
          have hx0 := HX.out.2
          have er := HR.out
          subst er
          refine ⟨rfl, ⟨HM.out, ?_, H6.out.blk.only O7.out (by have := H6.out.lb_; simp; omega), H6.out.ne, M7.out.perm (lks_put0 hx0), (H6.out.mon.only O7.out (by have := H6.out.ne; simp; omega)).perm (mns_put0 hx0)⟩, (O6.out.more (by simp)).trans O7.out (by simp)⟩
          have e := (putT_perm l x).length_eq
          rw [List.length_cons] at e
          have := HL.out
          show (putT l x).length ≤ 1024
          omega
end Go.Proofs.Ytkodblhompphjaa

namespace Go.Proofs.Ytkodblhompphjaa
open Go.RowKit Go.Maps
set_option maxRecDepth 20000

set_option maxHeartbeats 4000000 in
theorem punlink_any {w : World} {b lb mb : Nat} {l : List Te} (h : LRep w b lb mb l) (a p : Pd) : Calls Try.prog 19 #[ptB b, .agg a.cs, .agg p.cs] w (TurnE w b lb mb (unlinkF l a p)) := by
  have KM := Lib.hid (fun w => mayLink_any a p w)
  have KP := Lib.hid (fun w => pairOf_any a p w)
  have o0 := ((Only.refl [] w).alloc (.cells a.cs 32)).alloc (.cells p.cs 32)
  have H0 := Lib.hid (h.only0 o0)
  have K0 := Lib.hid (given_any H0.out)
  have BA := Lib.hid ((Bk.made w 32 a.cs).alloc (.cells p.cs 32))
  have BB := Lib.hid (Bk.newAt (w := w.alloc (.cells a.cs 32)) (t := 32) (cs := p.cs) (b := w.heap.size + 1) (by simp))
  have O0 := Lib.hid o0
  clear o0
  cases hp : pairT a p with
  | false =>
    have e : unlinkF l a p = (l, 1) := by unfold unlinkF; rw [if_neg (by rw [hp]; simp)]
    rw [e]
    go_enter Try.func19, Try.ntmps19
    go_upto_region 1 with fail
    generalize ((w.alloc (.cells a.cs 32)).alloc (.cells p.cs 32)) = w0 at *
    obtain ⟨a0, a1⟩ := BA.out.pid
    obtain ⟨b0, b1⟩ := BB.out.pid
    rw [hp] at KM
    go_wp2_with fail
    (with_reducible refine K0.out.mono ?_)
    rintro e w1 ⟨rfl, rfl⟩
    go_wp2_with fail
    (with_reducible refine (KM.out _).mono ?_)
    rintro e w1 ⟨rfl, o1⟩
    go_wp2_with fail
    go_ret
    exact ⟨rfl, H0.out.only0 o1, (O0.out.trans o1 (by simp)).more (by simp)⟩
  | true =>
    have hx := pairT_lk hp
    rw [hp] at KM
    have E : unlinkF l a p = (if linkT a p ∈ l then (lessT l (linkT a p), 0) else (l, 3)) := by unfold unlinkF; rw [if_pos hp]
    have HM : Hid (MayT (unlinkF l a p).1) := Lib.hid (unlinkF_may h.may a p)
    have HR1 : Hid (linkT a p ∉ l → unlinkF l a p = (l, 3)) := Lib.hid (fun h => by rw [E, if_neg h])
    have HR2 : Hid (linkT a p ∈ l → unlinkF l a p = (lessT l (linkT a p), 0)) := Lib.hid (fun h => by rw [E, if_pos h])
    clear E
    generalize unlinkF l a p = r at HM HR1 HR2 ⊢
    generalize linkT a p = x at KP hx HR1 HR2 ⊢
    have HX := Lib.hid hx
    clear hx hp h
    go_enter Try.func19, Try.ntmps19
    go_upto_region 1 with fail
    generalize ((w.alloc (.cells a.cs 32)).alloc (.cells p.cs 32)) = w0 at *
    obtain ⟨a0, a1⟩ := BA.out.pid
    obtain ⟨b0, b1⟩ := BB.out.pid
    go_wp2_with fail
    (with_reducible refine K0.out.mono ?_)
    rintro e w1 ⟨rfl, rfl⟩
    go_wp2_with fail
    (with_reducible refine (KM.out _).mono ?_)
    rintro e w1 ⟨rfl, o1⟩
    clear a0 a1 b0 b1
    obtain ⟨a0, a1⟩ := (BA.out.only o1 (by simp)).pid
    obtain ⟨b0, b1⟩ := (BB.out.only o1 (by simp)).pid
    have H1 := Lib.hid (H0.out.only0 o1)
    have O1 := Lib.hid (O0.out.trans o1 (by simp))
    clear o1 BA BB H0 O0
    go_wp2_with fail
    (with_reducible refine (KP.out _).mono ?_)
    rintro e w2 ⟨rfl, o2⟩
    have H2 := Lib.hid (H1.out.only0 (o2.alloc (.cells (prC x) 75)))
    have O2 := Lib.hid ((O1.out.trans o2 (by simp)).alloc (.cells (prC x) 75))
    have B2 := Lib.hid (Bk.made w2 75 (prC x))
    clear o2 H1 O1 a0 a1 b0 b1
    go_wp2_with fail
    generalize hW : w2.alloc (.cells (prC x) 75) = W at *
    clear hW
    have s0 : (W.drew).cell? ⟨b, 1, none⟩ = some (.map (some lb)) := H2.out.blk.cell0 (i := 1) rfl
    have s1 : ∀ z, ((W.alloc z).drew).cell? ⟨b, 1, none⟩ = some (.map (some lb)) := fun z => (H2.out.blk.alloc z).cell0 (i := 1) rfl
    have p0 : (W.drew).cell? ⟨w2.heap.size, 0, none⟩ = some (.int .i64 x.a.n) := B2.out.cell0 (i := 0) rfl
    have p1 : (W.drew).cell? ⟨w2.heap.size, 1, none⟩ = some (.int .i64 x.a.g) := B2.out.cell0 (i := 1) rfl
    have p2 : (W.drew).cell? ⟨w2.heap.size, 2, none⟩ = some (.int .i64 x.b.n) := B2.out.cell0 (i := 2) rfl
    have p3 : (W.drew).cell? ⟨w2.heap.size, 3, none⟩ = some (.int .i64 x.b.g) := B2.out.cell0 (i := 3) rfl
    have q0 : ∀ z, ((W.alloc z).drew).cell? ⟨w2.heap.size, 0, none⟩ = some (.int .i64 x.a.n) := fun z => (B2.out.alloc z).cell0 (i := 0) rfl
    have q1 : ∀ z, ((W.alloc z).drew).cell? ⟨w2.heap.size, 1, none⟩ = some (.int .i64 x.a.g) := fun z => (B2.out.alloc z).cell0 (i := 1) rfl
    have q2 : ∀ z, ((W.alloc z).drew).cell? ⟨w2.heap.size, 2, none⟩ = some (.int .i64 x.b.n) := fun z => (B2.out.alloc z).cell0 (i := 2) rfl
    have q3 : ∀ z, ((W.alloc z).drew).cell? ⟨w2.heap.size, 3, none⟩ = some (.int .i64 x.b.g) := fun z => (B2.out.alloc z).cell0 (i := 3) rfl
    have L0 : (Instr.lookup mpL (.map (some lb)) (.agg (prC x)) true).run Try.prog W.drew = .ok (.tuple #[.agg #[], .bool (decide (x ∈ l))]) W.drew := (H2.out.only0 ((Only.refl [] W).drew)).look HX.out
    have L1 : ∀ z, (Instr.lookup mpL (.map (some lb)) (.agg (prC x)) true).run Try.prog ((W.alloc z).drew) = .ok (.tuple #[.agg #[], .bool (decide (x ∈ l))]) ((W.alloc z).drew) := fun z => (H2.out.only0 (((Only.refl [] W).alloc z).drew)).look HX.out
    have F0 : Hid (∀ (v : Int) w', r = (l, v) → Only [] W w' → TurnE w b lb mb r (.returned (.int .i64 v)) w') := Lib.hid (fun v w' e o => by
      subst e
      exact ⟨rfl, H2.out.only0 o, (O2.out.trans o (by simp)).more (by simp)⟩)
    by_cases hm : x ∉ l
    · have HR := Lib.hid (HR1.out hm)
      rw [decide_eq_false hm] at L0 L1
      clear hm HR1 HR2 HM
      go_region
      all_goals
        go_wp2_with fail
        go_ret
        exact F0.out _ _ HR.out (((Only.refl [] W).alloc _).drew)
    · have hm' : x ∈ l := Decidable.of_not_not hm
      have HN := Lib.hid hm'
      have HR := Lib.hid (HR2.out hm')
      rw [decide_eq_true hm'] at L0 L1
      clear hm hm' HR1 HR2
      go_region
      all_goals
        clear s0 s1 p0 p1 p2 p3 q0 q1 q2 q3 L0 L1
        have oo := ((Only.refl [] W).alloc (.cells #[] 76)).drew
        generalize (W.alloc (.cells #[] 76)).drew = w5 at oo ⊢
        have H5 := Lib.hid (H2.out.only0 oo)
        have O5 := Lib.hid (O2.out.trans oo (by simp))
        have B5 := B2.out.only oo (by simp)
        have c1 := H5.out.blk.cell0 (i := 1) (v := .map (some lb)) rfl
        have p0 := B5.cell0 (i := 0) (v := .int .i64 x.a.n) rfl
        have p1 := B5.cell0 (i := 1) (v := .int .i64 x.a.g) rfl
        have p2 := B5.cell0 (i := 2) (v := .int .i64 x.b.n) rfl
        have p3 := B5.cell0 (i := 3) (v := .int .i64 x.b.g) rfl
        clear oo B5 F0 H2 O2 B2
        go_wp2_with fail
        refine wp_region_quiet_then 5 (by kernel_rfl) (by kernel_rfl) ?_
        simp only [List.take_succ_cons, List.take_zero, List.drop_succ_cons, List.drop_zero]
        repeat (go_big_quiet_step (fail))
        refine wpQuiet_nil ?_
        intro q
        have H6 := Lib.hid (H5.out.only0 ((Only.refl [] w5).drewN q))
        have O6 := Lib.hid (O5.out.drewN q)
        obtain ⟨w7, hd, m7, o7⟩ := H6.out.lnk.del (lks_ok H6.out.may) (List.mem_filter.2 ⟨HN.out, by simpa using HX.out.2⟩) 0
        have M7 := Lib.hid m7
        have O7 := Lib.hid o7
        clear m7 o7
        go_wp2_with fail
        go_ret
        have hx0 := HX.out.2
        have er := HR.out
        subst er
        refine ⟨rfl, ⟨HM.out, ?_, H6.out.blk.only O7.out (by have := H6.out.lb_; simp; omega), H6.out.ne, by show LkM w7 lb (lks (lessT l x)); rw [lks_less]; exact M7.out, by show MnM w7 mb (mns (lessT l x)); rw [mns_less0 hx0]; exact H6.out.mon.only O7.out (by have := H6.out.ne; simp; omega)⟩, (O6.out.more (by simp)).trans O7.out (by simp)⟩
        have := List.length_filter_le (fun y => !eqT y x) l
        have := H6.out.len
        show (List.filter (fun y => !eqT y x) l).length ≤ 1024
        omega
end Go.Proofs.Ytkodblhompphjaa
