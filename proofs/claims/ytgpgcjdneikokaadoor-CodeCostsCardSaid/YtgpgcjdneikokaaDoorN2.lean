/- The parts of an instruction and of a name that may be: term.Check of an atom of one letter and of 1; a term that is zero. -/
import Derived.Test.YtgpgcjdneikokaaDoorN1
import Derived.BigQuiet
namespace Go.Proofs.YtgpgcjdneikokaaDoor
open Go.RowKit

/-- A term's cells: kind, number, name; all else zero. -/
abbrev tk (k n : Int) (S : ByteArray) : Array Value := #[.int .i64 k, .int .i64 n, .complex .f64 0 0, .string S, .int .i64 0, .int .i64 0, .slice none 0 0]
theorem eqPid (w : World) : (Op.equalIn 10000 29 (.agg #[.int .i64 0, .int .i64 0]) (.agg #[.int .i64 0, .int .i64 0])).run Tryd.prog w = .ok true w := by
  kernel_rfl
theorem z64 : FloatKind.f64.format.order 0 0 = some .eq := by decide
theorem Bk.madeAt {w : World} {t : TypeId} {cs : Array Value} {b : Nat} (h : b = w.heap.size) : Bk (w.alloc (.cells cs t)) b t cs := by
  subst h
  exact Bk.made _ _ _
theorem Bk.seven {w : World} {b : Nat} {t : TypeId} {v0 v1 v2 v3 v4 v5 v6 : Value} (h : Bk w b t #[v0, v1, v2, v3, v4, v5, v6]) :
    w.cell? ⟨b, 0, none⟩ = some v0 ∧ w.cell? ⟨b, 1, none⟩ = some v1 ∧ w.cell? ⟨b, 2, none⟩ = some v2 ∧ w.cell? ⟨b, 3, none⟩ = some v3 ∧ w.cell? ⟨b, 4, none⟩ = some v4 ∧ w.cell? ⟨b, 5, none⟩ = some v5 ∧ w.cell? ⟨b, 6, none⟩ = some v6 :=
  ⟨h.cell0 rfl, h.cell0 rfl, h.cell0 rfl, h.cell0 rfl, h.cell0 rfl, h.cell0 rfl, h.cell0 rfl⟩
/-- A name of one small letter that the module bears. -/
def Let1 (S : ByteArray) : Prop := S = ⟨#[109]⟩ ∨ S = ⟨#[102]⟩
set_option maxRecDepth 20000 in
set_option maxHeartbeats 1000000 in
theorem atom_one (S : ByteArray) (h : Let1 S) (w : World) : Calls Tryd.prog 38 #[.string S] w fun e w' => e = .returned (.bool true) ∧ w = w' := by
  rcases h with rfl | rfl
  all_goals
    go_enter Tryd.func38, Tryd.ntmps38
    go_wp2
    refine wp_loop_rounds 2 ?_
    rw [rounds_succ]
    go_wp2
    rw [rounds_succ]
    go_wp2
    go_ret
    exact ⟨rfl, rfl⟩
def May (k n : Int) (S : ByteArray) : Prop := ∀ w, Calls Tryd.prog 30 #[.agg (tk k n S)] w fun e w' => e = .returned (.bool true) ∧ Only [] w w'
theorem May.use {k n : Int} {S : ByteArray} (h : May k n S) (w : World) : Calls Tryd.prog 30 #[.agg (tk k n S)] w fun e w' => e = .returned (.bool true) ∧ Only [] w w' := h w
set_option maxRecDepth 20000 in
set_option maxHeartbeats 1000000 in
theorem may_one : May 3 1 ⟨#[]⟩ := by
  intro w
  have z0 := z64
  have e0 := eqPid
  go_enter Tryd.func30, Tryd.ntmps30
  go_wp2_with fail
  go_quiet (fail)
  go_wp2
  go_ret
  exact ⟨rfl, ((Only.refl _ _).alloc _).drewN _⟩
set_option maxRecDepth 20000 in
set_option maxHeartbeats 1000000 in
theorem may_atom {S : ByteArray} (h : Let1 S) : May 5 0 S := by
  intro w
  have z0 := z64
  have e0 := eqPid
  have HA := Lib.hid (fun w => atom_one S h w)
  clear h
  go_enter Tryd.func30, Tryd.ntmps30
  go_wp2_with fail
  go_quiet (fail)
  go_wp2_with fail
  (with_reducible refine (HA.out _).mono ?_)
  rintro e w' ⟨rfl, rfl⟩
  go_wp2_with fail
  go_ret
  exact ⟨rfl, ((Only.refl _ _).alloc _).drewN _⟩
set_option maxHeartbeats 1000000 in
theorem through_yes {k n : Int} {S : ByteArray} (b : Nat) (w : World) (hb : Bk w b 70 #[.int .i64 0, .int .i64 0]) (hm : May k n S) :
    Calls Tryd.prog 25 #[.pointer (some ⟨b, 0, none⟩), .agg (tk k n S), .int .i64 0] w fun e w' => e = .returned (.int .i64 0) ∧ Only [b] w w' := by
  have HM := Lib.hid hm
  have HB := Lib.hid hb
  have c0 : ∀ o, (w.alloc o).cell? ⟨b, 0, none⟩ = some (.int .i64 0) := fun o => (hb.alloc o).cell0 rfl
  have hlt := hb.lt
  clear hb hm
  go_enter Tryd.func25, Tryd.ntmps25
  go_wp2_with fail
  (with_reducible refine (HM.out.use _).mono ?_)
  rintro e w1 ⟨rfl, o1⟩
  have O1 := Lib.hid (((Only.refl [] w).alloc (.cells (tk k n S) 32)).trans o1 (by simp))
  have HB1 := Lib.hid (HB.out.only O1.out (by simp))
  have BT := Lib.hid ((Bk.made w 32 (tk k n S)).only o1 (by simp))
  have d0 := HB1.out.cell0 (i := 0) rfl
  have d1 := HB1.out.cell0 (i := 1) rfl
  have f0 := HB1.out.free 0
  have f1 := HB1.out.free 1
  have hsz : w.heap.size ≠ b := by omega
  have cl : ∀ u v, ((w1.setCell ⟨b, 0, none⟩ u).setCell ⟨b, 1, none⟩ v).cell? ⟨w.heap.size, 6, none⟩ = some (.slice none 0 0) := fun u v => ((BT.out.away (p := ⟨b, 0, none⟩) hsz u).away (p := ⟨b, 1, none⟩) hsz v).cell0 rfl
  have d1' : ∀ u, (w1.setCell ⟨b, 0, none⟩ u).cell? ⟨b, 1, none⟩ = some (.int .i64 0) := fun u => (HB1.out.set 0 u).cell0 (by rfl)
  have f1' : ∀ u, (w1.setCell ⟨b, 0, none⟩ u).frozen? ⟨b, 1, none⟩ = false := fun u => (HB1.out.set 0 u).free 1
  clear o1 c0
  go_wp2_with fail
  refine wp_loop_rounds 1 ?_
  rw [rounds_succ]
  go_wp2_with fail
  go_ret
  exact ⟨rfl, ((O1.out.more (by simp)).set (by simp) _).set (by simp) _⟩
theorem check_of {k n : Int} {S : ByteArray} (hm : May k n S) (w : World) : Calls Tryd.prog 19 #[.agg (tk k n S)] w fun e w' => e = .returned (.int .i64 0) ∧ Only [] w w' := by
  have HM := Lib.hid (fun b w hb => through_yes b w hb hm)
  clear hm
  go_enter Tryd.func19, Tryd.ntmps19
  go_wp2_with fail
  (with_reducible refine (HM.out _ _ ?_).mono ?_)
  · exact Bk.madeAt (by simp)
  rintro e w1 ⟨rfl, o1⟩
  have O1 := Lib.hid ((((Only.refl [] w).alloc (.cells (tk k n S) 32)).alloc (.cells #[.int .i64 0, .int .i64 0] 70)).trans o1 (by simp))
  clear o1
  go_wp2_with fail
  go_ret
  exact ⟨rfl, O1.out⟩
theorem cname_yes (S : ByteArray) (h : Let1 S) (w : World) : Calls Tryd.prog 14 #[.string S] w fun e w' => e = .returned (.bool true) ∧ Only [] w w' := by
  have HC := Lib.hid (fun w => check_of (may_atom h) w)
  clear h
  go_enter Tryd.func14, Tryd.ntmps14
  go_wp2_with fail
  (with_reducible refine (HC.out _).mono ?_)
  rintro e w1 ⟨rfl, o1⟩
  have O1 := Lib.hid o1
  clear o1
  go_wp2_with fail
  go_ret
  exact ⟨rfl, O1.out⟩
set_option maxRecDepth 20000 in
set_option maxHeartbeats 1000000 in
theorem zero_yes (w : World) : Calls Tryd.prog 26 #[.agg (tk 0 0 ⟨#[]⟩)] w fun e w' => e = .returned (.bool true) ∧ ∃ o, w' = w.alloc o := by
  have z0 := z64
  have e0 := eqPid
  go_enter Tryd.func26, Tryd.ntmps26
  go_wp2_with fail
  go_ret
  exact ⟨rfl, _, rfl⟩
set_option maxRecDepth 20000 in
set_option maxHeartbeats 1000000 in
theorem zero_no (w : World) : Calls Tryd.prog 26 #[.agg (tk 3 1 ⟨#[]⟩)] w fun e w' => e = .returned (.bool false) ∧ ∃ o, w' = w.alloc o := by
  have z0 := z64
  have e0 := eqPid
  go_enter Tryd.func26, Tryd.ntmps26
  go_wp2_with fail
  go_ret
  exact ⟨rfl, _, rfl⟩
end Go.Proofs.YtgpgcjdneikokaaDoor
