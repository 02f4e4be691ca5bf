/- Instructions of the small module: which may be, where they lead, what they take and leave. -/
import Derived.Test.YtgpgcjdneikokaaDoorN2
import Derived.Deep.RegionHeld3
namespace Go.Proofs.YtgpgcjdneikokaaDoor
open Go.RowKit

/-- An instruction's cells: operation, its term's kind and number; all else zero. -/
abbrev ins (op k n : Int) : Array Value := #[.int .i64 op, .int .i64 0, .int .i64 0, .int .i64 k, .int .i64 n, .complex .f64 0 0, .string ⟨#[]⟩, .int .i64 0, .int .i64 0, .slice none 0 0, .slice none 0 0]
theorem Bk.eleven {w : World} {b : Nat} {t : TypeId} {v0 v1 v2 v3 v4 v5 v6 v7 v8 v9 v10 : Value} (h : Bk w b t #[v0, v1, v2, v3, v4, v5, v6, v7, v8, v9, v10]) :
    w.cell? ⟨b, 0, none⟩ = some v0 ∧ w.cell? ⟨b, 1, none⟩ = some v1 ∧ w.cell? ⟨b, 2, none⟩ = some v2 ∧ w.cell? ⟨b, 3, none⟩ = some v3 ∧ w.cell? ⟨b, 4, none⟩ = some v4 ∧ w.cell? ⟨b, 5, none⟩ = some v5 ∧ w.cell? ⟨b, 6, none⟩ = some v6 ∧ w.cell? ⟨b, 7, none⟩ = some v7 ∧ w.cell? ⟨b, 8, none⟩ = some v8 ∧ w.cell? ⟨b, 9, none⟩ = some v9 ∧ w.cell? ⟨b, 10, none⟩ = some v10 :=
  ⟨h.cell0 rfl, h.cell0 rfl, h.cell0 rfl, h.cell0 rfl, h.cell0 rfl, h.cell0 rfl, h.cell0 rfl, h.cell0 rfl, h.cell0 rfl, h.cell0 rfl, h.cell0 rfl⟩
/-- One of the two instructions of the small module: push 1, ret. -/
def Two (op k n : Int) : Prop := (op = 1 ∧ k = 3 ∧ n = 1) ∨ (op = 29 ∧ k = 0 ∧ n = 0)
set_option maxRecDepth 20000 in
set_option maxHeartbeats 1000000 in
theorem jumps_none (op k n : Int) (h : Two op k n) (w : World) : Calls Tryd.prog 21 #[.agg (ins op k n)] w fun e w' => e = .returned (.slice none 0 0) ∧ Only [] w w' := by
  rcases h with ⟨rfl, rfl, rfl⟩ | ⟨rfl, rfl, rfl⟩
  all_goals
    go_enter Tryd.func21, Tryd.ntmps21
    go_wp2_with fail
    refine wp_loop_rounds 1 ?_
    rw [rounds_succ]
    go_wp2_with fail
    go_ret
    exact ⟨rfl, (Only.refl _ _).alloc _⟩
theorem app0_run (g : Nat) (w : World) (ty : TypeId) : (Builtin.append_ #[47, 47] ty #[.slice (some ⟨g, 0, none⟩) 1 1, .slice none 0 0]).run Tryd.prog w = .ok (.slice (some ⟨g, 0, none⟩) 1 1) w := by
  obtain ⟨i0, hi, hz0, hz1, hz2⟩ := info_parts int_info
  simp [Builtin.append_, run_underlying Tryd.underlying47, sizeOf, typeInfo, hi, Builtin.lenOf, Builtin.firstCells, storeCells]
theorem wpList_app0 (w : World) {ops : Array Oper} {rest : List Oper} {o : Oper} {a : Act} {Q : Exit → Act → World → Prop} (hgd : o.guard = none) (s x : Operand)
    (ho : o.op = .call { callee := .builtin .append, args := #[s, x], argTypes := #[47, 47] })
    {g : Nat} (hs : a.eval s = .slice (some ⟨g, 0, none⟩) 1 1) (hx : a.eval x = .slice none 0 0)
    (h : wpList Tryd.prog ops Q rest (a.put o.dst (.slice (some ⟨g, 0, none⟩) 1 1)) w) : wpList Tryd.prog ops Q (o :: rest) a w := by
  have hr := app0_run g w o.type
  refine wpList_plain hgd fun _ hK => ?_
  unfold Oper.wp execOp
  simp only [ho, resolve, invoke, builtin, Sem.run_bind, Sem.run_pure, Result.andThen_ok, List.map_toArray, List.map_cons, List.map_nil, hs, hx, hr]
  exact hK _ _ h
set_option maxRecDepth 20000 in
set_option maxHeartbeats 1000000 in
theorem leads_push (w : World) : Calls Tryd.prog 35 #[.agg (ins 1 3 1), .int .i64 0] w fun e w' => ∃ g, e = .returned (.slice (some ⟨g, 0, none⟩) 1 1) ∧ w.heap.size ≤ g ∧ Bk w' g 3 #[.int .i64 1] ∧ Only [] w w' := by
  have HJ := Lib.hid (fun w => jumps_none 1 3 1 (.inl ⟨rfl, rfl, rfl⟩) w)
  go_enter Tryd.func35, Tryd.ntmps35
  go_wp2_with fail
  (with_reducible refine (HJ.out _).mono ?_)
  rintro e w1 ⟨rfl, o1⟩
  have B1 := Lib.hid ((Bk.madeAt (w := w.alloc (.cells (ins 1 3 1) 35)) (t := 3) (cs := #[.int .i64 1]) (b := w.heap.size + 1) (by simp)).only o1 (by simp))
  have O1 := Lib.hid ((((Only.refl [] w).alloc (.cells (ins 1 3 1) 35)).alloc (.cells #[.int .i64 1] 3)).trans o1 (by simp))
  clear o1
  go_wp2_with (at_builtin; refine wpList_app0 _ (by rfl) _ _ (by rfl) (g := w.heap.size + 1) (by rfl) (by rfl) ?_)
  go_ret
  exact ⟨_, rfl, by omega, B1.out, O1.out⟩
set_option maxRecDepth 20000 in
set_option maxHeartbeats 1000000 in
theorem leads_ret (w : World) : Calls Tryd.prog 35 #[.agg (ins 29 0 0), .int .i64 1] w fun e w' => e = .returned (.slice none 0 0) ∧ Only [] w w' := by
  have HJ := Lib.hid (fun w => jumps_none 29 0 0 (.inr ⟨rfl, rfl, rfl⟩) w)
  go_enter Tryd.func35, Tryd.ntmps35
  go_wp2_with fail
  (with_reducible refine (HJ.out _).mono ?_)
  rintro e w1 ⟨rfl, o1⟩
  have O1 := Lib.hid (((Only.refl [] w).alloc (.cells (ins 29 0 0) 35)).trans o1 (by simp))
  clear o1
  go_wp2_with fail
  go_ret
  exact ⟨rfl, O1.out⟩
set_option maxRecDepth 20000 in
set_option maxHeartbeats 1000000 in
theorem effect_two (m : Array Value) (op k n : Int) (h : Two op k n) (w : World) : Calls Tryd.prog 34 #[.agg m, .agg (ins op k n)] w fun e w' => e = .returned (.tuple #[.int .i64 (if op = 1 then 0 else 1), .int .i64 (if op = 1 then 1 else 0), .int .i64 0]) ∧ Only [] w w' := by
  rcases h with ⟨rfl, rfl, rfl⟩ | ⟨rfl, rfl, rfl⟩
  · go_enter Tryd.func34, Tryd.ntmps34
    go_wp2
    exact bodyPost_ret (v := .tuple #[.int .i64 0, .int .i64 1, .int .i64 0]) (by simp [results, Tryd.results34, go_sem]) rfl ⟨rfl, ((Only.refl _ _).alloc _).alloc _⟩
  · go_enter Tryd.func34, Tryd.ntmps34
    go_wp2
    exact bodyPost_ret (v := .tuple #[.int .i64 1, .int .i64 0, .int .i64 0]) (by simp [results, Tryd.results34, go_sem]) rfl ⟨rfl, ((Only.refl _ _).alloc _).alloc _⟩
set_option maxRecDepth 20000 in
set_option maxHeartbeats 4000000 in
theorem may_push (m : Array Value) (w : World) : Calls Tryd.prog 20 #[.agg m, .int .i64 0, .agg (ins 1 3 1)] w fun e w' => e = .returned (.bool true) ∧ Only [] w w' := by
  have HC := Lib.hid (fun w => check_of may_one w)
  have HZ := Lib.hid (fun w => zero_no w)
  have BI := Lib.hid (Bk.madeAt (w := w.alloc (.cells m 45)) (t := 35) (cs := ins 1 3 1) (b := w.heap.size + 1) (by simp))
  have O0 := Lib.hid (((Only.refl [] w).alloc (.cells m 45)).alloc (.cells (ins 1 3 1) 35))
  obtain ⟨c0, c1, c2, c3, c4, c5, c6, c7, c8, c9, c10⟩ := BI.out.eleven
  go_enter Tryd.func20, Tryd.ntmps20
  go_wp2_with fail
  go_region_held3 (fun w' => w'.cell? ⟨w.heap.size + 1, 1, none⟩ = some (.int .i64 0) ∧ w'.cell? ⟨w.heap.size + 1, 2, none⟩ = some (.int .i64 0) ∧ w'.cell? ⟨w.heap.size + 1, 3, none⟩ = some (.int .i64 3) ∧ w'.cell? ⟨w.heap.size + 1, 4, none⟩ = some (.int .i64 1) ∧ w'.cell? ⟨w.heap.size + 1, 5, none⟩ = some (.complex .f64 0 0) ∧ w'.cell? ⟨w.heap.size + 1, 6, none⟩ = some (.string ⟨#[]⟩) ∧ w'.cell? ⟨w.heap.size + 1, 7, none⟩ = some (.int .i64 0) ∧ w'.cell? ⟨w.heap.size + 1, 8, none⟩ = some (.int .i64 0) ∧ w'.cell? ⟨w.heap.size + 1, 9, none⟩ = some (.slice none 0 0) ∧ w'.cell? ⟨w.heap.size + 1, 10, none⟩ = some (.slice none 0 0)) (first | exact ⟨by assumption, by assumption, by assumption, by assumption, by assumption, by assumption, by assumption, by assumption, by assumption, by assumption⟩ | go_keep)
    (first
      | (go_at_call 26; (with_reducible refine (HZ.out _).mono ?_); rintro e w2 ⟨rfl, o, rfl⟩; obtain ⟨d0, d1, d2, d3, d4, d5, d6, d7, d8, d9, d10⟩ := (BI.out.drew.alloc o).eleven))
  have OA := Lib.hid (O0.out.drew.alloc o)
  have BA := Lib.hid (BI.out.drew.alloc o)
  go_wp2_with fail
  (with_reducible refine (HC.out _).mono ?_)
  rintro e w3 ⟨rfl, o3⟩
  have O3 := Lib.hid (OA.out.trans o3 (by simp))
  have B3 := Lib.hid (BA.out.only o3 (by simp))
  have k0 := B3.out.cell0 (i := 0) rfl
  clear o3
  go_wp2_with fail
  (with_reducible refine (isOp_yes _ (by decide) _).mono ?_)
  rintro e w4 ⟨rfl, rfl⟩
  go_wp2_with fail
  go_ret
  exact ⟨rfl, O3.out⟩
set_option maxRecDepth 20000 in
set_option maxHeartbeats 4000000 in
theorem may_ret (m : Array Value) (w : World) : Calls Tryd.prog 20 #[.agg m, .int .i64 0, .agg (ins 29 0 0)] w fun e w' => e = .returned (.bool true) ∧ Only [] w w' := by
  have HZ := Lib.hid (fun w => zero_yes w)
  have BI := Lib.hid (Bk.madeAt (w := w.alloc (.cells m 45)) (t := 35) (cs := ins 29 0 0) (b := w.heap.size + 1) (by simp))
  have O0 := Lib.hid (((Only.refl [] w).alloc (.cells m 45)).alloc (.cells (ins 29 0 0) 35))
  obtain ⟨c0, c1, c2, c3, c4, c5, c6, c7, c8, c9, c10⟩ := BI.out.eleven
  go_enter Tryd.func20, Tryd.ntmps20
  go_wp2_with fail
  go_region_held3 (fun w' => w'.cell? ⟨w.heap.size + 1, 1, none⟩ = some (.int .i64 0) ∧ w'.cell? ⟨w.heap.size + 1, 2, none⟩ = some (.int .i64 0) ∧ w'.cell? ⟨w.heap.size + 1, 3, none⟩ = some (.int .i64 0) ∧ w'.cell? ⟨w.heap.size + 1, 4, none⟩ = some (.int .i64 0) ∧ w'.cell? ⟨w.heap.size + 1, 5, none⟩ = some (.complex .f64 0 0) ∧ w'.cell? ⟨w.heap.size + 1, 6, none⟩ = some (.string ⟨#[]⟩) ∧ w'.cell? ⟨w.heap.size + 1, 7, none⟩ = some (.int .i64 0) ∧ w'.cell? ⟨w.heap.size + 1, 8, none⟩ = some (.int .i64 0) ∧ w'.cell? ⟨w.heap.size + 1, 9, none⟩ = some (.slice none 0 0) ∧ w'.cell? ⟨w.heap.size + 1, 10, none⟩ = some (.slice none 0 0)) (first | exact ⟨by assumption, by assumption, by assumption, by assumption, by assumption, by assumption, by assumption, by assumption, by assumption, by assumption⟩ | go_keep)
    (first
      | (go_at_call 26; (with_reducible refine (HZ.out _).mono ?_); rintro e w2 ⟨rfl, o, rfl⟩; obtain ⟨d0, d1, d2, d3, d4, d5, d6, d7, d8, d9, d10⟩ := (BI.out.drew.alloc o).eleven))
  have OA := Lib.hid (O0.out.drew.alloc o)
  have BA := Lib.hid (BI.out.drew.alloc o)
  go_wp2_with fail
  (with_reducible refine (isOp_yes _ (by decide) _).mono ?_)
  rintro e w4 ⟨rfl, rfl⟩
  go_wp2_with fail
  go_ret
  exact ⟨rfl, OA.out⟩
end Go.Proofs.YtgpgcjdneikokaaDoor
