/- The law StepReasons, walked. -/
import Derived.Test.YtafpakdoogdjaaaGreatDoorR2
import Derived.Test.YtafpakdoogdjaaaGreatDoorRw
namespace Go.Proofs.YtafpakdoogdjaaaGreatDoor
open Go.RowKit
set_option maxRecDepth 1000000
theorem wpList_load_rowG {P : Program} {ops : Array Oper} {rest : List Oper} {o : Oper} {a : Act} {w : World} {Q : Exit → Act → World → Prop} (hwn : Region.wanted o (yielded ops a.tmps) = true) (ty : TypeId) (x : Operand) (ho : o.op = .load ty x)
    (g : Nat) (hx : a.eval x = .pointer (some ⟨g, 0, none⟩)) (t : TypeId) (cs : Array Value) (fr : Nat × Nat) (d : TypeDesc) (hg : w.heap[g]? = some (.cells cs t fr))
    (hu : P.underlying ty = some d) (hd : (match d with | .struct _ | .array _ _ => true | _ => false) = true) (hi : (P.info? ty).map (·.size) = some cs.size)
    (h : wpList P ops Q rest (a.put o.dst (.agg cs)) w) : wpList P ops Q (o :: rest) a w := by
  unfold wpList
  rw [if_pos hwn]
  exact .inl (wp_load_row ty x ho g hx t cs fr d hg hu hd hi h)
set_option maxHeartbeats 8000000 in
theorem reasons_any (n : Int) (w : World) : Calls Tryz.prog 3 #[.int .i64 n] w fun e w1 => e = .returned (.bool true) ∧ Only [] w w1 := by
  have HS := Lib.hid (fun w => sum_any w)
  have HD := Lib.hid (fun b c w => do_nil b c w)
  have HR := Lib.hid (fun b c w => reply_nil b c w)
  have HA := Lib.hid (fun w => reason_any n w)
  have HB := Lib.hid (fun w => refReason_any n w)
  have HC := Lib.hid (fun w => same_any n w)
  have HK := Lib.hid (fun w => ask_any w)
  have HT := Lib.hid (fun b c p w h => reply_stack b c p w h)
  have HW := Lib.hid (fun w => awake_any w)
  have rs := store_com
  go_enter Tryz.func3, Tryz.ntmps3
  go_wp2_with fail
  (with_reducible refine (HS.out _).mono ?_)
  rintro e w1 ⟨⟨b1, c1, rfl⟩, o1⟩
  go_wp2_with fail
  (with_reducible refine (HD.out _ _ _).mono ?_)
  rintro e w2 ⟨rfl, o2⟩
  have O2 := Lib.hid ((o1.trans o2 (by simp)).alloc (.cells (ask0 0) 31))
  have L2 := Lib.hid (o1.trans o2 (by simp)).size
  have BZ := Lib.hid (Bk.made w2 31 (ask0 0))
  clear o1 o2
  go_wp2_with (refine wpList_store_row (by rfl) _ _ _ (by rfl) w2.heap.size (ask0 0) (by rfl) (by rfl) 31 _ BZ.out (by kernel_rfl) (by rfl) (by simp [Value.oneCell']) ?_)
  generalize hW : World.setRow _ _ _ = W3 at *
  have hw := row_set BZ.out hW
  have O3 := Lib.hid (O2.out.trans hw.2 (by have := L2.out; simp; omega))
  have B3 := Lib.hid hw.1
  clear hW hw O2 BZ
  go_wp2_with fail
  (with_reducible refine (HS.out _).mono ?_)
  rintro e w4 ⟨⟨b4, c4, rfl⟩, o4⟩
  have O4 := Lib.hid (O3.out.trans o4 (by simp))
  have B4 := Lib.hid (B3.out.only o4 (by simp))
  clear o4 O3 B3
  go_wp2_with fail
  (with_reducible refine (HR.out _ _ _).mono ?_)
  rintro e w5 ⟨rfl, o5⟩
  have O5 := Lib.hid (O4.out.trans o5 (by simp))
  have B5 := Lib.hid (B4.out.only o5 (by simp))
  clear o5 O4 B4
  go_wp2_with fail
  (with_reducible refine (HS.out _).mono ?_)
  rintro e w6 ⟨⟨b6, c6, rfl⟩, o6⟩
  have O6 := Lib.hid (O5.out.trans o6 (by simp))
  have B6 := Lib.hid (B5.out.only o6 (by simp))
  clear o6 O5 B5
  go_wp2_with fail
  have BS := Bk.made w6 45 stz
  (with_reducible refine (HT.out _ _ _ _ BS).mono ?_)
  clear BS
  rintro e w7 ⟨rfl, o7⟩
  have O7 := Lib.hid ((O6.out.alloc (.cells stz 45)).trans o7 (by simp))
  have B7 := Lib.hid ((B6.out.alloc (.cells stz 45)).only o7 (by simp))
  clear o7 O6 B6
  go_wp2_with fail
  (with_reducible refine (HA.out _).mono ?_)
  rintro e w8 ⟨rfl, o8⟩
  have O8 := Lib.hid (O7.out.trans o8 (by simp))
  have B8 := Lib.hid (B7.out.only o8 (by simp))
  clear o8 O7 B7
  go_wp2_with fail
  (with_reducible refine (HB.out _).mono ?_)
  rintro e w9 ⟨rfl, o9⟩
  have O9 := Lib.hid (O8.out.trans o9 (by simp))
  have B9 := Lib.hid (B8.out.only o9 (by simp))
  clear o9 O8 B8
  go_wp2_with fail
  (with_reducible refine (HC.out _).mono ?_)
  rintro e wa ⟨rfl, oa⟩
  have OA := Lib.hid (O9.out.trans oa (by simp))
  have BA := Lib.hid (B9.out.only oa (by simp))
  clear oa O9 B9
  go_wp2_with (refine wpList_load_rowG (by rfl) 31 _ (by rfl) w2.heap.size (by rfl) 31 (ask0 0) (0, 0) _ BA.out Tryz.underlying31 (by rfl) (by kernel_rfl) ?_)
  (with_reducible refine (HK.out _).mono ?_)
  rintro e wb ⟨rfl, ob⟩
  have OB := Lib.hid (OA.out.trans ob (by simp))
  clear ob OA BA
  go_wp2_with fail
  (with_reducible refine (HW.out _).mono ?_)
  rintro e wc ⟨rfl, oc⟩
  have OC := Lib.hid (OB.out.trans oc (by simp))
  clear oc OB
  go_wp2_with fail
  go_ret
  exact ⟨rfl, OC.out⟩
end Go.Proofs.YtafpakdoogdjaaaGreatDoor
