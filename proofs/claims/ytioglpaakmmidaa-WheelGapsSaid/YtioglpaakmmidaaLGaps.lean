/- The law WheelGaps, walked. -/
import Derived.Test.YtioglpaakmmidaaLNexts
import Derived.Test.YtioglpaakmmidaaWServed2
namespace Go.Proofs.Ytioglpaakmmidaa
open Go.RowKit

theorem eqInt3 (a b c d e f : Int) (w : World) : (Op.equalIn 10000 35 (.agg #[.int .i64 a, .int .i64 b, .int .i64 c]) (.agg #[.int .i64 d, .int .i64 e, .int .i64 f])).run Try.prog w = .ok (a == d && b == e && c == f) w := by
  have u3 := Try.underlying3
  have a3 := Try.isAgg3
  have z3 := Try.sizeOf3
  rw [show (10000 : Nat) = 9999 + 1 from rfl, Op.equalIn]
  simp only [Sem.run_bind, run_underlying Try.underlying35, Result.andThen_ok]
  simp only [Std.Legacy.Range.forIn_eq_forIn_range', Std.Legacy.Range.size, Nat.sub_zero, Nat.add_sub_cancel, Nat.div_one, List.range'_succ, List.range'_zero, List.forIn_cons, List.forIn_nil]
  go_simp
  by_cases h1 : a = d <;> by_cases h2 : b = e <;> by_cases h3 : c = f <;> simp [h1, h2, h3]

set_option maxHeartbeats 2000000 in
theorem gaps_any (A : Option Addr) (l : List Int) (cap : Nat) (c h t : Int) (w : World) (hl : Rd w A l) (hlen : l.length + 70 ≤ 17592186044416) (ht : t ≤ 9223372036854775807) :
    Calls Try.prog 4 #[.slice A l.length cap, .int .i64 c, .agg #[.int .i64 h, .int .i64 t]] w fun e w' => e = .returned (.bool true) ∧ Only [] w w' := by
  have HL := Lib.hid hl
  have HB := Lib.hid (Bk.made w 32 #[.int .i64 h, .int .i64 t])
  have K0 := lent_any (w := w.alloc (.cells #[.int .i64 h, .int .i64 t] 32)) A l cap (hl.only ((Only.refl [] w).alloc _) (by simp)) hlen
  rw [World.size_alloc] at K0
  have HK0 := Lib.hid K0
  obtain ⟨r, hr⟩ : ∃ r, r = gapR l c := ⟨_, rfl⟩
  obtain ⟨f, hf⟩ : ∃ f, f = servF l h t := ⟨_, rfl⟩
  obtain ⟨x, hx⟩ : ∃ x, x = servE l h t := ⟨_, rfl⟩
  have HR := Lib.hid hr
  have HF := Lib.hid hf
  have HX := Lib.hid hx
  clear hl K0 hr hf hx
  go_enter Try.func4, Try.ntmps4
  go_wp2_with fail
  (with_reducible refine HK0.out.mono ?_)
  rintro e w1 ⟨rfl, bk1, o1⟩
  have O1 := Lib.hid (((Only.refl [] w).alloc (.cells #[.int .i64 h, .int .i64 t] 32)).trans o1 (by simp))
  have BG := Lib.hid bk1
  have BB1 := Lib.hid (HB.out.only o1 (by simp))
  have K1 := gap_any (some ⟨w.heap.size + 1, 0, none⟩) l (l.length + 70) c w1 (rd_front bk1) (by omega)
  rw [← HR.out] at K1
  simp only [two] at K1
  have HK1 := Lib.hid K1
  clear bk1 o1 K1 HK0
  go_wp2_with fail
  (with_reducible refine HK1.out.mono ?_)
  rintro e w2 ⟨rfl, o2⟩
  have O2 := Lib.hid (O1.out.trans o2 (by simp))
  have BG2 := Lib.hid (BG.out.only o2 (by simp))
  have BB2 := Lib.hid (BB1.out.only o2 (by simp))
  have K2 := rgap_any A l cap c w2 (HL.out.only O2.out (by simp)) (by omega)
  rw [← HR.out] at K2
  simp only [two] at K2
  have HK2 := Lib.hid K2
  clear o2 K2 HK1
  go_wp2_with fail
  (with_reducible refine HK2.out.mono ?_)
  rintro e w3 ⟨rfl, o3⟩
  have O3 := Lib.hid (O2.out.trans o3 (by simp))
  have BG3 := Lib.hid (BG2.out.only o3 (by simp))
  have BB3 := Lib.hid (BB2.out.only o3 (by simp))
  have c0 : w3.cell? ⟨w.heap.size, 0, none⟩ = some (.int .i64 h) := BB3.out.cell0 rfl
  have c1 : w3.cell? ⟨w.heap.size, 1, none⟩ = some (.int .i64 t) := BB3.out.cell0 rfl
  have K3 := served_any (some ⟨w.heap.size + 1, 0, none⟩) l (l.length + 70) h t w3 (rd_front BG3.out) (by omega) ht
  rw [← HF.out, ← HX.out] at K3
  simp only [servV, c3] at K3
  have HK3 := Lib.hid K3
  clear o3 K3 HK2
  go_wp2_with fail
  (with_reducible refine HK3.out.mono ?_)
  rintro e w4 ⟨rfl, o4⟩
  have O4 := Lib.hid (O3.out.trans o4 (by simp))
  have BG4 := Lib.hid (BG3.out.only o4 (by simp))
  have BB4 := Lib.hid (BB3.out.only o4 (by simp))
  clear c0 c1
  have c0 : ∀ o, (w4.alloc o).cell? ⟨w.heap.size, 0, none⟩ = some (.int .i64 h) := fun o => (BB4.out.alloc o).cell0 rfl
  have c1 : ∀ o, (w4.alloc o).cell? ⟨w.heap.size, 1, none⟩ = some (.int .i64 t) := fun o => (BB4.out.alloc o).cell0 rfl
  have K4 := fun o => rserved_any A l cap h t (w4.alloc o) (HL.out.only (O4.out.alloc o) (by simp)) (by omega) ht
  rw [← HF.out, ← HX.out] at K4
  simp only [servV, c3] at K4
  have HK4 := Lib.hid K4
  clear o4 K4 HK3
  go_wp2_with fail
  (with_reducible refine (HK4.out _).mono ?_)
  rintro e w5 ⟨rfl, o5⟩
  have O5 := Lib.hid ((O4.out.alloc _).trans o5 (by simp))
  have BG5 := Lib.hid ((BG4.out.alloc _).only o5 (by simp))
  have BC5 := Lib.hid ((Bk.made w4 35 (c3 f)).only o5 (by simp))
  obtain ⟨d0, d1, d2⟩ := c3_cells BC5.out
  have hz := BC5.out.lt
  clear c0 c1 o5 HK4
  have K5 := fun o => kept_any (w := w5.alloc o) (w.heap.size + 1) A l cap (HL.out.only (O5.out.alloc o) (by simp)) (BG5.out.alloc o) (by omega)
  have HK5 := Lib.hid K5
  clear K5
  have t1 : (r.1 == r.1) = true := beq_self_eq_true _
  have t2 : (r.2 == r.2) = true := beq_self_eq_true _
  have t3 : (x == x) = true := beq_self_eq_true _
  have t4 : ∀ w, (Op.equalIn 10000 35 (.agg #[.int .i64 (f 0), .int .i64 (f 1), .int .i64 (f 2)]) (.agg #[.int .i64 (f 0), .int .i64 (f 1), .int .i64 (f 2)])).run Try.prog w = .ok true w := fun w => by rw [eqInt3]; simp
  go_wp2_with fail
  (with_reducible refine (HK5.out _).mono ?_)
  rintro e w6 ⟨rfl, o6⟩
  have O6 := Lib.hid ((O5.out.alloc _).trans o6 (by simp))
  clear o6 HK5
  go_wp2_with fail
  (with_reducible refine (awake_any _).mono ?_)
  rintro e w7 ⟨rfl, o7⟩
  have O7 := Lib.hid (O6.out.trans o7 (by simp))
  clear o7
  go_wp2_with fail
  go_ret
  exact ⟨rfl, O7.out⟩
end Go.Proofs.Ytioglpaakmmidaa
