/- Alike of two lists; the small module tried: awake. -/
import Derived.Test.YtgpgcjdneikokaaDoorNC
namespace Go.Proofs.YtgpgcjdneikokaaDoor
open Go.RowKit

set_option maxRecDepth 20000 in
set_option maxHeartbeats 4000000 in
theorem alike_01 (a b : Nat) (w : World) (ha : Bk w a 3 #[.int .i64 0, .int .i64 1]) (hb : Bk w b 3 #[.int .i64 0, .int .i64 1]) : Calls Tryd.prog 12 #[.slice (some ⟨a, 0, none⟩) 2 2, .slice (some ⟨b, 0, none⟩) 2 2] w fun e w' => e = .returned (.bool true) ∧ Only [] w w' := by
  have a0 := ha.cell0 (i := 0) rfl
  have a1 := ha.cell0 (i := 1) rfl
  have b0 := hb.cell0 (i := 0) rfl
  have b1 := hb.cell0 (i := 1) rfl
  clear ha hb
  go_enter Tryd.func12, Tryd.ntmps12
  go_wp2_with fail
  refine wp_loop_rounds 3 ?_
  rw [rounds_succ]
  go_wp2_with fail
  go_quiet (fail)
  go_wp2_with fail
  rw [rounds_succ]
  go_wp2_with fail
  go_quiet (fail)
  go_wp2_with fail
  rw [rounds_succ]
  go_wp2_with fail
  go_ret
  exact ⟨rfl, (Only.refl [] w).drewN _⟩
set_option maxRecDepth 100000 in
set_option maxHeartbeats 4000000 in
theorem awake_any (w : World) (hn : NM w) : Calls Tryd.prog 6 #[] w fun e w' => e = .returned (.bool true) ∧ Only [] w w' := by
  have HS := Lib.hid (fun w => small_any w)
  have HC := Lib.hid (fun w fb cb hs => check_2 w fb cb hs)
  have HD := Lib.hid (fun w fb cb hs => check_1 w fb cb hs)
  have HH := Lib.hid (fun w fb cb hs => hgts w fb cb hs)
  have HA := Lib.hid (fun a b w ha hb => alike_01 a b w ha hb)
  have HO := Lib.hid (show ∀ w, NM w → Calls Tryd.prog 7 #[.string ⟨#[121, 105, 101, 108, 100]⟩] w fun e w' => e = .returned (.tuple #[.int .i64 46, .int .i64 0]) ∧ w = w' from fun w hn => opOf_any 46 w (by decide) (by decide) hn)
  have HK := Lib.hid (show ∀ w, Calls Tryd.prog 5 #[.agg (ics0 34)] w fun e w' => e = .returned (.tuple #[.int .i64 8, .int .i64 0]) ∧ Only [] w w' from fun w => cost_yes 34 w (by decide) (by decide))
  have HN := Lib.hid hn
  clear hn
  go_enter Tryd.func6, Tryd.ntmps6
  go_wp2_with fail
  (with_reducible refine (HS.out _).mono ?_)
  rintro e w1 ⟨fb, cb, rfl, -, -, -, s1, o1⟩
  have S1 := Lib.hid s1
  have O1 := Lib.hid o1
  clear s1 o1
  go_wp2_with fail
  (with_reducible refine (HC.out _ _ _ S1.out).mono ?_)
  rintro e w2 ⟨rfl, o2⟩
  have O2 := Lib.hid (O1.out.trans o2 (by simp))
  clear o2 S1 O1
  go_wp2_with fail
  (with_reducible refine (HS.out _).mono ?_)
  rintro e w3 ⟨fb, cb, rfl, -, -, -, s3, o3⟩
  have S3 := Lib.hid s3
  have O3 := Lib.hid (O2.out.trans o3 (by simp))
  clear s3 o3 O2
  go_wp2_with fail
  (with_reducible refine (HH.out _ _ _ S3.out).mono ?_)
  rintro e w4 ⟨hb, rfl, -, b4, o4⟩
  have B4 := Lib.hid b4
  have O4 := Lib.hid (O3.out.trans o4 (by simp))
  clear b4 o4 S3 O3
  go_wp2_with fail
  (with_reducible refine (HS.out _).mono ?_)
  rintro e w5 ⟨gb, db, rfl, l5, m5, n5, s5, o5⟩
  have B5 := Lib.hid ((B4.out.only o5 (by simp)).alloc (.cells (md gb) 45))
  have S5 := Lib.hid (s5.alloc (.cells (md gb) 45))
  have M5 := Lib.hid (Bk.made w5 45 (md gb))
  have O5 := Lib.hid ((O4.out.trans o5 (by simp)).alloc (.cells (md gb) 45))
  have L5 := Lib.hid (And.intro (Nat.le_trans O4.out.size l5) (And.intro B4.out.lt l5))
  clear l5 m5 n5 s5 o5 B4 O4
  have m0 := M5.out.cell0 (i := 0) rfl
  have m1 := M5.out.cell0 (i := 1) rfl
  obtain ⟨g0, g1, g2, g3⟩ := S5.out.fs
  have gf := S5.out.f.free 3
  go_upto_region 4 with fail
  go_cut [26] (fun x wx => wx = ((w5.alloc (.cells (md gb) 45)).setCell ⟨gb, 3, none⟩ (.slice (some ⟨db, 0, none⟩) 1 2)).drew)
  case first =>
    go_region
    all_goals (go_wp2_with fail; go_meet; exact rfl)
  case rest =>
    have s6 : Sm wc gb db 1 := hcut ▸ ⟨(S5.out.f.set 3 (.slice (some ⟨db, 0, none⟩) 1 2)).drew, (S5.out.c.away (S5.out.c.apart S5.out.f (by decide)) _).drew⟩
    have M6 := Lib.hid (show Bk wc w5.heap.size 45 (md gb) from hcut ▸ (M5.out.away (M5.out.apart S5.out.f (by decide)) _).drew)
    have B6 := Lib.hid (show Bk wc hb 3 #[.int .i64 0, .int .i64 1] from hcut ▸ (B5.out.away (B5.out.apart S5.out.f (by decide)) _).drew)
    have O6 := Lib.hid (show Only [] w wc from hcut ▸ (O5.out.set (.inr L5.out.1) _).drew)
    have S6 := Lib.hid s6
    have q0 := M6.out.cell0 (i := 0) rfl
    have q1 := M6.out.cell0 (i := 1) rfl
    clear hcut s6 m0 m1 g0 g1 g2 g3 gf S5 M5 B5 O5
    go_wp2_with fail
    (with_reducible refine (HD.out _ _ _ S6.out).mono ?_)
    rintro e w7 ⟨rfl, o7⟩
    have O7 := Lib.hid (O6.out.trans o7 (by simp))
    have N7 := Lib.hid (HN.out.same O7.out)
    have B7 := Lib.hid (B6.out.only o7 (by simp))
    clear o7 S6 M6 B6 O6 q0 q1
    go_wp2_with fail
    (with_reducible refine (HO.out _ N7.out).mono ?_)
    rintro e w8 ⟨rfl, rfl⟩
    go_wp2_with fail
    (with_reducible refine (HK.out _).mono ?_)
    rintro e w9 ⟨rfl, o9⟩
    have O9 := Lib.hid (O7.out.trans o9 (by simp))
    have B9 := Lib.hid ((B7.out.only o9 (by simp)).alloc (.cells #[.int .i64 0, .int .i64 1] 3))
    have C9 := Lib.hid (Bk.made w9 3 #[.int .i64 0, .int .i64 1])
    clear o9 B7 O7
    go_wp2_with fail
    (with_reducible refine (HA.out _ _ _ B9.out C9.out).mono ?_)
    rintro e w10 ⟨rfl, o10⟩
    have O10 := Lib.hid ((O9.out.alloc _).trans o10 (by simp))
    clear o10
    go_wp2_with fail
    go_ret
    exact ⟨rfl, O10.out⟩
end Go.Proofs.YtgpgcjdneikokaaDoor
