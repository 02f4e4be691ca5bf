/- The two laws' walks. -/
import Derived.Test.YtlpafnibcmcjgaaGreatDoorQ1
import Derived.Test.YtlpafnibcmcjgaaGreatDoorP3
import Derived.Test.YtlpafnibcmcjgaaGreatDoorMf
namespace Go.Proofs.YtlpafnibcmcjgaaGreatDoor
open Go.RowKit

def sSmall : ByteArray := ⟨#[123, 112, 105, 110, 103, 44, 32, 60, 51, 46, 49, 62, 44, 32, 91, 49, 44, 32, 45, 50, 44, 32, 51, 43, 48, 105, 93, 44, 32, 35, 55, 125]⟩
theorem p_small : pspec sSmall (.go [] 0) 0 = .ok tr := by kernel_rfl
theorem p_comma : pspec ⟨#[123, 97, 44, 32, 125]⟩ (.go [] 0) 0 = .error 4 := by kernel_rfl
theorem h_arrow : run ⟨#[32, 123, 97, 125, 32, 45, 62, 32, 51]⟩ (.go [] 0) 0 = .ok (.tup 8 [.atom ⟨#[97]⟩], 4) := by kernel_rfl
theorem chk_arrow : chk (.tup 8 [.atom ⟨#[97]⟩]) = 0 := by kernel_rfl
theorem u_small : pU sSmall = (tr, 0, 0) := by unfold pU; rw [if_pos (by decide), p_small]; simp only [chk_tr, if_true]
theorem u_comma : pU ⟨#[123, 97, 44, 32, 125]⟩ = (.zero, 40, 4) := by unfold pU; rw [if_pos (by decide), p_comma]; rfl
theorem u_arrow : hU ⟨#[32, 123, 97, 125, 32, 45, 62, 32, 51]⟩ = (.tup 8 [.atom ⟨#[97]⟩], 4, 0) := by unfold hU; rw [if_pos (by decide), h_arrow]; simp only [chk_arrow, if_true]; rfl
set_option maxRecDepth 100000 in
set_option maxHeartbeats 4000000 in
theorem awake_any (w : World) (hv : Vars w) : Calls Tryz.prog 9 #[] w fun e w' => e = .returned (.bool true) ∧ Only [] w w' := by
  have rs := store_com
  have P1 := Lib.hid (show ∀ w, Vars w → Calls Tryz.prog 6 #[.string ⟨#[123, 112, 105, 110, 103, 44, 32, 60, 51, 46, 49, 62, 44, 32, 91, 49, 44, 32, 45, 50, 44, 32, 51, 43, 48, 105, 93, 44, 32, 35, 55, 125]⟩] w fun e w' => (∃ A n c F, (∀ b, F b → b < w'.heap.size) ∧ TV w' F tr (.slice A n c) ∧ e = .returned (.tuple #[.agg (tcs 8 0 0 0 ⟨#[]⟩ 0 0 (.slice A n c)), .int .i64 0, .int .i64 0])) ∧ Only [] w w' from fun w hv => by
    refine (parse_u sSmall w hv).mono fun e w' ⟨h1, h2⟩ => ⟨?_, h2⟩
    rw [u_small] at h1
    obtain ⟨sl, F, h3, h4, h5⟩ := h1
    obtain ⟨A, n, c, rfl⟩ := h4.slice
    exact ⟨A, n, c, F, h3, h4, h5⟩)
  have P2 := Lib.hid (show ∀ w, Vars w → Calls Tryz.prog 6 #[.string ⟨#[123, 97, 44, 32, 125]⟩] w fun e w' => e = .returned (.tuple #[.agg Z7, .int .i64 40, .int .i64 4]) ∧ Only [] w w' from fun w hv => by
    refine (parse_u _ w hv).mono fun e w' ⟨h1, h2⟩ => ⟨?_, h2⟩
    rw [u_comma] at h1
    obtain ⟨sl, F, h3, h4, h5⟩ := h1
    rw [TV.zero h4] at h5
    exact h5)
  have H3 := Lib.hid (show ∀ w, Vars w → Calls Tryz.prog 10 #[.string ⟨#[32, 123, 97, 125, 32, 45, 62, 32, 51]⟩] w fun e w' => (∃ A n c, e = .returned (.tuple #[.agg (tcs 8 0 0 0 ⟨#[]⟩ 0 0 (.slice A n c)), .int .i64 4, .int .i64 0])) ∧ Only [] w w' from fun w hv => by
    refine (head_u _ w hv).mono fun e w' ⟨h1, h2⟩ => ⟨?_, h2⟩
    rw [u_arrow] at h1
    obtain ⟨sl, F, h3, h4, h5⟩ := h1
    obtain ⟨A, n, c, rfl⟩ := h4.slice
    exact ⟨A, n, c, h5⟩)
  go_enter Tryz.func9, Tryz.ntmps9
  go_wp2_with fail
  (with_reducible refine (P1.out _ hv).mono ?_)
  rintro e1 w1 ⟨⟨A, n, c, F, hF, hT, rfl⟩, o1⟩
  have V1 := Lib.hid ((hv.same o1).alloc (.cells (tcs 8 0 0 0 ⟨#[]⟩ 0 0 (.slice A n c)) 27))
  have O1 := Lib.hid (o1.alloc (.cells (tcs 8 0 0 0 ⟨#[]⟩ 0 0 (.slice A n c)) 27))
  have PR := Lib.hid (print_tr (.slice A n c) F _ V1.out (hT.same ((Only.refl [] w1).alloc (.cells (tcs 8 0 0 0 ⟨#[]⟩ 0 0 (.slice A n c)) 27))) (fun b hb => by have := hF b hb; simp; omega))
  clear o1 hF hT
  go_wp2_with fail
  (with_reducible refine (PR.out).mono ?_)
  rintro e1 w2 ⟨rfl, o2⟩
  have V2 := Lib.hid (V1.out.same o2)
  have O2 := Lib.hid (O1.out.trans o2 (by simp))
  clear o2
  go_wp2_with fail
  (with_reducible refine (P2.out _ V2.out).mono ?_)
  rintro e1 w3 ⟨rfl, o3⟩
  have V3 := Lib.hid ((V2.out.same o3).alloc (.cells Z7 27))
  have O3 := Lib.hid ((O2.out.trans o3 (by simp)).alloc (.cells Z7 27))
  clear o3
  go_wp2_with fail
  (with_reducible refine (H3.out _ V3.out).mono ?_)
  rintro e1 w4 ⟨⟨A2, n2, c2, rfl⟩, o4⟩
  have O4 := Lib.hid ((O3.out.trans o4 (by simp)).alloc (.cells (tcs 8 0 0 0 ⟨#[]⟩ 0 0 (.slice A2 n2 c2)) 27))
  clear o4
  go_wp2_with fail
  go_ret
  exact ⟨rfl, O4.out⟩
set_option maxRecDepth 100000 in
set_option maxHeartbeats 4000000 in
theorem parses_any (s : ByteArray) (w : World) (hv : Vars w) : Calls Tryz.prog 3 #[.string s] w fun e w' => e = .returned (.bool true) ∧ Only [] w w' := by
  have rs := store_com
  have P := Lib.hid (fun w hv => parse_u s w hv)
  have R := Lib.hid (fun w => rparse_u s w)
  have S := Lib.hid (same_any (pU s).1 (pU_fine s))
  have AW := Lib.hid (fun w hv => awake_any w hv)
  obtain ⟨u, hu⟩ : ∃ u, pU s = u := ⟨_, rfl⟩
  rw [hu] at P R S
  obtain ⟨u, er, at'⟩ := u
  clear hu
  go_enter Tryz.func3, Tryz.ntmps3
  go_wp2_with fail
  (with_reducible refine (P.out _ hv).mono ?_)
  rintro e1 w1 ⟨⟨sl, F, hF, hT, he⟩, o1⟩
  simp only at hT he
  obtain ⟨A, n, c, rfl⟩ := hT.slice
  subst he
  have N1 := Lib.hid (Bk.made w1 27 (tcs u.k u.n u.x u.y u.S u.a u.b (.slice A n c)))
  have O1 := Lib.hid (o1.alloc (.cells (tcs u.k u.n u.x u.y u.S u.a u.b (.slice A n c)) 27))
  have T1 := Lib.hid (hT.same ((Only.refl [] w1).alloc (.cells (tcs u.k u.n u.x u.y u.S u.a u.b (.slice A n c)) 27)))
  clear o1 hF hT
  go_wp2_with fail
  (with_reducible refine (R.out _).mono ?_)
  rintro e1 w2 ⟨⟨sl2, F2, hF2, hT2, he2⟩, o2⟩
  simp only at hT2 he2
  obtain ⟨A2, n2, c2, rfl⟩ := hT2.slice
  subst he2
  have O2 := Lib.hid ((O1.out.trans o2 (by simp)).alloc (.cells (tcs u.k u.n u.x u.y u.S u.a u.b (.slice A2 n2 c2)) 27))
  have N2 := Lib.hid ((N1.out.only o2 (by simp)).alloc (.cells (tcs u.k u.n u.x u.y u.S u.a u.b (.slice A2 n2 c2)) 27))
  have M2 := Lib.hid (Bk.made w2 27 (tcs u.k u.n u.x u.y u.S u.a u.b (.slice A2 n2 c2)))
  have T2 := Lib.hid ((T1.out.same o2).same ((Only.refl [] w2).alloc (.cells (tcs u.k u.n u.x u.y u.S u.a u.b (.slice A2 n2 c2)) 27)))
  have T3 := Lib.hid (hT2.same ((Only.refl [] w2).alloc (.cells (tcs u.k u.n u.x u.y u.S u.a u.b (.slice A2 n2 c2)) 27)))
  have L2 := (N1.out.only o2 (by simp)).lt
  have SS := Lib.hid (S.out.use T2.out T3.out)
  clear o2 hF2 hT2
  obtain ⟨z0, z1, z2, z3, z4, z5, z6⟩ := N2.out.seven
  obtain ⟨y0, y1, y2, y3, y4, y5, y6⟩ := M2.out.seven
  go_wp2_with fail
  (with_reducible refine (SS.out).mono ?_)
  rintro e1 w3 ⟨rfl, o3⟩
  have O3 := Lib.hid (O2.out.trans o3 (by simp))
  clear o3
  go_wp2_with fail
  (with_reducible refine (AW.out _ (hv.same O3.out)).mono ?_)
  rintro e1 w4 ⟨rfl, o4⟩
  have O4 := Lib.hid (O3.out.trans o4 (by simp))
  clear o4
  go_wp2_with fail
  go_ret
  exact ⟨rfl, O4.out⟩
set_option maxRecDepth 100000 in
set_option maxHeartbeats 4000000 in
theorem heads_any (s : ByteArray) (w : World) (hv : Vars w) : Calls Tryz.prog 4 #[.string s] w fun e w' => e = .returned (.bool true) ∧ Only [] w w' := by
  have rs := store_com
  have P := Lib.hid (fun w hv => head_u s w hv)
  have R := Lib.hid (fun w => rhead_u s w)
  have S := Lib.hid (same_any (hU s).1 (hU_fine s))
  have AW := Lib.hid (fun w hv => awake_any w hv)
  obtain ⟨u, hu⟩ : ∃ u, hU s = u := ⟨_, rfl⟩
  rw [hu] at P R S
  obtain ⟨u, er, at'⟩ := u
  clear hu
  go_enter Tryz.func4, Tryz.ntmps4
  go_wp2_with fail
  (with_reducible refine (P.out _ hv).mono ?_)
  rintro e1 w1 ⟨⟨sl, F, hF, hT, he⟩, o1⟩
  simp only at hT he
  obtain ⟨A, n, c, rfl⟩ := hT.slice
  subst he
  have N1 := Lib.hid (Bk.made w1 27 (tcs u.k u.n u.x u.y u.S u.a u.b (.slice A n c)))
  have O1 := Lib.hid (o1.alloc (.cells (tcs u.k u.n u.x u.y u.S u.a u.b (.slice A n c)) 27))
  have T1 := Lib.hid (hT.same ((Only.refl [] w1).alloc (.cells (tcs u.k u.n u.x u.y u.S u.a u.b (.slice A n c)) 27)))
  clear o1 hF hT
  go_wp2_with fail
  (with_reducible refine (R.out _).mono ?_)
  rintro e1 w2 ⟨⟨sl2, F2, hF2, hT2, he2⟩, o2⟩
  simp only at hT2 he2
  obtain ⟨A2, n2, c2, rfl⟩ := hT2.slice
  subst he2
  have O2 := Lib.hid ((O1.out.trans o2 (by simp)).alloc (.cells (tcs u.k u.n u.x u.y u.S u.a u.b (.slice A2 n2 c2)) 27))
  have N2 := Lib.hid ((N1.out.only o2 (by simp)).alloc (.cells (tcs u.k u.n u.x u.y u.S u.a u.b (.slice A2 n2 c2)) 27))
  have M2 := Lib.hid (Bk.made w2 27 (tcs u.k u.n u.x u.y u.S u.a u.b (.slice A2 n2 c2)))
  have T2 := Lib.hid ((T1.out.same o2).same ((Only.refl [] w2).alloc (.cells (tcs u.k u.n u.x u.y u.S u.a u.b (.slice A2 n2 c2)) 27)))
  have T3 := Lib.hid (hT2.same ((Only.refl [] w2).alloc (.cells (tcs u.k u.n u.x u.y u.S u.a u.b (.slice A2 n2 c2)) 27)))
  have L2 := (N1.out.only o2 (by simp)).lt
  have SS := Lib.hid (S.out.use T2.out T3.out)
  clear o2 hF2 hT2
  obtain ⟨z0, z1, z2, z3, z4, z5, z6⟩ := N2.out.seven
  obtain ⟨y0, y1, y2, y3, y4, y5, y6⟩ := M2.out.seven
  go_wp2_with fail
  (with_reducible refine (SS.out).mono ?_)
  rintro e1 w3 ⟨rfl, o3⟩
  have O3 := Lib.hid (O2.out.trans o3 (by simp))
  clear o3
  go_wp2_with fail
  (with_reducible refine (AW.out _ (hv.same O3.out)).mono ?_)
  rintro e1 w4 ⟨rfl, o4⟩
  have O4 := Lib.hid (O3.out.trans o4 (by simp))
  clear o4
  go_wp2_with fail
  go_ret
  exact ⟨rfl, O4.out⟩
end Go.Proofs.YtlpafnibcmcjgaaGreatDoor
