/- The law PatternParses, walked: what both programs read is one tree; the small text and term are read and matched. From the rows' conditions to what the walks take of the library's variables. -/
import Derived.Test.YtlilfmpikampgaaGreatDoorPKk
import Derived.Test.YtlilfmpikampgaaGreatDoorPKl
import Derived.Test.YtlilfmpikampgaaGreatDoorPKm
import Derived.Test.YtlilfmpikampgaaGreatDoorRows
import Derived.Stop.LaidErr
import Derived.Shelf.Vars
import Derived.MakeChecks
import Derived.Lib.LaidTab
namespace Go.Proofs.YtlilfmpikampgaaGreatDoor
open Go.RowKit

theorem qparse_u (s : ByteArray) (w : World) (hv : Vars w) (hk : KN w) (hg : 0 < w.heap.size) : Calls Tryz.prog 4 #[.string s] w fun e w' => QTells (qPU s) w' e ∧ Only [] w w' := by
  by_cases hs : s.size ≤ 262144
  · exact qparse_in s w hs hv hk hg
  · exact qparse_long s w (by omega)
theorem rqparse_u (s : ByteArray) (w : World) : Calls Tryz.prog 5 #[.string s] w fun e w' => QTells (qPU s) w' e ∧ Only [] w w' := by
  by_cases hs : s.size ≤ 262144
  · exact rqparse_in s w hs
  · exact rqparse_long s w (by omega)
theorem qPU_fine (s : ByteArray) : (qPU s).1.Fine := by
  unfold qPU
  split
  · exact .inr rfl
  · rename_i hs
    split
    · exact .inr rfl
    · rename_i t ht
      split
      · exact .inl (qread_sz (by omega) ht).1
      · exact .inr rfl
abbrev sAw : ByteArray := ⟨#[123, 112, 105, 110, 103, 44, 32, 36, 48, 125]⟩
theorem aw_read : qrun sAw (.go [] 0) 0 = .ok pBoth := by kernel_rfl
theorem u_aw : qPU sAw = (pBoth, 0, 0) := by
  unfold qPU
  rw [if_neg (by decide), aw_read]
  simp only [qchk_both, if_true]
theorem name_ping (w : World) : Calls Tryz.prog 16 #[.string ⟨#[112, 105, 110, 103]⟩] w fun e w' => e = .returned (.agg cPing) ∧ Only [] w w' := by
  have rs := store_com
  go_enter Tryz.func16, Tryz.ntmps16
  go_wp2_with fail
  exact bodyPost_ret (v := .agg cPing) (by simp [results, Tryz.results16, go_sem]) rfl ⟨rfl, (Only.refl [] w).alloc _⟩
theorem int_five (w : World) : Calls Tryz.prog 17 #[.int .i64 5] w fun e w' => e = .returned (.agg cFive) ∧ Only [] w w' := by
  have rs := store_com
  go_enter Tryz.func17, Tryz.ntmps17
  go_wp2_with fail
  exact bodyPost_ret (v := .agg cFive) (by simp [results, Tryz.results17, go_sem]) rfl ⟨rfl, (Only.refl [] w).alloc _⟩
abbrev c14 : Array Value := #[.int .i64 5, .int .i64 0, .complex .f64 0 0, .string ⟨#[112, 105, 110, 103]⟩, .int .i64 0, .int .i64 0, .slice none 0 0, .int .i64 3, .int .i64 5, .complex .f64 0 0, .string ⟨#[]⟩, .int .i64 0, .int .i64 0, .slice none 0 0]
theorem tv_both {w : World} {g : Nat} (h : Bk w g 27 c14) : TV w (fun b => b = g) tBoth (.slice (some ⟨g, 0, none⟩) 2 2) := by
  simp only [TV]
  refine ⟨_, _, rfl, by decide, by decide, .inr ⟨g, 0, rfl, h.lt, rfl, TVs.iff.2 fun i t hi => ?_⟩⟩
  match i, hi with
  | 0, hi =>
    injection hi with hi
    subst hi
    refine ⟨.slice none 0 0, (TV.leaf (by simp)).2 rfl, fun j u hj => ?_⟩
    refine h.cell0 ?_
    match j, hj with
    | 0, hj => exact hj
    | 1, hj => exact hj
    | 2, hj => exact hj
    | 3, hj => exact hj
    | 4, hj => exact hj
    | 5, hj => exact hj
    | 6, hj => exact hj
    | n + 7, hj => simp [T.cs] at hj
  | 1, hi =>
    injection hi with hi
    subst hi
    refine ⟨.slice none 0 0, (TV.leaf (by simp)).2 rfl, fun j u hj => ?_⟩
    refine h.cell0 ?_
    match j, hj with
    | 0, hj => exact hj
    | 1, hj => exact hj
    | 2, hj => exact hj
    | 3, hj => exact hj
    | 4, hj => exact hj
    | 5, hj => exact hj
    | 6, hj => exact hj
    | n + 7, hj => simp [T.cs] at hj
  | n + 2, hi => simp at hi
set_option maxRecDepth 100000 in
set_option maxHeartbeats 4000000 in
theorem awake_any (w : World) (hv : Vars w) (hk : KN w) (hg : 0 < w.heap.size) : Calls Tryz.prog 7 #[] w fun e w' => e = .returned (.bool true) ∧ Only [] w w' := by
  have rs := store_com
  have P1 := Lib.hid (show Calls Tryz.prog 4 #[.string ⟨#[123, 112, 105, 110, 103, 44, 32, 36, 48, 125]⟩] w fun e w' => (∃ A n c B m d F, (∀ b, F b → b < w'.heap.size) ∧ QV w' F pBoth (.slice A n c) (.slice B m d) ∧ e = .returned (.tuple #[.agg (pcs 5 0 .zero (.slice A n c) (.slice B m d)), .int .i64 0, .int .i64 0])) ∧ Only [] w w' from by
    refine (qparse_u sAw w hv hk hg).mono fun e w' ⟨h1, h2⟩ => ⟨?_, h2⟩
    rw [u_aw] at h1
    obtain ⟨F, sl, sr, h3, h4, h5⟩ := h1
    obtain ⟨A, n, c, B, m, d, rfl, rfl⟩ := h4.slices
    exact ⟨A, n, c, B, m, d, F, h3, h4, h5⟩)
  have HN := Lib.hid (fun w => name_ping w)
  have HI := Lib.hid (fun w => int_five w)
  have HK := Lib.hid hk
  clear hv hk
  go_enter Tryz.func7, Tryz.ntmps7
  go_wp2_with fail
  (with_reducible refine (P1.out).mono ?_)
  rintro e1 w1 ⟨⟨A, n, c, B, m, d, F, hF, hT, rfl⟩, o1⟩
  have O1 := Lib.hid (o1.alloc (.cells (pcs 5 0 .zero (.slice A n c) (.slice B m d)) 30))
  have B1 := Lib.hid (Bk.made w1 30 (pcs 5 0 .zero (.slice A n c) (.slice B m d)))
  have T1 := Lib.hid (hT.same ((Only.refl [] w1).alloc (.cells (pcs 5 0 .zero (.slice A n c) (.slice B m d)) 30)))
  have F1 := Lib.hid (show ∀ b, F b → b < (w1.alloc (.cells (pcs 5 0 .zero (.slice A n c) (.slice B m d)) 30)).heap.size from fun b hb => by have := hF b hb; simp; omega)
  clear o1 hF hT
  go_wp2_with fail
  (with_reducible refine (HN.out _).mono ?_)
  rintro e1 w2 ⟨rfl, o2⟩
  have O2 := Lib.hid (O1.out.trans o2 (by simp))
  have B2 := Lib.hid (B1.out.only o2 (by simp))
  have T2 := Lib.hid (T1.out.same o2)
  have F2 := Lib.hid (show ∀ b, F b → b < w2.heap.size from fun b hb => Nat.lt_of_lt_of_le (F1.out b hb) o2.size)
  clear o2
  go_wp2_with fail
  (with_reducible refine (HI.out _).mono ?_)
  rintro e1 w3 ⟨rfl, o3⟩
  have O3 := Lib.hid (((O2.out.trans o3 (by simp)).alloc (.cells c14 27)).alloc (.cells (tcs 8 0 0 0 ⟨#[]⟩ 0 0 (.slice (some ⟨w3.heap.size, 0, none⟩) 2 2)) 27))
  have B3 := Lib.hid (((B2.out.only o3 (by simp)).alloc (.cells c14 27)).alloc (.cells (tcs 8 0 0 0 ⟨#[]⟩ 0 0 (.slice (some ⟨w3.heap.size, 0, none⟩) 2 2)) 27))
  have C3 := Lib.hid ((Bk.made w3 27 c14).alloc (.cells (tcs 8 0 0 0 ⟨#[]⟩ 0 0 (.slice (some ⟨w3.heap.size, 0, none⟩) 2 2)) 27))
  have D3 := Lib.hid (Bk.madeAt (w := w3.alloc (.cells c14 27)) (t := 27) (cs := tcs 8 0 0 0 ⟨#[]⟩ 0 0 (.slice (some ⟨w3.heap.size, 0, none⟩) 2 2)) (b := w3.heap.size + 1) (by simp))
  have o33 := ((Only.refl [] w3).alloc (.cells c14 27)).alloc (.cells (tcs 8 0 0 0 ⟨#[]⟩ 0 0 (.slice (some ⟨w3.heap.size, 0, none⟩) 2 2)) 27)
  have T3 := Lib.hid ((T2.out.same o3).same o33)
  have F3 := Lib.hid (fun b hb => Nat.lt_of_lt_of_le (F2.out b hb) (Nat.le_trans o3.size o33.size))
  have HM := Lib.hid (pmatch_both (.slice A n c) (.slice B m d) (some ⟨w3.heap.size, 0, none⟩) 2 F (fun b => b = w3.heap.size) _ T3.out (tv_both C3.out) F3.out (fun b hb => by subst hb; exact C3.out.lt) (HK.out.only hg O3.out (by simp)) (Nat.lt_of_lt_of_le hg O3.out.size))
  have n13 := (B2.out.only o3 (by simp)).lt
  clear o3 o33
  obtain ⟨z0, z1, z2, z3, z4, z5, z6, z7, z8, z9, z10⟩ := B3.out.eleven
  obtain ⟨y0, y1, y2, y3, y4, y5, y6⟩ := D3.out.seven
  go_wp2_with fail
  (with_reducible refine (HM.out).mono ?_)
  rintro e1 w4 ⟨⟨g, cg, rfl, r4⟩, o4⟩
  have O4 := Lib.hid (O3.out.trans o4 (by simp))
  have q0 : w4.cell? ⟨g, 0, none⟩ = some (.int .i64 0) := Row.cell r4 0 _ rfl
  have q2 : w4.cell? ⟨g, 2, none⟩ = some (.int .i64 5) := Row.cell r4 2 _ rfl
  clear o4 r4 z0 z1 z2 z3 z4 z5 z6 z7 z8 z9 z10 y0 y1 y2 y3 y4 y5 y6
  go_wp2_with fail
  go_ret
  exact ⟨rfl, O4.out⟩
set_option maxRecDepth 100000 in
set_option maxHeartbeats 4000000 in
theorem law_any (s : ByteArray) (w : World) (hv : Vars w) (hk : KN w) (hg : 0 < w.heap.size) : Calls Tryz.prog 3 #[.string s] w fun e w' => e = .returned (.bool true) ∧ Only [] w w' := by
  have rs := store_com
  have P := Lib.hid (qparse_u s w hv hk hg)
  have R := Lib.hid (fun w => rqparse_u s w)
  have S := Lib.hid (qsame_any (qPU s).1 (qPU_fine s))
  have AW := Lib.hid (fun W (o : Only [] w W) => awake_any W (hv.same o) (hk.only hg o (by simp)) (Nat.lt_of_lt_of_le hg o.size))
  obtain ⟨u, hu⟩ : ∃ u, qPU s = u := ⟨_, rfl⟩
  rw [hu] at P R S
  obtain ⟨u, er, at'⟩ := u
  clear hu hv hk hg
  go_enter Tryz.func3, Tryz.ntmps3
  go_wp2_with fail
  (with_reducible refine (P.out).mono ?_)
  rintro e1 w1 ⟨⟨F, sl, sr, hF, hT, he⟩, o1⟩
  simp only at hT he
  obtain ⟨A, n, c, B, m, d, rfl, rfl⟩ := hT.slices
  have he2 : e1 = .returned (.tuple #[.agg (pcs u.k u.n u.t (.slice A n c) (.slice B m d)), .int .i64 er, .int .i64 at']) := he
  clear he
  subst he2
  have N1 := Lib.hid (Bk.made w1 30 (pcs u.k u.n u.t (.slice A n c) (.slice B m d)))
  have O1 := Lib.hid (o1.alloc (.cells (pcs u.k u.n u.t (.slice A n c) (.slice B m d)) 30))
  have T1 := Lib.hid (hT.same ((Only.refl [] w1).alloc (.cells (pcs u.k u.n u.t (.slice A n c) (.slice B m d)) 30)))
  clear o1 hF hT
  go_wp2_with fail
  (with_reducible refine (R.out _).mono ?_)
  rintro e1 w2 ⟨⟨F2, sl2, sr2, hF2, hT2, he⟩, o2⟩
  simp only at hT2 he
  obtain ⟨A2, n2, c2, B2, m2, d2, rfl, rfl⟩ := hT2.slices
  have he2 : e1 = .returned (.tuple #[.agg (pcs u.k u.n u.t (.slice A2 n2 c2) (.slice B2 m2 d2)), .int .i64 er, .int .i64 at']) := he
  clear he
  subst he2
  have O2 := Lib.hid ((O1.out.trans o2 (by simp)).alloc (.cells (pcs u.k u.n u.t (.slice A2 n2 c2) (.slice B2 m2 d2)) 30))
  have N2 := Lib.hid ((N1.out.only o2 (by simp)).alloc (.cells (pcs u.k u.n u.t (.slice A2 n2 c2) (.slice B2 m2 d2)) 30))
  have M2 := Lib.hid (Bk.made w2 30 (pcs u.k u.n u.t (.slice A2 n2 c2) (.slice B2 m2 d2)))
  have T2 := Lib.hid ((T1.out.same o2).same ((Only.refl [] w2).alloc (.cells (pcs u.k u.n u.t (.slice A2 n2 c2) (.slice B2 m2 d2)) 30)))
  have T3 := Lib.hid (hT2.same ((Only.refl [] w2).alloc (.cells (pcs u.k u.n u.t (.slice A2 n2 c2) (.slice B2 m2 d2)) 30)))
  have L2 := (N1.out.only o2 (by simp)).lt
  have SS := Lib.hid (S.out.use T2.out T3.out)
  clear o2 hF2 hT2
  obtain ⟨z0, z1, z2, z3, z4, z5, z6, z7, z8, z9, z10⟩ := N2.out.eleven
  obtain ⟨y0, y1, y2, y3, y4, y5, y6, y7, y8, y9, y10⟩ := M2.out.eleven
  go_wp2_with fail
  (with_reducible refine (SS.out).mono ?_)
  rintro e1 w3 ⟨rfl, o3⟩
  have O3 := Lib.hid (O2.out.trans o3 (by simp))
  clear o3
  go_wp2_with fail
  (with_reducible refine (AW.out _ O3.out).mono ?_)
  rintro e1 w4 ⟨rfl, o4⟩
  have O4 := Lib.hid (O3.out.trans o4 (by simp))
  clear o4
  go_wp2_with fail
  go_ret
  exact ⟨rfl, O4.out⟩
end Go.Proofs.YtlilfmpikampgaaGreatDoor

namespace Go.Proofs.YtlilfmpikampgaaGreatDoor
open Go.RowKit

theorem tabs_data : (Rows.laid_internal_strconv_uint64pow10 : DataW Unit) = Lib.tabData .u64 Lib.pow10Tab := by kernel_rfl
theorem gt_tab : (Tryz.prog.globals[5]?).map (·.type) = some 205 := by kernel_rfl
theorem gt_syn : (Tryz.prog.globals[3]?).map (·.type) = some 163 := by kernel_rfl
theorem gt_rng : (Tryz.prog.globals[4]?).map (·.type) = some 163 := by kernel_rfl
theorem row_err : ∀ u, Tryz.prog.typeName? 3 u = some "*errors.errorString" → u = 201 := typeName_ptr_named (nm := "errors.errorString") (by kernel_rfl) (by kernel_rfl) (by decide)
theorem own_knob : ownKnob Tryz.prog.godebug = none := by kernel_rfl
theorem laid_out : laidOutB Tryz.prog = true := by kernel_rfl
theorem g_last : Tryz.prog.globalNamed "math/bits.deBruijn32tab" = some 8 := by kernel_rfl
theorem vars_of {W : World} {d1 : DataW Unit} {x2 x4 : String × DataW Unit} {r : List (String × DataW Unit)} (hL : laidMet Tryz.prog (("math/bits.deBruijn32tab", d1) :: x2 :: ("internal/strconv.uint64pow10", Rows.laid_internal_strconv_uint64pow10) :: x4 :: ("strconv.ErrRange", Rows.laid_strconv_ErrRange) :: ("strconv.ErrSyntax", Rows.laid_strconv_ErrSyntax) :: r) W)
    (hsh : W.ShapedOpen Tryz.prog) : Vars W := by
  have h3 := hL.tail.tail
  have h5 := h3.tail.tail
  have h6 := h5.tail
  rw [tabs_data] at h3
  obtain ⟨a5, s5, e5, _⟩ := laid_sentinel h5 g_rng gt_rng Tryz.underlying163 row_err Tryz.underlying201 Tryz.underlying203 rfl rfl Tryz.underlying9 (by kernel_rfl) (by kernel_rfl)
  obtain ⟨a6, s6, e6, _⟩ := laid_sentinel h6 g_syn gt_syn Tryz.underlying163 row_err Tryz.underlying201 Tryz.underlying203 rfl rfl Tryz.underlying9 (by kernel_rfl) (by kernel_rfl)
  refine ⟨?_, ⟨_, _, e6⟩, ⟨_, _, e5⟩, Lib.tabIs_of_head g_tab gt_tab Tryz.underlying205 Tryz.underlying145 (by kernel_rfl) (by kernel_rfl) h3, ?_⟩
  · obtain ⟨m, hm⟩ := Go.Proofs.cell_of_shapedOpen_int (P := Tryz.prog) (g := 2) (zero := #[.int .i64 0]) (t := 3) hsh (of_decide_eq_true (by kernel_rfl)) (by kernel_rfl) rfl (by kernel_rfl) (by kernel_rfl) Tryz.underlying3
    obtain ⟨cs, hh, hs, hr⟩ := hsh.1 2 #[.int .i64 0] 3 (of_decide_eq_true (by kernel_rfl)) (by kernel_rfl)
    refine ⟨m, ?_⟩
    have h0 : cs[0]? = some (.int .i64 m) := by simpa [World.cell?, hh] using hm
    simp only [World.var?, g_len, Option.bind_some, hh]
    obtain ⟨l⟩ := cs
    match l, hs, h0 with
    | [v], _, h0 =>
      have : v = .int .i64 m := by simpa using h0
      rw [this]
  · obtain ⟨ps, ⟨g0, t0, cs0, f0, p0, q0, hg0, ht0, hv0, _⟩, _⟩ := hL
    simp only [World.var?, g_last, Option.bind_some] at hv0
    have h8 : 8 < W.heap.size := by
      by_cases h : 8 < W.heap.size
      · exact h
      · rw [Array.getElem?_eq_none (by omega)] at hv0
        cases hv0
    omega
/-- An array of strings that reads as these byte rows holds these strings, cell for cell. -/
theorem cells_of_strs {H : Type} {enc : TypeId × Value → H} {P : Program} {w : World} {base : Nat} {sp : Nat → Bool} {held : Bool} {fuel : Nat} {t e : TypeId} {n : Nat} {cs : List Value} {zs : List (List UInt8)} {p : List MemPlace}
    (ht : P.underlying t = some (.array n e)) (he : P.underlying e = some .string) (hce : P.cellsOf e = 1) (hct : P.cellsOf t = n)
    (h : DataW.trod enc P w base sp held fuel t cs = some (.agg (zs.map fun z => .lit (.string z)), p)) : ∀ j z, j < n → zs[j]? = some z → cs[j]? = some (.string ⟨⟨z⟩⟩) := by
  intro j z hj hz
  cases fuel with
  | zero => simp [DataW.trod] at h
  | succ fuel =>
    simp only [DataW.trod, ht, hce, hct, Nat.mul_one] at h
    split at h
    · obtain ⟨xs, hm, hx⟩ := Option.map_eq_some_iff.1 h
      have hxs : xs.map (·.1) = zs.map fun z => (DataW.lit (.string z) : DataW H) := by
        have := congrArg Prod.fst hx
        simpa using this
      obtain ⟨b, hb, hf⟩ := Lib.mapM_at hm j j (by simp [hj])
      obtain ⟨s, hc, rfl, _⟩ := DataW.trod_string he hf
      have h1 : cs[j]? = some (.string s) := by
        have := congrArg (·[0]?) hc
        simpa [List.getElem?_take, List.getElem?_drop] using this
      have h2 : (xs.map (·.1))[j]? = some (DataW.lit (.string s.data.toList) : DataW H) := by simp [hb]
      rw [hxs] at h2
      simp only [List.getElem?_map, hz, Option.map_some, Option.some.injEq, DataW.lit.injEq, Lit.string.injEq] at h2
      rw [h1, h2]
    · cases h
theorem gkn : Tryz.prog.globalNamed "carousel/text.kindNames" = some 0 := by kernel_rfl
theorem gkn_ty : (Tryz.prog.globals[0]?).map (·.type) = some 130 := by kernel_rfl
theorem kn_data : (Rows.laid_carousel_text_kindNames : DataW Unit) = .agg (((List.range 10).map fun j => (kn j).data.toList).map fun z => .lit (.string z)) := by kernel_rfl
theorem kn_of {W : World} {x1 x2 x3 x4 x5 x6 : String × DataW Unit} {r : List (String × DataW Unit)} (hL : laidMet Tryz.prog (x1 :: x2 :: x3 :: x4 :: x5 :: x6 :: ("carousel/text.kindNames", Rows.laid_carousel_text_kindNames) :: r) W) : KN W ∧ 0 < W.heap.size := by
  have h7 := hL.tail.tail.tail.tail.tail.tail
  rw [kn_data] at h7
  obtain ⟨ps, ⟨g', t', cs, fuel, p, q, hg', ht', hvar, hd, _, _⟩, _⟩ := h7
  obtain rfl := Option.some.inj (gkn.symm.trans hg')
  obtain rfl := Option.some.inj (gkn_ty.symm.trans ht')
  refine ⟨fun j hj => ?_, ?_⟩
  · have hn : ((List.range 10).map fun j => (kn j).data.toList)[j]? = some (kn j).data.toList := by
      rw [List.getElem?_map, List.getElem?_range hj]
      rfl
    have hc := cells_of_strs Tryz.underlying130 Tryz.underlying9 (by kernel_rfl) (by kernel_rfl) hd j (kn j).data.toList hj hn
    refine World.var?_cell gkn hvar j |>.trans ?_
    simpa using hc
  · have hv := hvar
    simp only [World.var?, gkn, Option.bind_some] at hv
    by_cases h : 0 < W.heap.size
    · exact h
    · rw [Array.getElem?_eq_none (by omega)] at hv
      cases hv
end Go.Proofs.YtlilfmpikampgaaGreatDoor
