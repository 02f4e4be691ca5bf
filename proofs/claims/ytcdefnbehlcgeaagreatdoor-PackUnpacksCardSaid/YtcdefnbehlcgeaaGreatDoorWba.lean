/- The document: Leads, Goes, Atom, zeroTerm, arms.. -/
import Derived.Test.YtcdefnbehlcgeaaGreatDoorWy
import Derived.Test.YtcdefnbehlcgeaaGreatDoorWz
import Derived.Test.YtcdefnbehlcgeaaGreatDoorWf
import Derived.BigQuiet
set_option maxHeartbeats 8000000
set_option maxRecDepth 20000
set_option linter.unusedSimpArgs false
set_option linter.unusedVariables false
namespace Go.Proofs.YtcdefnbehlcgeaaGreatDoor
open Go.RowKit
def JRelB (w : World) (l : List Arm) (R : List Int) (sv : Value) (lv iv : Value) (wr : World) : Prop :=
 ∃ (j : Nat) (xs : List Int) (A1 : Option Addr) (c1 : Nat), iv = .int .i64 j ∧ j ≤ l.length ∧ lv = .slice A1 xs.length c1 ∧ xs.length ≤ j + 1 ∧ IR wr (w.heap.size + 1) (.slice A1 xs.length c1) xs ∧ xs ++ (l.drop j).map Arm.goes = R ∧ Only [] w wr ∧ ∃ cs, Bk wr w.heap.size 55 cs ∧ cs[10]? = some sv
theorem rleads_a (op a b : Int) (t : T) (st : Value) (A : Option Addr) (n c : Nat) (l : List Arm) (F : Nat → Prop) (R : List Int) (w : World) (h : AL w F l (.slice A n c)) (hl : l.length ≤ 262144)
 (hop : (op = 25 ∧ a :: l.map Arm.goes = R) ∨ (op = 26 ∧ a :: l.map Arm.goes = R) ∨ (op = 27 ∧ a :: l.map Arm.goes = R)) :
 Calls Tryz.prog 35 #[.agg (ics op a b t st (.slice A n c))] w fun e w' => ToE w R e w' := by
 have rs := store_com
 obtain ⟨A', cap', hv, hlc, hcap, hrows⟩ := h.mk arm_len
 injection hv with hv1 hv2 hv3
 subst hv1 hv2 hv3
 have HR := Lib.hid hrows
 have O0 := Lib.hid ((Only.refl [] w).alloc (.cells (ics op a b t st (.slice A l.length c)) 55))
 have B0 := Lib.hid (Bk.made w 55 (ics op a b t st (.slice A l.length c)))
 have NI := Lib.hid (IR.nil (w.alloc (.cells (ics op a b t st (.slice A l.length c)) 55)) (w.heap.size + 1))
 obtain ⟨sv, hsv⟩ : ∃ sv, Value.slice A l.length c = sv := ⟨_, rfl⟩
 have HSV := Lib.hid hsv
 clear h hrows hsv
 rcases hop with ⟨rfl, hR⟩ | ⟨rfl, hR⟩ | ⟨rfl, hR⟩
 all_goals
  have HRR := Lib.hid hR
  clear hR
  go_enter Tryz.func35, Tryz.ntmps35
  go_upto_if 27 with fail
  go_wp2_with (at_builtin; refine wpList_app1 (by rfl) _ _ (by rfl) (w.heap.size + 1) none 0 0 [] (by rfl) (IR.nil _ _) rfl (w.heap.size + 1) a (by rfl) (Bk.madeAt (by simp)) (by omega) (by simp) ?_; intro A1 c1 w1 i1 o1 n1; have I1 := Lib.hid i1; have O1 := Lib.hid ((O0.out.alloc (.cells #[.int .i64 a] 3)).trans o1 (by simp [Value.ownBlock])); have B1 := Lib.hid ((B0.out.alloc (.cells #[.int .i64 a] 3)).only o1 (by simp [Value.ownBlock])); have d10 := B1.out.cell0 (i := 10) rfl; clear i1 o1 n1)
  go_loopw [3, 4] (fun lv iv wr => JRelB w l R sv lv iv wr) (fun _ iv _ => l.length - (intOf iv).toNat)
  case atStart => first
   | exact ⟨0, [a], A1, c1, rfl, Nat.zero_le _, rfl, Nat.le_refl _, I1.out, HRR.out, O1.out, _, B1.out, by rw [← HSV.out]; rfl⟩
   | exact ⟨0, [], none, 0, rfl, Nat.zero_le _, rfl, Nat.zero_le _, NI.out, HRR.out, O0.out, _, B0.out, by rw [← HSV.out]; rfl⟩
  case round =>
   obtain ⟨j, xs, A1', c1', rfl, hj, rfl, hxs, hi, hx, ho, bcs, hbx, hb10⟩ := hrel
   have HBX := Lib.hid hbx
   have HB10 := Lib.hid hb10
   have d10 := hbx.cell0 (i := 10) hb10
   rw [← HSV.out] at d10
   clear hbx hb10
   have HI := Lib.hid hi
   have HX := Lib.hid hx
   have HO := Lib.hid ho
   clear hi hx ho
   by_cases hjl : j < l.length
   ·rcases HR.out with h0 | ⟨bl, off, rfl, hbl, hFb, hvs⟩
    ·rw [h0] at hjl; simp at hjl
    ·obtain ⟨us, hds, hcs⟩ := hvs j (l[j]'hjl) (List.getElem?_eq_getElem hjl)
     obtain ⟨st', sl', sr', rfl, htv⟩ := arm_cells _ hds
     have htv : PV w F (l[j]'hjl).pat st' sl' sr' := htv
     obtain ⟨S', s1', s2', A', c', B', c2, rfl, rfl, rfl⟩ := htv.slices
     have hcs2 : ∀ q u, ((qcs (l[j]'hjl).pat.k (l[j]'hjl).pat.n (l[j]'hjl).pat.tm (.slice S' s1' s2') (.slice A' (l[j]'hjl).pat.l.length c') (.slice B' (l[j]'hjl).pat.r.length c2)).toList ++ [.int .i64 (l[j]'hjl).goes])[q]? = some u → wr.cell? ⟨bl, off + j * 12 + q, none⟩ = some u := fun q u hu => (HO.out.cell (p := ⟨bl, off + j * 12 + q, none⟩) hbl (by simp)).trans (hcs q u hu)
     obtain ⟨r0, r1, r2, r3, r4, r5, r6, r7, r8, r9, r10, r11⟩ := acs_twelve hcs2
     have HD := Lib.hid (show l.drop j = l[j]'hjl :: l.drop (j + 1) from List.drop_eq_getElem_cons hjl)
     clear hcs hcs2 htv hvs hds
     generalize l[j]'hjl = u at HD r0 r1 r2 r3 r4 r5 r6 r7 r8 r9 r10 r11
     have hx2 := HX.out
     rw [HD.out, List.map_cons] at hx2
     have HX2 := Lib.hid hx2
     clear hx2
     obtain ⟨gz, hgz⟩ : ∃ gz, u.goes = gz := ⟨_, rfl⟩
     rw [hgz] at r11 HX2
     generalize u.pat = p at r0 r1 r2 r3 r4 r5 r6 r7 r8 r9 r10
     clear hgz HD
     have hsz := HO.out.size
     have HRI := Lib.hid (fun gg (e : (Value.slice A1' xs.length c1').ownBlock = some gg) => show w.heap.size + 1 ≤ gg from (HI.out.block e).1)
     go_wp2_with (at_builtin; refine wpList_app1 (by rfl) _ _ (by rfl) (w.heap.size + 1) A1' xs.length c1' xs (by rfl) (HI.out.same ((Only.refl [] wr).alloc _)) rfl wr.heap.size gz (by rfl) (Bk.madeAt (by simp)) (by omega) (by simp; omega) ?_; intro A2 c2 w2 i2 o2 n2; have I2 := Lib.hid i2; have O2 := Lib.hid (Only.own HI.out (Nat.le_succ _) HO.out (((Only.refl [] wr).alloc (.cells #[.int .i64 gz] 3) |>.more (by simp)).trans o2 (fun i hi => .inl hi))); have BX2 := Lib.hid ((HBX.out.alloc (.cells #[.int .i64 gz] 3)).only o2 (by intro hm; have hh := HI.out.block (g := w.heap.size) (by simpa using hm); have := HRI.out _ (by simpa using hm); omega)); clear i2 o2 n2)
     have HN := Lib.hid (show JRelB w l R sv (.slice A2 (xs.length + 1) c2) (.int .i64 ((j : Int) + 1)) w2 from
      ⟨j + 1, xs ++ [gz], A2, c2, by go_num, by omega, by rw [List.length_append]; rfl, by rw [List.length_append, List.length_singleton]; omega, by rw [List.length_append, List.length_singleton]; exact I2.out, by rw [List.append_assoc]; exact HX2.out, O2.out, _, BX2.out, HB10.out⟩)
     go_roundw
     case rel => exact HN.out
     case measure => simp [intOf]; omega
   ·have hje : j = l.length := by omega
    subst hje
    have hx2 := HX.out
    rw [List.drop_length, List.map_nil, List.append_nil] at hx2
    have HE := Lib.hid (show ToE w R (.returned (.slice A1' xs.length c1')) wr from by subst hx2; exact ⟨A1', c1', rfl, ⟨HI.out.1, HI.out.2.imp id fun ⟨g, cap, cur, h1, h2, h3⟩ => ⟨g, cap, cur, h1, by omega, h3⟩⟩, HO.out⟩)
    clear hj hx2
    go_wp2_with fail
    go_ret
    exact HE.out
theorem rleads_b (op a b : Int) (t : T) (st : Value) (A : Option Addr) (n c : Nat) (l : List Arm) (F : Nat → Prop) (R : List Int) (w : World) (h : AL w F l (.slice A n c)) (hl : l.length ≤ 262144)
 (hop : op = 33 ∧ b ≠ -1 ∧ a :: l.map Arm.goes = R) :
 Calls Tryz.prog 35 #[.agg (ics op a b t st (.slice A n c))] w fun e w' => ToE w R e w' := by
 have rs := store_com
 obtain ⟨A', cap', hv, hlc, hcap, hrows⟩ := h.mk arm_len
 injection hv with hv1 hv2 hv3
 subst hv1 hv2 hv3
 have HR := Lib.hid hrows
 have O0 := Lib.hid ((Only.refl [] w).alloc (.cells (ics op a b t st (.slice A l.length c)) 55))
 have B0 := Lib.hid (Bk.made w 55 (ics op a b t st (.slice A l.length c)))
 have NI := Lib.hid (IR.nil (w.alloc (.cells (ics op a b t st (.slice A l.length c)) 55)) (w.heap.size + 1))
 obtain ⟨sv, hsv⟩ : ∃ sv, Value.slice A l.length c = sv := ⟨_, rfl⟩
 have HSV := Lib.hid hsv
 clear h hrows hsv
 obtain ⟨rfl, hb, hR⟩ := hop
 have hbn : (b != -1) = true := by simpa using hb
 clear hb
 all_goals
  have HRR := Lib.hid hR
  clear hR
  go_enter Tryz.func35, Tryz.ntmps35
  go_upto_if 27 with fail
  go_wp2_with (at_builtin; refine wpList_app1 (by rfl) _ _ (by rfl) (w.heap.size + 1) none 0 0 [] (by rfl) (IR.nil _ _) rfl (w.heap.size + 1) a (by rfl) (Bk.madeAt (by simp)) (by omega) (by simp) ?_; intro A1 c1 w1 i1 o1 n1; have I1 := Lib.hid i1; have O1 := Lib.hid ((O0.out.alloc (.cells #[.int .i64 a] 3)).trans o1 (by simp [Value.ownBlock])); have B1 := Lib.hid ((B0.out.alloc (.cells #[.int .i64 a] 3)).only o1 (by simp [Value.ownBlock])); have d10 := B1.out.cell0 (i := 10) rfl; clear i1 o1 n1)
  go_loopw [3, 4] (fun lv iv wr => JRelB w l R sv lv iv wr) (fun _ iv _ => l.length - (intOf iv).toNat)
  case atStart => first
   | exact ⟨0, [a], A1, c1, rfl, Nat.zero_le _, rfl, Nat.le_refl _, I1.out, HRR.out, O1.out, _, B1.out, by rw [← HSV.out]; rfl⟩
   | exact ⟨0, [], none, 0, rfl, Nat.zero_le _, rfl, Nat.zero_le _, NI.out, HRR.out, O0.out, _, B0.out, by rw [← HSV.out]; rfl⟩
  case round =>
   obtain ⟨j, xs, A1', c1', rfl, hj, rfl, hxs, hi, hx, ho, bcs, hbx, hb10⟩ := hrel
   have HBX := Lib.hid hbx
   have HB10 := Lib.hid hb10
   have d10 := hbx.cell0 (i := 10) hb10
   rw [← HSV.out] at d10
   clear hbx hb10
   have HI := Lib.hid hi
   have HX := Lib.hid hx
   have HO := Lib.hid ho
   clear hi hx ho
   by_cases hjl : j < l.length
   ·rcases HR.out with h0 | ⟨bl, off, rfl, hbl, hFb, hvs⟩
    ·rw [h0] at hjl; simp at hjl
    ·obtain ⟨us, hds, hcs⟩ := hvs j (l[j]'hjl) (List.getElem?_eq_getElem hjl)
     obtain ⟨st', sl', sr', rfl, htv⟩ := arm_cells _ hds
     have htv : PV w F (l[j]'hjl).pat st' sl' sr' := htv
     obtain ⟨S', s1', s2', A', c', B', c2, rfl, rfl, rfl⟩ := htv.slices
     have hcs2 : ∀ q u, ((qcs (l[j]'hjl).pat.k (l[j]'hjl).pat.n (l[j]'hjl).pat.tm (.slice S' s1' s2') (.slice A' (l[j]'hjl).pat.l.length c') (.slice B' (l[j]'hjl).pat.r.length c2)).toList ++ [.int .i64 (l[j]'hjl).goes])[q]? = some u → wr.cell? ⟨bl, off + j * 12 + q, none⟩ = some u := fun q u hu => (HO.out.cell (p := ⟨bl, off + j * 12 + q, none⟩) hbl (by simp)).trans (hcs q u hu)
     obtain ⟨r0, r1, r2, r3, r4, r5, r6, r7, r8, r9, r10, r11⟩ := acs_twelve hcs2
     have HD := Lib.hid (show l.drop j = l[j]'hjl :: l.drop (j + 1) from List.drop_eq_getElem_cons hjl)
     clear hcs hcs2 htv hvs hds
     generalize l[j]'hjl = u at HD r0 r1 r2 r3 r4 r5 r6 r7 r8 r9 r10 r11
     have hx2 := HX.out
     rw [HD.out, List.map_cons] at hx2
     have HX2 := Lib.hid hx2
     clear hx2
     obtain ⟨gz, hgz⟩ : ∃ gz, u.goes = gz := ⟨_, rfl⟩
     rw [hgz] at r11 HX2
     generalize u.pat = p at r0 r1 r2 r3 r4 r5 r6 r7 r8 r9 r10
     clear hgz HD
     have hsz := HO.out.size
     have HRI := Lib.hid (fun gg (e : (Value.slice A1' xs.length c1').ownBlock = some gg) => show w.heap.size + 1 ≤ gg from (HI.out.block e).1)
     go_wp2_with (at_builtin; refine wpList_app1 (by rfl) _ _ (by rfl) (w.heap.size + 1) A1' xs.length c1' xs (by rfl) (HI.out.same ((Only.refl [] wr).alloc _)) rfl wr.heap.size gz (by rfl) (Bk.madeAt (by simp)) (by omega) (by simp; omega) ?_; intro A2 c2 w2 i2 o2 n2; have I2 := Lib.hid i2; have O2 := Lib.hid (Only.own HI.out (Nat.le_succ _) HO.out (((Only.refl [] wr).alloc (.cells #[.int .i64 gz] 3) |>.more (by simp)).trans o2 (fun i hi => .inl hi))); have BX2 := Lib.hid ((HBX.out.alloc (.cells #[.int .i64 gz] 3)).only o2 (by intro hm; have hh := HI.out.block (g := w.heap.size) (by simpa using hm); have := HRI.out _ (by simpa using hm); omega)); clear i2 o2 n2)
     have HN := Lib.hid (show JRelB w l R sv (.slice A2 (xs.length + 1) c2) (.int .i64 ((j : Int) + 1)) w2 from
      ⟨j + 1, xs ++ [gz], A2, c2, by go_num, by omega, by rw [List.length_append]; rfl, by rw [List.length_append, List.length_singleton]; omega, by rw [List.length_append, List.length_singleton]; exact I2.out, by rw [List.append_assoc]; exact HX2.out, O2.out, _, BX2.out, HB10.out⟩)
     go_roundw
     case rel => exact HN.out
     case measure => simp [intOf]; omega
   ·have hje : j = l.length := by omega
    subst hje
    have hx2 := HX.out
    rw [List.drop_length, List.map_nil, List.append_nil] at hx2
    have HE := Lib.hid (show ToE w R (.returned (.slice A1' xs.length c1')) wr from by subst hx2; exact ⟨A1', c1', rfl, ⟨HI.out.1, HI.out.2.imp id fun ⟨g, cap, cur, h1, h2, h3⟩ => ⟨g, cap, cur, h1, by omega, h3⟩⟩, HO.out⟩)
    clear hj hx2
    go_wp2_with fail
    go_ret
    exact HE.out
theorem rleads_c (op a b : Int) (t : T) (st : Value) (A : Option Addr) (n c : Nat) (l : List Arm) (F : Nat → Prop) (R : List Int) (w : World) (h : AL w F l (.slice A n c)) (hl : l.length ≤ 262144)
 (hop : (op = 33 ∧ b = -1 ∧ l.map Arm.goes = R) ∨ (op ≠ 25 ∧ op ≠ 26 ∧ op ≠ 27 ∧ op ≠ 33 ∧ l.map Arm.goes = R)) :
 Calls Tryz.prog 35 #[.agg (ics op a b t st (.slice A n c))] w fun e w' => ToE w R e w' := by
 have rs := store_com
 obtain ⟨A', cap', hv, hlc, hcap, hrows⟩ := h.mk arm_len
 injection hv with hv1 hv2 hv3
 subst hv1 hv2 hv3
 have HR := Lib.hid hrows
 have O0 := Lib.hid ((Only.refl [] w).alloc (.cells (ics op a b t st (.slice A l.length c)) 55))
 have B0 := Lib.hid (Bk.made w 55 (ics op a b t st (.slice A l.length c)))
 have NI := Lib.hid (IR.nil (w.alloc (.cells (ics op a b t st (.slice A l.length c)) 55)) (w.heap.size + 1))
 obtain ⟨sv, hsv⟩ : ∃ sv, Value.slice A l.length c = sv := ⟨_, rfl⟩
 have HSV := Lib.hid hsv
 clear h hrows hsv
 rcases hop with ⟨rfl, rfl, hR⟩ | ⟨h1, h2, h3, h4, hR⟩
 case' inr =>
  have e1 : (op == 25) = false := by simpa using h1
  have e2 : (op == 26) = false := by simpa using h2
  have e3 : (op == 27) = false := by simpa using h3
  have e4 : (op == 33) = false := by simpa using h4
  clear h1 h2 h3 h4
 all_goals
  have HRR := Lib.hid hR
  clear hR
  go_enter Tryz.func35, Tryz.ntmps35
  go_upto_if 27 with fail
  go_wp2_with (at_builtin; refine wpList_app1 (by rfl) _ _ (by rfl) (w.heap.size + 1) none 0 0 [] (by rfl) (IR.nil _ _) rfl (w.heap.size + 1) a (by rfl) (Bk.madeAt (by simp)) (by omega) (by simp) ?_; intro A1 c1 w1 i1 o1 n1; have I1 := Lib.hid i1; have O1 := Lib.hid ((O0.out.alloc (.cells #[.int .i64 a] 3)).trans o1 (by simp [Value.ownBlock])); have B1 := Lib.hid ((B0.out.alloc (.cells #[.int .i64 a] 3)).only o1 (by simp [Value.ownBlock])); have d10 := B1.out.cell0 (i := 10) rfl; clear i1 o1 n1)
  go_loopw [3, 4] (fun lv iv wr => JRelB w l R sv lv iv wr) (fun _ iv _ => l.length - (intOf iv).toNat)
  case atStart => first
   | exact ⟨0, [a], A1, c1, rfl, Nat.zero_le _, rfl, Nat.le_refl _, I1.out, HRR.out, O1.out, _, B1.out, by rw [← HSV.out]; rfl⟩
   | exact ⟨0, [], none, 0, rfl, Nat.zero_le _, rfl, Nat.zero_le _, NI.out, HRR.out, O0.out, _, B0.out, by rw [← HSV.out]; rfl⟩
  case round =>
   obtain ⟨j, xs, A1', c1', rfl, hj, rfl, hxs, hi, hx, ho, bcs, hbx, hb10⟩ := hrel
   have HBX := Lib.hid hbx
   have HB10 := Lib.hid hb10
   have d10 := hbx.cell0 (i := 10) hb10
   rw [← HSV.out] at d10
   clear hbx hb10
   have HI := Lib.hid hi
   have HX := Lib.hid hx
   have HO := Lib.hid ho
   clear hi hx ho
   by_cases hjl : j < l.length
   ·rcases HR.out with h0 | ⟨bl, off, rfl, hbl, hFb, hvs⟩
    ·rw [h0] at hjl; simp at hjl
    ·obtain ⟨us, hds, hcs⟩ := hvs j (l[j]'hjl) (List.getElem?_eq_getElem hjl)
     obtain ⟨st', sl', sr', rfl, htv⟩ := arm_cells _ hds
     have htv : PV w F (l[j]'hjl).pat st' sl' sr' := htv
     obtain ⟨S', s1', s2', A', c', B', c2, rfl, rfl, rfl⟩ := htv.slices
     have hcs2 : ∀ q u, ((qcs (l[j]'hjl).pat.k (l[j]'hjl).pat.n (l[j]'hjl).pat.tm (.slice S' s1' s2') (.slice A' (l[j]'hjl).pat.l.length c') (.slice B' (l[j]'hjl).pat.r.length c2)).toList ++ [.int .i64 (l[j]'hjl).goes])[q]? = some u → wr.cell? ⟨bl, off + j * 12 + q, none⟩ = some u := fun q u hu => (HO.out.cell (p := ⟨bl, off + j * 12 + q, none⟩) hbl (by simp)).trans (hcs q u hu)
     obtain ⟨r0, r1, r2, r3, r4, r5, r6, r7, r8, r9, r10, r11⟩ := acs_twelve hcs2
     have HD := Lib.hid (show l.drop j = l[j]'hjl :: l.drop (j + 1) from List.drop_eq_getElem_cons hjl)
     clear hcs hcs2 htv hvs hds
     generalize l[j]'hjl = u at HD r0 r1 r2 r3 r4 r5 r6 r7 r8 r9 r10 r11
     have hx2 := HX.out
     rw [HD.out, List.map_cons] at hx2
     have HX2 := Lib.hid hx2
     clear hx2
     obtain ⟨gz, hgz⟩ : ∃ gz, u.goes = gz := ⟨_, rfl⟩
     rw [hgz] at r11 HX2
     generalize u.pat = p at r0 r1 r2 r3 r4 r5 r6 r7 r8 r9 r10
     clear hgz HD
     have hsz := HO.out.size
     have HRI := Lib.hid (fun gg (e : (Value.slice A1' xs.length c1').ownBlock = some gg) => show w.heap.size + 1 ≤ gg from (HI.out.block e).1)
     go_wp2_with (at_builtin; refine wpList_app1 (by rfl) _ _ (by rfl) (w.heap.size + 1) A1' xs.length c1' xs (by rfl) (HI.out.same ((Only.refl [] wr).alloc _)) rfl wr.heap.size gz (by rfl) (Bk.madeAt (by simp)) (by omega) (by simp; omega) ?_; intro A2 c2 w2 i2 o2 n2; have I2 := Lib.hid i2; have O2 := Lib.hid (Only.own HI.out (Nat.le_succ _) HO.out (((Only.refl [] wr).alloc (.cells #[.int .i64 gz] 3) |>.more (by simp)).trans o2 (fun i hi => .inl hi))); have BX2 := Lib.hid ((HBX.out.alloc (.cells #[.int .i64 gz] 3)).only o2 (by intro hm; have hh := HI.out.block (g := w.heap.size) (by simpa using hm); have := HRI.out _ (by simpa using hm); omega)); clear i2 o2 n2)
     have HN := Lib.hid (show JRelB w l R sv (.slice A2 (xs.length + 1) c2) (.int .i64 ((j : Int) + 1)) w2 from
      ⟨j + 1, xs ++ [gz], A2, c2, by go_num, by omega, by rw [List.length_append]; rfl, by rw [List.length_append, List.length_singleton]; omega, by rw [List.length_append, List.length_singleton]; exact I2.out, by rw [List.append_assoc]; exact HX2.out, O2.out, _, BX2.out, HB10.out⟩)
     go_roundw
     case rel => exact HN.out
     case measure => simp [intOf]; omega
   ·have hje : j = l.length := by omega
    subst hje
    have hx2 := HX.out
    rw [List.drop_length, List.map_nil, List.append_nil] at hx2
    have HE := Lib.hid (show ToE w R (.returned (.slice A1' xs.length c1')) wr from by subst hx2; exact ⟨A1', c1', rfl, ⟨HI.out.1, HI.out.2.imp id fun ⟨g, cap, cur, h1, h2, h3⟩ => ⟨g, cap, cur, h1, by omega, h3⟩⟩, HO.out⟩)
    clear hj hx2
    go_wp2_with fail
    go_ret
    exact HE.out
theorem rleads_go (op a b : Int) (t : T) (st : Value) (A : Option Addr) (n c : Nat) (l : List Arm) (F : Nat → Prop) (R : List Int) (w : World) (h : AL w F l (.slice A n c)) (hl : l.length ≤ 262144)
 (hop : (op = 25 ∧ a :: l.map Arm.goes = R) ∨ (op = 26 ∧ a :: l.map Arm.goes = R) ∨ (op = 27 ∧ a :: l.map Arm.goes = R) ∨ (op = 33 ∧ b ≠ -1 ∧ a :: l.map Arm.goes = R) ∨ (op = 33 ∧ b = -1 ∧ l.map Arm.goes = R) ∨ (op ≠ 25 ∧ op ≠ 26 ∧ op ≠ 27 ∧ op ≠ 33 ∧ l.map Arm.goes = R)) :
 Calls Tryz.prog 35 #[.agg (ics op a b t st (.slice A n c))] w fun e w' => ToE w R e w' := by
 rcases hop with h1 | h1 | h1 | h1 | h1 | h1
 ·exact rleads_a op a b t st A n c l F R w h hl (.inl h1)
 ·exact rleads_a op a b t st A n c l F R w h hl (.inr (.inl h1))
 ·exact rleads_a op a b t st A n c l F R w h hl (.inr (.inr h1))
 ·exact rleads_b op a b t st A n c l F R w h hl h1
 ·exact rleads_c op a b t st A n c l F R w h hl (.inl h1)
 ·exact rleads_c op a b t st A n c l F R w h hl (.inr h1)
theorem rleads_any (i : In) (hl : i.arms.length ≤ 262144) (st : Value) (A : Option Addr) (n c : Nat) (F : Nat → Prop) (w : World) (h : AL w F i.arms (.slice A n c)) :
 Calls Tryz.prog 35 #[.agg (ics i.op i.a i.b i.t st (.slice A n c))] w fun e w' => ToE w i.to e w' := by
 refine rleads_go i.op i.a i.b i.t st A n c i.arms F i.to w h hl ?_
 unfold In.to
 by_cases h1 : i.op = 25
 ·exact .inl ⟨h1, by rw [if_pos (.inl h1)]; rfl⟩
 by_cases h2 : i.op = 26
 ·exact .inr (.inl ⟨h2, by rw [if_pos (.inr (.inl h2))]; rfl⟩)
 by_cases h3 : i.op = 27
 ·exact .inr (.inr (.inl ⟨h3, by rw [if_pos (.inr (.inr (.inl h3)))]; rfl⟩))
 by_cases h4 : i.op = 33
 ·by_cases h5 : i.b = -1
  ·exact .inr (.inr (.inr (.inr (.inl ⟨h4, h5, by rw [if_neg (by intro h; rcases h with h | h | h | h; exact h1 h; exact h2 h; exact h3 h; exact h.2 h5)]; rfl⟩))))
  ·exact .inr (.inr (.inr (.inl ⟨h4, h5, by rw [if_pos (.inr (.inr (.inr ⟨h4, h5⟩)))]; rfl⟩)))
 ·exact .inr (.inr (.inr (.inr (.inr ⟨h1, h2, h3, h4, by rw [if_neg (by intro h; rcases h with h | h | h | h; exact h1 h; exact h2 h; exact h3 h; exact h4 h.1)]; rfl⟩))))
end Go.Proofs.YtcdefnbehlcgeaaGreatDoor
