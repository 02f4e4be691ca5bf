/- pattern: walk.mayBe, by the pattern's kind.. -/
import Derived.Test.YtcdefnbehlcgeaaGreatDoorWs
import Derived.Deep.RegionHeld3
set_option maxHeartbeats 4000000
set_option maxRecDepth 20000
set_option linter.unusedSimpArgs false
namespace Go.Proofs.YtcdefnbehlcgeaaGreatDoor
open Go.RowKit
theorem good_k0 {t : T} (h : t.Good) : t.k ≠ 0 := by
 cases t with
 | zero => exact h.elim
 | tup k l => have := h.1; simp only [T.k]; omega
 | _ => simp [T.k]
theorem Bk.elevenH {w : World} {b : Nat} {t : TypeId} {v0 v1 v2 v3 v4 v5 v6 v7 v8 v9 v10 : Value} (h : Bk w b t #[v0, v1, v2, v3, v4, v5, v6, v7, v8, v9, v10]) :
 w.cell? ⟨b, 0, none⟩ = some v0 ∧ w.cell? ⟨b, 1, none⟩ = some v1 ∧ w.cell? ⟨b, 2, none⟩ = some v2 ∧ w.cell? ⟨b, 3, none⟩ = some v3 ∧ w.cell? ⟨b, 4, none⟩ = some v4 ∧ w.cell? ⟨b, 5, none⟩ = some v5 ∧ w.cell? ⟨b, 6, none⟩ = some v6 ∧ w.cell? ⟨b, 7, none⟩ = some v7 ∧ w.cell? ⟨b, 8, none⟩ = some v8 ∧ w.cell? ⟨b, 9, none⟩ = some v9 ∧ w.cell? ⟨b, 10, none⟩ = some v10 :=
 ⟨h.cell0 rfl, h.cell0 rfl, h.cell0 rfl, h.cell0 rfl, h.cell0 rfl, h.cell0 rfl, h.cell0 rfl, h.cell0 rfl, h.cell0 rfl, h.cell0 rfl, h.cell0 rfl⟩
theorem Lies.same {w w' : World} {A : Option Addr} {bs : List Int} (h : Lies w A bs) (o : Only [] w w') : Lies w' A bs := fun k z hz => by
 obtain ⟨g, h1, h2, cs, h3⟩ := h k z hz
 exact ⟨g, h1, (o.cell (p := ⟨g, k, none⟩) h3.lt (by simp)).trans h2, cs, h3.only o (by simp)⟩
theorem qmay_any (wb : Nat) (A B : Option Addr) (c c' : Nat)  (w : World)  : Calls Tryz.prog 124 #[.pointer (some ⟨wb, 0, none⟩), .agg #[.int .i64 1, .int .i64 0, .int .i64 0, .int .i64 0, .complex .f64 0 0, .string ⟨#[]⟩, .int .i64 0, .int .i64 0, .slice none 0 0, .slice A 0 c, .slice B 0 c']] w fun e w' => e = .returned (.bool true) ∧ Only [] w w' := by
 have rs := store_com
 have HZ := Lib.hid (fun w => pzero_yes w)
 have BI := Lib.hid (Bk.made w 88 #[.int .i64 1, .int .i64 0, .int .i64 0, .int .i64 0, .complex .f64 0 0, .string ⟨#[]⟩, .int .i64 0, .int .i64 0, .slice none 0 0, .slice A 0 c, .slice B 0 c'])
 have O0 := Lib.hid ((Only.refl [] w).alloc (.cells #[.int .i64 1, .int .i64 0, .int .i64 0, .int .i64 0, .complex .f64 0 0, .string ⟨#[]⟩, .int .i64 0, .int .i64 0, .slice none 0 0, .slice A 0 c, .slice B 0 c'] 88))
 obtain ⟨c0, c1, c2, c3, c4, c5, c6, c7, c8, c9, c10⟩ := BI.out.elevenH
 go_enter Tryz.func124, Tryz.ntmps124
 go_wp2_with fail
 go_region_held3 (fun w' => w'.cell? ⟨w.heap.size, 1, none⟩ = some (.int .i64 0) ∧ w'.cell? ⟨w.heap.size, 2, none⟩ = some (.int .i64 0) ∧ w'.cell? ⟨w.heap.size, 3, none⟩ = some (.int .i64 0) ∧ w'.cell? ⟨w.heap.size, 4, none⟩ = some (.complex .f64 0 0) ∧ w'.cell? ⟨w.heap.size, 5, none⟩ = some (.string ⟨#[]⟩) ∧ w'.cell? ⟨w.heap.size, 6, none⟩ = some (.int .i64 0) ∧ w'.cell? ⟨w.heap.size, 7, none⟩ = some (.int .i64 0) ∧ w'.cell? ⟨w.heap.size, 8, none⟩ = some (.slice none 0 0) ∧ w'.cell? ⟨w.heap.size, 9, none⟩ = some (.slice A 0 c) ∧ w'.cell? ⟨w.heap.size, 10, none⟩ = some (.slice B 0 c')) (first | exact ⟨by assumption, by assumption, by assumption, by assumption, by assumption, by assumption, by assumption, by assumption, by assumption, by assumption⟩ | go_keep)
  (first
    | (go_at_call 130; (with_reducible refine (HZ.out _).mono ?_); rintro e w2 ⟨rfl, o, rfl⟩; obtain ⟨d0, d1, d2, d3, d4, d5, d6, d7, d8, d9, d10⟩ := (BI.out.drew.alloc o).elevenH))
 have OA := Lib.hid (O0.out.alloc o).drew
 have BA := Lib.hid (BI.out.alloc o).drew
 go_wp2_with fail
 go_ret
 exact ⟨rfl, OA.out⟩
theorem qmay_var (wb : Nat) (A B : Option Addr) (c c' : Nat) (L met n : Int) (C : Option Addr) (cap : Nat) (bs : List Int) (r : Bool) (w : World) (hb : Bk w wb 172 #[.int .i64 L, .int .i64 met, .slice C bs.length cap]) (h : Lies w C bs) (hl : bs.length ≤ 1024) (hr : (decide (0 ≤ n) && decide (n < L) && !decide (n ∈ bs)) = r) : Calls Tryz.prog 124 #[.pointer (some ⟨wb, 0, none⟩), .agg #[.int .i64 2, .int .i64 n, .int .i64 0, .int .i64 0, .complex .f64 0 0, .string ⟨#[]⟩, .int .i64 0, .int .i64 0, .slice none 0 0, .slice A 0 c, .slice B 0 c']] w fun e w' => e = .returned (.bool r) ∧ Only [] w w' := by
 have rs := store_com
 have HZ := Lib.hid (fun w => pzero_yes w)
 have HF := Lib.hid (fun w1 (o1 : Only [] w w1) => isFree_any wb L met C cap bs n r w1 (hb.only o1 (by simp)) (h.same o1) hl hr)
 clear hb h hl hr
 cases r
 all_goals
  have BI := Lib.hid (Bk.made w 88 #[.int .i64 2, .int .i64 n, .int .i64 0, .int .i64 0, .complex .f64 0 0, .string ⟨#[]⟩, .int .i64 0, .int .i64 0, .slice none 0 0, .slice A 0 c, .slice B 0 c'])
  have O0 := Lib.hid ((Only.refl [] w).alloc (.cells #[.int .i64 2, .int .i64 n, .int .i64 0, .int .i64 0, .complex .f64 0 0, .string ⟨#[]⟩, .int .i64 0, .int .i64 0, .slice none 0 0, .slice A 0 c, .slice B 0 c'] 88))
  obtain ⟨c0, c1, c2, c3, c4, c5, c6, c7, c8, c9, c10⟩ := BI.out.elevenH
  go_enter Tryz.func124, Tryz.ntmps124
  go_wp2_with fail
  go_region_held3 (fun w' => w'.cell? ⟨w.heap.size, 1, none⟩ = some (.int .i64 n) ∧ w'.cell? ⟨w.heap.size, 2, none⟩ = some (.int .i64 0) ∧ w'.cell? ⟨w.heap.size, 3, none⟩ = some (.int .i64 0) ∧ w'.cell? ⟨w.heap.size, 4, none⟩ = some (.complex .f64 0 0) ∧ w'.cell? ⟨w.heap.size, 5, none⟩ = some (.string ⟨#[]⟩) ∧ w'.cell? ⟨w.heap.size, 6, none⟩ = some (.int .i64 0) ∧ w'.cell? ⟨w.heap.size, 7, none⟩ = some (.int .i64 0) ∧ w'.cell? ⟨w.heap.size, 8, none⟩ = some (.slice none 0 0) ∧ w'.cell? ⟨w.heap.size, 9, none⟩ = some (.slice A 0 c) ∧ w'.cell? ⟨w.heap.size, 10, none⟩ = some (.slice B 0 c')) (first | exact ⟨by assumption, by assumption, by assumption, by assumption, by assumption, by assumption, by assumption, by assumption, by assumption, by assumption⟩ | go_keep)
   (first
     | (go_at_call 130; (with_reducible refine (HZ.out _).mono ?_); rintro e w2 ⟨rfl, o, rfl⟩; obtain ⟨d0, d1, d2, d3, d4, d5, d6, d7, d8, d9, d10⟩ := (BI.out.drew.alloc o).elevenH))
  have OA := Lib.hid (O0.out.alloc o).drew
  have BA := Lib.hid (BI.out.alloc o).drew
  go_wp2_with fail
  (with_reducible refine (HF.out _ OA.out).mono ?_)
  rintro e w3 ⟨rfl, rfl⟩
  have k0 := BA.out.cell0 (i := 0) rfl
  go_wp2_with fail
  go_ret
  exact ⟨rfl, OA.out⟩
theorem qmay_term (wb : Nat) (A B : Option Addr) (c c' : Nat) (t : T) (A9 : Option Addr) (m9 z9 : Nat) (F : Nat → Prop) (r : Bool) (w : World) (hg : t.Good) (hv : TV w F t (.slice A9 m9 z9)) (hF : ∀ b, F b → b < w.heap.size) (hr : (decide (t.k ≠ 8) && decide (t.k ≠ 9) && decide (chk t = 0)) = r) : Calls Tryz.prog 124 #[.pointer (some ⟨wb, 0, none⟩), .agg #[.int .i64 3, .int .i64 0, .int .i64 t.k, .int .i64 t.n, .complex .f64 t.x t.y, .string t.S, .int .i64 t.a, .int .i64 t.b, .slice A9 m9 z9, .slice A 0 c, .slice B 0 c']] w fun e w' => e = .returned (.bool r) ∧ Only [] w w' := by
 have rs := store_com
 have HZ := Lib.hid (fun w => pzero_no t.k t.n t.x t.y t.S t.a t.b A9 m9 z9 w (good_k0 hg))
 have HF := Lib.hid (fun w1 (o1 : Only [] w w1) => isLeaf_any t hg A9 m9 z9 F r w1 (hv.same o1) (fun b hb => Nat.lt_of_lt_of_le (hF b hb) o1.size) hr)
 clear hg hv hF hr
 cases r
 all_goals
  have BI := Lib.hid (Bk.made w 88 #[.int .i64 3, .int .i64 0, .int .i64 t.k, .int .i64 t.n, .complex .f64 t.x t.y, .string t.S, .int .i64 t.a, .int .i64 t.b, .slice A9 m9 z9, .slice A 0 c, .slice B 0 c'])
  have O0 := Lib.hid ((Only.refl [] w).alloc (.cells #[.int .i64 3, .int .i64 0, .int .i64 t.k, .int .i64 t.n, .complex .f64 t.x t.y, .string t.S, .int .i64 t.a, .int .i64 t.b, .slice A9 m9 z9, .slice A 0 c, .slice B 0 c'] 88))
  obtain ⟨c0, c1, c2, c3, c4, c5, c6, c7, c8, c9, c10⟩ := BI.out.elevenH
  go_enter Tryz.func124, Tryz.ntmps124
  go_wp2_with fail
  go_region_held3 (fun w' => w'.cell? ⟨w.heap.size, 1, none⟩ = some (.int .i64 0) ∧ w'.cell? ⟨w.heap.size, 2, none⟩ = some (.int .i64 t.k) ∧ w'.cell? ⟨w.heap.size, 3, none⟩ = some (.int .i64 t.n) ∧ w'.cell? ⟨w.heap.size, 4, none⟩ = some (.complex .f64 t.x t.y) ∧ w'.cell? ⟨w.heap.size, 5, none⟩ = some (.string t.S) ∧ w'.cell? ⟨w.heap.size, 6, none⟩ = some (.int .i64 t.a) ∧ w'.cell? ⟨w.heap.size, 7, none⟩ = some (.int .i64 t.b) ∧ w'.cell? ⟨w.heap.size, 8, none⟩ = some (.slice A9 m9 z9) ∧ w'.cell? ⟨w.heap.size, 9, none⟩ = some (.slice A 0 c) ∧ w'.cell? ⟨w.heap.size, 10, none⟩ = some (.slice B 0 c')) (first | exact ⟨by assumption, by assumption, by assumption, by assumption, by assumption, by assumption, by assumption, by assumption, by assumption, by assumption⟩ | go_keep)
   (first
     | (go_at_call 130; (with_reducible refine (HZ.out _).mono ?_); rintro e w2 ⟨rfl, o, rfl⟩; obtain ⟨d0, d1, d2, d3, d4, d5, d6, d7, d8, d9, d10⟩ := (BI.out.drew.alloc o).elevenH))
  have OA := Lib.hid (O0.out.alloc o).drew
  have BA := Lib.hid (BI.out.alloc o).drew
  go_wp2_with fail
  (with_reducible refine (HF.out _ OA.out).mono ?_)
  rintro e w3 ⟨rfl, o3⟩
  have O3 := Lib.hid (OA.out.trans o3 (by simp))
  clear o3
  go_wp2_with fail
  go_ret
  exact ⟨rfl, O3.out⟩
theorem qmay_kind (wb : Nat) (A B : Option Addr) (c c' : Nat) (n : Int) (r : Bool) (w : World) (hk : KN w) (hr : (decide (1 ≤ n) && decide (n ≤ 9)) = r) : Calls Tryz.prog 124 #[.pointer (some ⟨wb, 0, none⟩), .agg #[.int .i64 4, .int .i64 n, .int .i64 0, .int .i64 0, .complex .f64 0 0, .string ⟨#[]⟩, .int .i64 0, .int .i64 0, .slice none 0 0, .slice A 0 c, .slice B 0 c']] w fun e w' => e = .returned (.bool r) ∧ Only [] w w' := by
 have rs := store_com
 have HZ := Lib.hid (fun w => pzero_yes w)
 have HF := Lib.hid (fun w1 (o1 : Only [] w w1) => isKind_any n r w1 (hk.same o1) hr)
 clear hr hk
 cases r
 all_goals
  have BI := Lib.hid (Bk.made w 88 #[.int .i64 4, .int .i64 n, .int .i64 0, .int .i64 0, .complex .f64 0 0, .string ⟨#[]⟩, .int .i64 0, .int .i64 0, .slice none 0 0, .slice A 0 c, .slice B 0 c'])
  have O0 := Lib.hid ((Only.refl [] w).alloc (.cells #[.int .i64 4, .int .i64 n, .int .i64 0, .int .i64 0, .complex .f64 0 0, .string ⟨#[]⟩, .int .i64 0, .int .i64 0, .slice none 0 0, .slice A 0 c, .slice B 0 c'] 88))
  obtain ⟨c0, c1, c2, c3, c4, c5, c6, c7, c8, c9, c10⟩ := BI.out.elevenH
  go_enter Tryz.func124, Tryz.ntmps124
  go_wp2_with fail
  go_region_held3 (fun w' => w'.cell? ⟨w.heap.size, 1, none⟩ = some (.int .i64 n) ∧ w'.cell? ⟨w.heap.size, 2, none⟩ = some (.int .i64 0) ∧ w'.cell? ⟨w.heap.size, 3, none⟩ = some (.int .i64 0) ∧ w'.cell? ⟨w.heap.size, 4, none⟩ = some (.complex .f64 0 0) ∧ w'.cell? ⟨w.heap.size, 5, none⟩ = some (.string ⟨#[]⟩) ∧ w'.cell? ⟨w.heap.size, 6, none⟩ = some (.int .i64 0) ∧ w'.cell? ⟨w.heap.size, 7, none⟩ = some (.int .i64 0) ∧ w'.cell? ⟨w.heap.size, 8, none⟩ = some (.slice none 0 0) ∧ w'.cell? ⟨w.heap.size, 9, none⟩ = some (.slice A 0 c) ∧ w'.cell? ⟨w.heap.size, 10, none⟩ = some (.slice B 0 c')) (first | exact ⟨by assumption, by assumption, by assumption, by assumption, by assumption, by assumption, by assumption, by assumption, by assumption, by assumption⟩ | go_keep)
   (first
     | (go_at_call 130; (with_reducible refine (HZ.out _).mono ?_); rintro e w2 ⟨rfl, o, rfl⟩; obtain ⟨d0, d1, d2, d3, d4, d5, d6, d7, d8, d9, d10⟩ := (BI.out.drew.alloc o).elevenH))
  have OA := Lib.hid (O0.out.alloc o).drew
  have BA := Lib.hid (BI.out.alloc o).drew
  go_wp2_with fail
  (with_reducible refine (HF.out _ OA.out).mono ?_)
  rintro e w3 ⟨rfl, rfl⟩
  go_wp2_with fail
  go_ret
  exact ⟨rfl, OA.out⟩
theorem qmay_tup (wb : Nat) (A B : Option Addr) (c c' : Nat) (m : Nat) (w : World)  : Calls Tryz.prog 124 #[.pointer (some ⟨wb, 0, none⟩), .agg #[.int .i64 5, .int .i64 0, .int .i64 0, .int .i64 0, .complex .f64 0 0, .string ⟨#[]⟩, .int .i64 0, .int .i64 0, .slice none 0 0, .slice A m c, .slice B 0 c']] w fun e w' => e = .returned (.bool true) ∧ Only [] w w' := by
 have rs := store_com
 have HZ := Lib.hid (fun w => pzero_yes w)
 have BI := Lib.hid (Bk.made w 88 #[.int .i64 5, .int .i64 0, .int .i64 0, .int .i64 0, .complex .f64 0 0, .string ⟨#[]⟩, .int .i64 0, .int .i64 0, .slice none 0 0, .slice A m c, .slice B 0 c'])
 have O0 := Lib.hid ((Only.refl [] w).alloc (.cells #[.int .i64 5, .int .i64 0, .int .i64 0, .int .i64 0, .complex .f64 0 0, .string ⟨#[]⟩, .int .i64 0, .int .i64 0, .slice none 0 0, .slice A m c, .slice B 0 c'] 88))
 obtain ⟨c0, c1, c2, c3, c4, c5, c6, c7, c8, c9, c10⟩ := BI.out.elevenH
 go_enter Tryz.func124, Tryz.ntmps124
 go_wp2_with fail
 go_region_held3 (fun w' => w'.cell? ⟨w.heap.size, 1, none⟩ = some (.int .i64 0) ∧ w'.cell? ⟨w.heap.size, 2, none⟩ = some (.int .i64 0) ∧ w'.cell? ⟨w.heap.size, 3, none⟩ = some (.int .i64 0) ∧ w'.cell? ⟨w.heap.size, 4, none⟩ = some (.complex .f64 0 0) ∧ w'.cell? ⟨w.heap.size, 5, none⟩ = some (.string ⟨#[]⟩) ∧ w'.cell? ⟨w.heap.size, 6, none⟩ = some (.int .i64 0) ∧ w'.cell? ⟨w.heap.size, 7, none⟩ = some (.int .i64 0) ∧ w'.cell? ⟨w.heap.size, 8, none⟩ = some (.slice none 0 0) ∧ w'.cell? ⟨w.heap.size, 9, none⟩ = some (.slice A m c) ∧ w'.cell? ⟨w.heap.size, 10, none⟩ = some (.slice B 0 c')) (first | exact ⟨by assumption, by assumption, by assumption, by assumption, by assumption, by assumption, by assumption, by assumption, by assumption, by assumption⟩ | go_keep)
  (first
    | (go_at_call 130; (with_reducible refine (HZ.out _).mono ?_); rintro e w2 ⟨rfl, o, rfl⟩; obtain ⟨d0, d1, d2, d3, d4, d5, d6, d7, d8, d9, d10⟩ := (BI.out.drew.alloc o).elevenH))
 have OA := Lib.hid (O0.out.alloc o).drew
 have BA := Lib.hid (BI.out.alloc o).drew
 go_wp2_with fail
 go_ret
 exact ⟨rfl, OA.out⟩
theorem qmay_list (wb : Nat) (A B : Option Addr) (c c' : Nat) (m m' : Nat) (w : World) (h : m' ≤ 1) : Calls Tryz.prog 124 #[.pointer (some ⟨wb, 0, none⟩), .agg #[.int .i64 6, .int .i64 0, .int .i64 0, .int .i64 0, .complex .f64 0 0, .string ⟨#[]⟩, .int .i64 0, .int .i64 0, .slice none 0 0, .slice A m c, .slice B m' c']] w fun e w' => e = .returned (.bool true) ∧ Only [] w w' := by
 have rs := store_com
 have HZ := Lib.hid (fun w => pzero_yes w)
 have p1 : (m' : Int) ≤ 1 := by omega
 clear h
 have BI := Lib.hid (Bk.made w 88 #[.int .i64 6, .int .i64 0, .int .i64 0, .int .i64 0, .complex .f64 0 0, .string ⟨#[]⟩, .int .i64 0, .int .i64 0, .slice none 0 0, .slice A m c, .slice B m' c'])
 have O0 := Lib.hid ((Only.refl [] w).alloc (.cells #[.int .i64 6, .int .i64 0, .int .i64 0, .int .i64 0, .complex .f64 0 0, .string ⟨#[]⟩, .int .i64 0, .int .i64 0, .slice none 0 0, .slice A m c, .slice B m' c'] 88))
 obtain ⟨c0, c1, c2, c3, c4, c5, c6, c7, c8, c9, c10⟩ := BI.out.elevenH
 go_enter Tryz.func124, Tryz.ntmps124
 go_wp2_with fail
 go_region_held3 (fun w' => w'.cell? ⟨w.heap.size, 1, none⟩ = some (.int .i64 0) ∧ w'.cell? ⟨w.heap.size, 2, none⟩ = some (.int .i64 0) ∧ w'.cell? ⟨w.heap.size, 3, none⟩ = some (.int .i64 0) ∧ w'.cell? ⟨w.heap.size, 4, none⟩ = some (.complex .f64 0 0) ∧ w'.cell? ⟨w.heap.size, 5, none⟩ = some (.string ⟨#[]⟩) ∧ w'.cell? ⟨w.heap.size, 6, none⟩ = some (.int .i64 0) ∧ w'.cell? ⟨w.heap.size, 7, none⟩ = some (.int .i64 0) ∧ w'.cell? ⟨w.heap.size, 8, none⟩ = some (.slice none 0 0) ∧ w'.cell? ⟨w.heap.size, 9, none⟩ = some (.slice A m c) ∧ w'.cell? ⟨w.heap.size, 10, none⟩ = some (.slice B m' c')) (first | exact ⟨by assumption, by assumption, by assumption, by assumption, by assumption, by assumption, by assumption, by assumption, by assumption, by assumption⟩ | go_keep)
  (first
    | (go_at_call 130; (with_reducible refine (HZ.out _).mono ?_); rintro e w2 ⟨rfl, o, rfl⟩; obtain ⟨d0, d1, d2, d3, d4, d5, d6, d7, d8, d9, d10⟩ := (BI.out.drew.alloc o).elevenH))
 have OA := Lib.hid (O0.out.alloc o).drew
 have BA := Lib.hid (BI.out.alloc o).drew
 go_wp2_with fail
 have k10 := BA.out.cell0 (i := 10) rfl
 go_quiet (fail)
 go_wp2_with fail
 go_ret
 exact ⟨rfl, (O0.out.alloc o).drewN _⟩
theorem qmay_all (p : QT) (hg : p.Good) (wb : Nat) (L met : Int) (C : Option Addr) (cap : Nat) (bs : List Int) (st sl sr : Value) (F : Nat → Prop) (r : Bool) (w : World) (hb : Bk w wb 172 #[.int .i64 L, .int .i64 met, .slice C bs.length cap]) (h : Lies w C bs) (hl : bs.length ≤ 1024) (hk : KN w) (hF : ∀ b, F b → b < w.heap.size) (ht : TV w F p.tm st) (hL : QL w F p.l sl) (hR : QL w F p.r sr) (hr : okQ L bs p = r) :
 Calls Tryz.prog 124 #[.pointer (some ⟨wb, 0, none⟩), .agg (qcs p.k p.n p.tm st sl sr)] w fun e w' => e = .returned (.bool r) ∧ Only [] w w' := by
 obtain ⟨A, c, rfl⟩ := hL.slice
 obtain ⟨B, c', rfl⟩ := hR.slice
 cases p with
 | zero => exact hg.elim
 | any =>
  obtain rfl := (TV.leaf (by simp [QT.tm])).1 ht
  subst hr
  simp only [QT.k, QT.n, QT.tm, T.k, T.n, T.x, T.y, T.S, T.a, T.b]
  exact qmay_any wb A B c c' w
 | var n =>
  obtain rfl := (TV.leaf (by simp [QT.tm])).1 ht
  simp only [QT.k, QT.n, QT.tm, T.k, T.n, T.x, T.y, T.S, T.a, T.b]
  exact qmay_var wb A B c c' L met n C cap bs r w hb h hl hr
 | term t =>
  obtain ⟨A9, m9, z9, rfl⟩ := ht.slice
  simp only [QT.k, QT.n, QT.tm]
  exact qmay_term wb A B c c' t A9 m9 z9 F r w hg ht hF hr
 | kind n =>
  obtain rfl := (TV.leaf (by simp [QT.tm])).1 ht
  simp only [QT.k, QT.n, QT.tm, T.k, T.n, T.x, T.y, T.S, T.a, T.b]
  exact qmay_kind wb A B c c' n r w hk hr
 | seq k l rr =>
  obtain rfl := (TV.leaf (by simp [QT.tm])).1 ht
  subst hr
  obtain ⟨hkk, -, h1, -, -⟩ := hg
  simp only [QT.k, QT.n, QT.tm, T.k, T.n, T.x, T.y, T.S, T.a, T.b]
  rcases hkk with ⟨rfl, rfl⟩ | rfl
  ·exact qmay_tup wb A B c c' l.length w
  ·exact qmay_list wb A B c c' l.length rr.length w h1
end Go.Proofs.YtcdefnbehlcgeaaGreatDoor
