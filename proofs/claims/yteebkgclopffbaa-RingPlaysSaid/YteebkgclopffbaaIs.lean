/- is: a ring stands as the document's. -/
import Derived.Test.YteebkgclopffbaaDoes4
namespace Go.Proofs.Yteebkgclopffbaa
open Go.RowKit

set_option maxRecDepth 100000 in
set_option maxHeartbeats 8000000 in
theorem is_any {w : World} {b : Nat} {A : Option Nat} {room : Nat} {xs : List Int} (Aw : Option Addr) (cap : Nat) (hr : Ring w b A room xs) (hR : Rd w Aw xs) :
    Calls Try.prog 12 #[.pointer (some ⟨b, 0, none⟩), .agg #[.int .i64 room, .slice Aw xs.length cap]] w fun e w' => e = .returned (.bool true) ∧ Only [] w w' := by
  have hxl : xs.length ≤ 65536 := Nat.le_trans hr.len hr.top
  have hrl := hr.len
  have htop := hr.top
  have o0 : Only [] w (w.alloc (.cells #[.int .i64 room, .slice Aw xs.length cap] 29)) := (Only.refl _ _).alloc _
  have IT := Lib.hid (items_yes (hr.only o0 (by simp) (by simp)))
  have HBX := Lib.hid (Bk.made w 29 #[.int .i64 room, .slice Aw xs.length cap])
  have HR := Lib.hid hr
  have HRD := Lib.hid hR
  have HO := Lib.hid o0
  clear hr hR o0
  go_enter Try.func12, Try.ntmps12
  go_wp2_with fail
  have hsz0 : w.heap.size < (w.alloc (.cells #[.int .i64 room, .slice Aw xs.length cap] 29)).heap.size := by simp
  generalize (w.alloc (.cells #[.int .i64 room, .slice Aw xs.length cap] 29)) = W0 at *
  (with_reducible refine IT.out.mono ?_)
  rintro e w1 ⟨rfl, b1, o1⟩
  have k0 : w1.cell? ⟨w.heap.size, 0, none⟩ = some (.int .i64 room) := (HBX.out.only o1 (by simp)).cell0 rfl
  have k1 : w1.cell? ⟨w.heap.size, 1, none⟩ = some (.slice Aw xs.length cap) := (HBX.out.only o1 (by simp)).cell0 rfl
  have r1 := (HR.out.only (HO.out.trans o1 (by simp)) (by simp) (by simp))
  have rd1 := HRD.out.only (HO.out.trans o1 (by simp)) (by simp)
  have S1 := Lib.hid (fun q => same_any (w := w1.drewN q) (some ⟨W0.heap.size, 0, none⟩) Aw xs xs xs.length cap (Rd.of_bk (b1.drewN q)) (rd1.only ((Only.refl [] _).drewN q) (by simp)) (by omega) (by omega))
  rw [decide_eq_true rfl] at S1
  have L1 := Lib.hid (fun q => (len_yes (r1.drewN q)).mono fun e w' (h : e = _ ∧ w1.drewN q = w') => (⟨h.1, h.2.symm⟩ : e = _ ∧ w' = w1.drewN q))
  have M1 := Lib.hid (fun q => room_yes (r1.drewN q))
  have hb1 : ((xs.length : Int) == (xs.length : Int)) = true := by simp
  have hb2 : (((room : Int) - (xs.length : Int)) == ((room : Int) - (xs.length : Int))) = true := by simp
  have HB1 := Lib.hid b1
  have O1 := Lib.hid (HO.out.trans o1 (by simp))
  have HBX1 := Lib.hid (HBX.out.only o1 (by simp))
  have RD1 := Lib.hid rd1
  have R1 := Lib.hid r1
  have e1 : IntKind.i64.wrap ((room : Int) - xs.length) = (room : Int) - xs.length := IntWalk.i64_in _ (by omega)
  have hw1 : W0.heap.size < w1.heap.size := b1.lt
  clear b1 o1 r1 rd1
  go_wp2_with fail
  go_quiet ((first
    | (go_at_call 16; with_reducible exact Calls.quiet_of (S1.out _))
    | (go_at_call 20; with_reducible exact Calls.quiet_of_same (L1.out _))
    | (go_at_call 21; with_reducible exact Calls.quiet_of (M1.out _))))
  have MK := Lib.hid (marked_own (own_of_bk (base := W0.heap.size) (HB1.out.drewN nq) (Nat.le_refl _) (by simp only [maxLen]; omega)) (by show W0.heap.size ≤ w1.heap.size; omega) (by omega) 5 (by omega))
  go_wp2_with fail
  (with_reducible refine MK.out.mono ?_)
  rintro e w2 ⟨rfl, o2⟩
  have o2' : Only [W0.heap.size] (w1.drewN nq) w2 := by simpa [Value.ownBlock] using o2
  have c0 : w2.cell? ⟨w.heap.size, 0, none⟩ = some (.int .i64 room) := ((HBX1.out.drewN nq).only o2' (by simp; omega)).cell0 rfl
  have c1 : w2.cell? ⟨w.heap.size, 1, none⟩ = some (.slice Aw xs.length cap) := ((HBX1.out.drewN nq).only o2' (by simp; omega)).cell0 rfl
  have hbl := HR.out.lt
  have hAl := HR.out.ltA
  have r2 : Ring w2 b A room xs := (R1.out.drewN nq).only o2' (by simp; omega) (fun g hg => by have := hAl g hg; simp; omega)
  have rd2 : Rd w2 Aw xs := (RD1.out.only ((Only.refl [] _).drewN nq) (by simp)).only o2' (fun hx bl off e => by have := HRD.out.lt hx bl off e; simp; omega)
  have hs2 : w1.heap.size ≤ w2.heap.size := o2'.size
  have O2 := Lib.hid ((O1.out.drewN nq).trans o2' (by simp; omega))
  have HBX2 := Lib.hid ((HBX1.out.drewN nq).only o2' (by simp; omega))
  have RD2 := Lib.hid rd2
  have r2d : Ring w2.drew b A room xs := r2.drewN 1
  have I2 := Lib.hid (items_yes r2d)
  have HAL := Lib.hid hAl
  clear r2 rd2 r2d o2 o2' hAl
  go_wp2_with fail
  go_region_held3 (fun w' => w'.cell? ⟨w.heap.size, 1, none⟩ = some (.slice Aw xs.length cap)) (first | assumption | go_keep)
    (first
      | (go_at_call 24; (with_reducible refine I2.out.mono ?_); rintro e w3 ⟨rfl, b3, o3⟩; have q1 : w3.cell? ⟨w.heap.size, 1, none⟩ = some (.slice Aw xs.length cap) := (HBX2.out.drew.only o3 (by simp)).cell0 rfl; have O3 := Lib.hid (O2.out.drew.trans o3 (by simp)); have s3 := same_any (some ⟨w2.heap.size, 0, none⟩) Aw xs xs xs.length cap (Rd.of_bk b3) ((RD2.out.only ((Only.refl [] w2).drew) (by simp)).only o3 (by simp)) (by omega) (by omega); rw [decide_eq_true rfl] at s3; have S3 := Lib.hid s3; clear b3 o3 s3)
      | (go_at_call 16; (with_reducible refine S3.out.mono ?_); rintro e w4 ⟨rfl, q, rfl⟩))
  go_wp2
  go_ret
  exact ⟨rfl, O3.out.drewN q⟩

end Go.Proofs.Yteebkgclopffbaa
