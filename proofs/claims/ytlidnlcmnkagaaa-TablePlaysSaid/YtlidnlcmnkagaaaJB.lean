/- The law's awake. -/
import Derived.Test.YtlidnlcmnkagaaaJA
namespace Go.Proofs.Ytlidnlcmnkagaaa
open Go.RowKit
set_option maxRecDepth 20000

abbrev La : ByteArray := ⟨#[97]⟩
theorem aw1 : addF (zeroT 2) = ([⟨1, true, E0b⟩, ⟨0, false, E0b⟩], ⟨0, 1⟩, 0) := by decide +kernel
theorem aw2 : nameF [⟨1, true, E0b⟩, ⟨0, false, E0b⟩] ⟨0, 1⟩ La = ([⟨1, true, La⟩, ⟨0, false, E0b⟩], 0) := by decide +kernel
theorem aw3 : whereF [⟨1, true, La⟩, ⟨0, false, E0b⟩] La = some ⟨0, 1⟩ := by decide +kernel
theorem aw4 : freeF [⟨1, true, La⟩, ⟨0, false, E0b⟩] ⟨0, 1⟩ = ([⟨1, false, E0b⟩, ⟨0, false, E0b⟩], 0) := by decide +kernel
theorem aw5 : addF [⟨1, false, E0b⟩, ⟨0, false, E0b⟩] = ([⟨2, true, E0b⟩, ⟨0, false, E0b⟩], ⟨0, 2⟩, 0) := by decide +kernel
theorem aw6 : isF [⟨2, true, E0b⟩, ⟨0, false, E0b⟩] ⟨0, 1⟩ = false := by decide +kernel
theorem aw7 : isF [⟨2, true, E0b⟩, ⟨0, false, E0b⟩] ⟨0, 2⟩ = true := by decide +kernel
/-- Beside New, Load and Copy: all that a table's memory does in a call. -/
theorem Und.add_ {w wr w' : World} {b g mb cap : Nat} {T : List Pl} {r : List Pl × Pd × Int} {e : Ending} (h : Und w b g mb cap T wr) (f : AddE wr b g mb cap r e w') : e = .returned (pidE r.2.1 r.2.2) ∧ Und w b g mb cap r.1 w' :=
  ⟨f.1, f.2.1, h.nb, h.ng, h.nm, h.o.trans f.2.2 (fun i hi => by have h1 := h.ng; simp at hi; omega)⟩
set_option maxHeartbeats 8000000 in
theorem awake_any (w : World) : Calls Try.prog 9 #[] w fun e w' => e = .returned (.bool true) ∧ Only [] w w' := by
  have K1 : Hid (Calls Try.prog 18 #[.int .i64 2] w (NewE w 2)) := Lib.hid (new_yes 2 w (by omega) (by omega))
  have E1 : eq2 0 1 0 1 = true := rfl
  have E2 : eq2 0 2 0 2 = true := rfl
  go_enter Try.func9, Try.ntmps9
  go_wp2_with fail
  (with_reducible refine K1.out.mono ?_)
  rintro e w1 ⟨b, g, mb, rfl, hr, ⟨n1, n2, n3⟩, o1⟩
  have U1 : Hid (Und w b g mb 2 (zeroT 2) w1) := Lib.hid ⟨hr, n1, n2, n3, o1⟩
  have K2 := add_any hr
  rw [aw1] at K2
  have K2 := Lib.hid K2
  clear hr n1 n2 n3 o1 K1
  go_wp2_with fail
  (with_reducible refine K2.out.mono ?_)
  rintro e w2 hF
  obtain ⟨rfl, u2⟩ := U1.out.add_ hF
  have U2 := Lib.hid (u2.only ((Only.refl [] w2).alloc (.cells #[.int .i64 0, .int .i64 1] 38)))
  have B2 := Lib.hid (Bk.made w2 38 #[.int .i64 0, .int .i64 1])
  have K3 := name_any U2.out.rep ⟨0, 1⟩ La (by decide)
  rw [aw2] at K3
  have K3 := Lib.hid K3
  have hg2 : g < w2.heap.size := u2.rep.glt
  have hm2 : mb < w2.heap.size := u2.rep.map.lt
  clear hF u2 U1 K2
  go_wp2_with fail
  (with_reducible refine K3.out.mono ?_)
  rintro e w3 hF
  obtain ⟨rfl, u3⟩ := U2.out.free_ hF
  have B3 := Lib.hid (B2.out.only hF.2.2 (by simp; omega))
  have U3 := Lib.hid u3
  have K4 := where_any u3.rep La
  rw [aw3] at K4
  simp only [whereE] at K4
  have K4 := Lib.hid K4
  clear hF u3 U2 K3
  go_wp2_with fail
  (with_reducible refine K4.out.mono ?_)
  rintro e w4 ⟨rfl, o4⟩
  have U4 := Lib.hid ((U3.out.only o4).only ((Only.refl [] w4).alloc (.cells #[.int .i64 0, .int .i64 1] 38)))
  have B4 := Lib.hid ((B3.out.only o4 (by simp)).alloc (.cells #[.int .i64 0, .int .i64 1] 38))
  have C4 := Lib.hid (Bk.made w4 38 #[.int .i64 0, .int .i64 1])
  have hg4 : g < w4.heap.size := (U3.out.only o4).rep.glt
  have hm4 : mb < w4.heap.size := (U3.out.only o4).rep.map.lt
  have K5 := free_any U4.out.rep ⟨0, 1⟩
  rw [aw4] at K5
  have K5 := Lib.hid K5
  obtain ⟨x0, x1⟩ := Bk.pid (x := ⟨0, 1⟩) B4.out
  clear o4 U3 K4 B3 B2
  go_wp2_with fail
  (with_reducible refine K5.out.mono ?_)
  rintro e w5 hF
  obtain ⟨rfl, u5⟩ := U4.out.free_ hF
  have B5 := Lib.hid (B4.out.only hF.2.2 (by simp; omega))
  have C5 := Lib.hid (C4.out.only hF.2.2 (by simp; omega))
  have U5 := Lib.hid u5
  have K6 := add_any u5.rep
  rw [aw5] at K6
  have K6 := Lib.hid K6
  clear hF u5 U4 K5 B4 C4 x0 x1
  go_wp2_with fail
  (with_reducible refine K6.out.mono ?_)
  rintro e w6 hF
  obtain ⟨rfl, u6⟩ := U5.out.add_ hF
  have B6 := Lib.hid ((B5.out.only hF.2.2 (by simp; omega)).alloc (.cells #[.int .i64 0, .int .i64 2] 38))
  have C6 := Lib.hid ((C5.out.only hF.2.2 (by simp; omega)).alloc (.cells #[.int .i64 0, .int .i64 2] 38))
  have D6 := Lib.hid (Bk.made w6 38 #[.int .i64 0, .int .i64 2])
  have U6 := Lib.hid (u6.only ((Only.refl [] w6).alloc (.cells #[.int .i64 0, .int .i64 2] 38)))
  have K7 := is_any U6.out.rep ⟨0, 1⟩
  rw [aw6] at K7
  have K7 := Lib.hid K7
  obtain ⟨x0, x1⟩ := Bk.pid (x := ⟨0, 1⟩) B6.out
  obtain ⟨y0, y1⟩ := Bk.pid (x := ⟨0, 1⟩) C6.out
  obtain ⟨z0, z1⟩ := Bk.pid (x := ⟨0, 2⟩) D6.out
  clear hF u6 U5 K6 B5 C5
  go_wp2_with fail
  (with_reducible refine K7.out.mono ?_)
  rintro e w7 ⟨rfl, o7⟩
  have U7 := Lib.hid (U6.out.only o7)
  have K8 := is_any U7.out.rep ⟨0, 2⟩
  rw [aw7] at K8
  have K8 := Lib.hid K8
  have D7 := D6.out.only o7 (by simp)
  obtain ⟨z0, z1⟩ := Bk.pid (x := ⟨0, 2⟩) D7
  clear o7 U6 K7 D7
  go_wp2_with fail
  (with_reducible refine K8.out.mono ?_)
  rintro e w8 ⟨rfl, o8⟩
  go_wp2_with fail
  go_ret
  exact ⟨rfl, U7.out.o.trans o8 (by simp)⟩
end Go.Proofs.Ytlidnlcmnkagaaa
