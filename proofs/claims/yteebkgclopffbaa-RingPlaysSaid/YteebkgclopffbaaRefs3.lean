/- The document's ring: Cut. -/
import Derived.Test.YteebkgclopffbaaRefs2
namespace Go.Proofs.Yteebkgclopffbaa
open Go.RowKit

def RefCutD (w : World) (room : Nat) (xs ys : List Int) (e : Ending) (w' : World) : Prop :=
  ∃ A cap B capb, e = .returned (.tuple #[.agg #[.int .i64 room, .slice A xs.length cap], .slice B ys.length capb, .int .i64 0]) ∧ xs.length ≤ cap ∧ cap ≤ maxLen ∧ Rd w' A xs ∧ (∀ bl off, A = some ⟨bl, off, none⟩ → w.heap.size ≤ bl) ∧ Rd w' B ys ∧ Only [] w w'

theorem joined_one {w : World} (A : Option Addr) (xs : List Int) (n ca : Nat) (hn : xs.length = n) (ha : Rd w A xs) (hlen : n ≤ 65536) :
    Calls Try.prog 42 #[.slice A n ca, .slice none 0 0] w (NewL w xs) := by
  subst hn
  have := joined_any A none xs [] ca 0 ha (Rd.nil _ _) (by simp; omega)
  rw [List.append_nil] at this
  exact this

set_option maxHeartbeats 4000000 in
theorem refCut_yes {w : World} (room : Nat) (A : Option Addr) (xs : List Int) (cap n : Nat) (h1 : 1 ≤ room) (hR : Rd w A xs) (hn : n ≤ xs.length) (hx : xs.length ≤ 65536) (hcap : xs.length ≤ cap) :
    Calls Try.prog 33 #[.agg #[.int .i64 room, .slice A xs.length cap], .int .i64 n] w (RefCutD w room (xs.take (xs.length - n)) (xs.drop (xs.length - n))) := by
  have hr0 : ((room : Int) == 0) = false := by simp; omega
  have hd : decide ((n : Int) < 0) = false := decide_eq_false (by omega)
  obtain ⟨bx, br, o0, hsz⟩ := box2_facts w room A xs.length cap
  obtain ⟨A1, hs1, rd1⟩ := slice_to A xs cap (xs.length - n) ((xs.length : Int) - (n : Int)) (by omega) (by omega) hcap
  obtain ⟨A2, hs2, rd2⟩ := slice_from A xs cap (xs.length - n) ((xs.length : Int) - (n : Int)) (by omega) (by omega) hcap
  rw [show xs.length - (xs.length - n) = n from by omega] at hs2
  have hw : IntKind.i64.wrap ((xs.length : Int) - (n : Int)) = (xs.length : Int) - (n : Int) := IntWalk.i64_in _ (by omega)
  have hl1 : (xs.take (xs.length - n)).length = xs.length - n := take_len (by omega)
  have hl2 : (xs.drop (xs.length - n)).length = n := by simp; omega
  have hRw : ∀ W, Only [] w W → Rd W A xs := fun W o => hR.only o (by simp)
  have HRW := Lib.hid hRw
  have RD1 := Lib.hid rd1
  have RD2 := Lib.hid rd2
  have HL1 := Lib.hid hl1
  have HL2 := Lib.hid hl2
  have HJ := Lib.hid (joined_one (w := (box2 w room A xs.length cap).drew) A1 (xs.take (xs.length - n)) (xs.length - n) cap hl1 (rd1 _ (hRw _ o0.drew)) (by omega))
  have k0 := bx.cell0 (i := 0) rfl
  have k1 := bx.cell0 (i := 1) rfl
  have HBX := Lib.hid bx
  have HBR := Lib.hid br
  have HO := Lib.hid o0
  clear hR hRw bx br o0 rd1 rd2 hl1 hl2
  unfold box2 at HBX HBR HO HJ hsz k0 k1
  go_enter Try.func33, Try.ntmps33
  go_wp2_with fail
  generalize ((w.alloc (.cells #[.int .i64 room, .slice A xs.length cap] 29)).alloc (.cells #[.int .i64 0, .slice none 0 0] 29)) = W0 at *
  go_region_held3 (fun w' => w'.cell? ⟨w.heap.size, 0, none⟩ = some (.int .i64 room) ∧ w'.cell? ⟨w.heap.size, 1, none⟩ = some (.slice A xs.length cap)) (first | exact ⟨by assumption, by assumption⟩ | go_keep)
    (first
      | (go_at_call 42; (with_reducible refine HJ.out.mono ?_); rintro e w2 ⟨A3, cap3, rfl, hc3, hm3, hR3, hn3, ho3⟩; have q2 : w2.cell? ⟨w.heap.size, 0, none⟩ = some (.int .i64 room) := ((HBX.out).drew.only ho3 (by simp)).cell0 (i := 0) rfl; have q3 : w2.cell? ⟨w.heap.size, 1, none⟩ = some (.slice A xs.length cap) := ((HBX.out).drew.only ho3 (by simp)).cell0 (i := 1) rfl; have HO3 := Lib.hid (HO.out.drew.trans ho3 (by simp)); have HR3 := Lib.hid hR3; have HN3 := Lib.hid hn3; have HBX2 := Lib.hid ((HBX.out).drew.only ho3 (by simp)); have HBR2 := Lib.hid ((HBR.out).drew.only ho3 (by simp)); have hsz2 : W0.heap.size ≤ w2.heap.size := ho3.size; have HJ2 := Lib.hid (joined_one (w := w2) A2 (xs.drop (xs.length - n)) n (cap - (xs.length - n)) HL2.out (RD2.out _ (HRW.out _ HO3.out)) (by omega)); clear ho3 hR3 hn3)
      | (go_at_call 42; (with_reducible refine HJ2.out.mono ?_); rintro e w4 ⟨A5, cap5, rfl, hc5, hm5, hR5, hn5, ho5⟩; have q4 : w4.cell? ⟨w.heap.size, 0, none⟩ = some (.int .i64 room) := (HBX2.out.only ho5 (by simp)).cell0 (i := 0) rfl; have q5 : w4.cell? ⟨w.heap.size, 1, none⟩ = some (.slice A xs.length cap) := (HBX2.out.only ho5 (by simp)).cell0 (i := 1) rfl; have HBR4 := Lib.hid (HBR2.out.only ho5 (by simp)); have s0 : w4.cell? ⟨w.heap.size + 1, 0, none⟩ = some (.int .i64 0) := HBR4.out.cell0 (i := 0) rfl; have s1 : w4.cell? ⟨w.heap.size + 1, 1, none⟩ = some (.slice none 0 0) := HBR4.out.cell0 (i := 1) rfl; have u0 := HBR4.out.free 0; have u1 := HBR4.out.free 1; have HO5 := Lib.hid ho5; have HR5 := Lib.hid hR5; have HN5 := Lib.hid hn5; clear ho5 hR5 hn5))
  go_wp2
  refine bodyPost_ret (v := .tuple #[.agg #[.int .i64 room, .slice A3 (xs.take (xs.length - n)).length cap3], .slice A5 (xs.drop (xs.length - n)).length cap5, .int .i64 0]) (by simp [results, Try.results33, go_sem, s0, s1]) rfl ?_
  refine ⟨A3, cap3, A5, cap5, rfl, hc3, hm3, ?_, ?_, ?_, ?_⟩
  · refine Rd.res (HR3.out.only HO5.out (by simp)) (fun bl off e => ?_) _ _ _ _
    have h := HN3.out bl off e
    have h2 : W0.heap.size ≤ bl := h
    omega
  · intro bl off e
    have h := HN3.out bl off e
    have h2 : W0.heap.size ≤ bl := h
    omega
  · refine Rd.res HR5.out (fun bl off e => ?_) _ _ _ _
    have h := HN5.out bl off e
    omega
  · exact ((HO3.out.trans HO5.out (by simp)).set (.inr (by simp)) _).set (.inr (by simp)) _

end Go.Proofs.Yteebkgclopffbaa
