/- The document's ring: Take, Pop, Cut, Join. -/
import Derived.Test.YteebkgclopffbaaRefs
namespace Go.Proofs.Yteebkgclopffbaa
open Go.RowKit

/-- The argument's box and the result's. -/
def box2 (w : World) (room : Nat) (A : Option Addr) (n cap : Nat) : World := (w.alloc (.cells #[.int .i64 room, .slice A n cap] 29)).alloc (.cells #[.int .i64 0, .slice none 0 0] 29)
theorem box2_facts (w : World) (room : Nat) (A : Option Addr) (n cap : Nat) :
    Bk (box2 w room A n cap) w.heap.size 29 #[.int .i64 room, .slice A n cap] ∧ Bk (box2 w room A n cap) (w.heap.size + 1) 29 #[.int .i64 0, .slice none 0 0] ∧ Only [] w (box2 w room A n cap) ∧ w.heap.size + 2 ≤ (box2 w room A n cap).heap.size := by
  refine ⟨(Bk.made _ _ _).alloc _, ?_, ((Only.refl _ _).alloc _).alloc _, by simp [box2]⟩
  have := Bk.made (w.alloc (.cells #[.int .i64 room, .slice A n cap] 29)) 29 #[.int .i64 0, .slice none 0 0]
  simpa [box2] using this

/-- A new list, kept while only the result's box is written. -/
theorem Rd.res {w1 : World} {G : Nat} {A : Option Addr} {xs : List Int} (h : Rd w1 A xs) (hn : ∀ bl off, A = some ⟨bl, off, none⟩ → G < bl) (u v : Value) (i j : Nat) : Rd ((w1.setCell ⟨G, i, none⟩ u).setCell ⟨G, j, none⟩ v) A xs := by
  refine (h.only (((Only.refl [G] _).set (.inl (by simp)) _).set (.inl (by simp)) _)) ?_
  intro _ bl off e
  have := hn bl off e
  simp only [List.mem_cons, List.not_mem_nil, or_false]
  omega

def RefTook (w : World) (room : Nat) (xs : List Int) (x : Int) (e : Ending) (w' : World) : Prop :=
  ∃ A cap, e = .returned (.tuple #[.agg #[.int .i64 room, .slice A xs.length cap], .int .i64 x, .int .i64 0]) ∧ xs.length ≤ cap ∧ cap ≤ maxLen ∧ Rd w' A xs ∧ (∀ bl off, A = some ⟨bl, off, none⟩ → w.heap.size ≤ bl) ∧ Only [] w w'

theorem erase_split (xs : List Int) (i : Nat) : xs.take i ++ xs.drop (i + 1) = xs.eraseIdx i := (List.eraseIdx_eq_take_drop_succ xs i).symm

set_option maxHeartbeats 4000000 in
theorem refTake_yes {w : World} (room : Nat) (A : Option Addr) (xs : List Int) (cap : Nat) (i : Nat) (h1 : 1 ≤ room) (hR : Rd w A xs) (hi : i < xs.length) (hx : xs.length ≤ 65536) (hcap : xs.length ≤ cap) :
    Calls Try.prog 32 #[.agg #[.int .i64 room, .slice A xs.length cap], .int .i64 i] w (RefTook w room (xs.eraseIdx i) (xs.getD i 0)) := by
  have hr0 : ((room : Int) == 0) = false := by simp; omega
  have HR := Lib.hid hR
  obtain ⟨bx, br, o0, hsz⟩ := box2_facts w room A xs.length cap
  have AT := Lib.hid (refAt_yes (w := box2 w room A xs.length cap) room A xs cap i h1 (hR.only o0 (by simp)) hi hx)
  obtain ⟨A1, hs1, rd1⟩ := slice_to A xs cap i (i : Int) rfl (by omega) hcap
  obtain ⟨A2, hs2, rd2⟩ := slice_from A xs cap (i + 1) ((i : Int) + 1) (by omega) (by omega) hcap
  have RD1 := Lib.hid rd1
  have RD2 := Lib.hid rd2
  have HBX := Lib.hid bx
  have HBR := Lib.hid br
  have HO := Lib.hid o0
  have hl1 : (xs.take i).length = i := take_len (by omega)
  have hl2 : (xs.drop (i + 1)).length = xs.length - (i + 1) := by simp
  have HL1 := Lib.hid hl1
  have HL2 := Lib.hid hl2
  have hwi : IntKind.i64.wrap ((i : Int) + 1) = (i : Int) + 1 := IntWalk.i64_in _ (by omega)
  obtain ⟨x, hxv⟩ : ∃ x, x = xs.getD i 0 := ⟨_, rfl⟩
  rw [← hxv] at AT ⊢
  clear hR bx br o0 rd1 rd2 hl1 hl2 hxv
  unfold box2 at HBX HBR HO AT hsz
  go_enter Try.func32, Try.ntmps32
  go_wp2_with fail
  generalize ((w.alloc (.cells #[.int .i64 room, .slice A xs.length cap] 29)).alloc (.cells #[.int .i64 0, .slice none 0 0] 29)) = W0 at *
  (with_reducible refine AT.out.mono ?_)
  rintro e w1 ⟨rfl, o1⟩
  have q0 : w1.cell? ⟨w.heap.size, 0, none⟩ = some (.int .i64 room) := (HBX.out.only o1 (by simp)).cell0 rfl
  have q1 : w1.cell? ⟨w.heap.size, 1, none⟩ = some (.slice A xs.length cap) := (HBX.out.only o1 (by simp)).cell0 rfl
  have HBX1 := Lib.hid (HBX.out.only o1 (by simp))
  have HBR1 := Lib.hid (HBR.out.only o1 (by simp))
  have HO1 := Lib.hid (HO.out.trans o1 (by simp))
  have hsz1 : w.heap.size + 2 ≤ w1.heap.size := Nat.le_trans hsz o1.size
  have J : Calls Try.prog 42 #[.slice A1 i cap, .slice A2 (xs.length - (i + 1)) (cap - (i + 1))] w1.drew (NewL w1.drew (xs.eraseIdx i)) := by
    have hRw : Rd w1.drew A xs := (HR.out.only HO1.out (by simp)).only ((Only.refl [] _).drew) (by simp)
    have := joined_any A1 A2 (xs.take i) (xs.drop (i + 1)) cap (cap - (i + 1)) (RD1.out _ hRw) (RD2.out _ hRw) (by rw [HL1.out, HL2.out]; omega)
    rw [HL1.out, HL2.out, erase_split] at this
    exact this
  have HJ := Lib.hid J
  clear o1 J
  go_wp2_with fail
  go_region_held3 (fun w' => w'.cell? ⟨w.heap.size, 0, none⟩ = some (.int .i64 room) ∧ w'.cell? ⟨w.heap.size, 1, none⟩ = some (.slice A xs.length cap)) (first | exact ⟨by assumption, by assumption⟩ | go_keep)
    (first
      | (go_at_call 42; (with_reducible refine HJ.out.mono ?_); rintro e w2 ⟨A3, cap3, rfl, hc3, hm3, hR3, hn3, ho3⟩; have q2 := ((HBX1.out).drew.only ho3 (by simp)).cell0 (i := 0) rfl; have q3 := ((HBX1.out).drew.only ho3 (by simp)).cell0 (i := 1) rfl; have HBR2 := Lib.hid ((HBR1.out).drew.only ho3 (by simp)); have s0 := HBR2.out.cell0 (i := 0) rfl; have s1 := HBR2.out.cell0 (i := 1) rfl; have u0 := HBR2.out.free 0; have u1 := HBR2.out.free 1; have HO3 := Lib.hid ho3; have HR3 := Lib.hid hR3; have HN3 := Lib.hid hn3; clear ho3 hR3 hn3))
  go_wp2
  refine bodyPost_ret (v := .tuple #[.agg #[.int .i64 room, .slice A3 (xs.eraseIdx i).length cap3], .int .i64 x, .int .i64 0]) (by simp [results, Try.results32, go_sem, s0, s1]) rfl ?_
  refine ⟨A3, cap3, rfl, hc3, hm3, ?_, ?_, ?_⟩
  · refine Rd.res HR3.out (fun bl off e => ?_) _ _ _ _
    have h := HN3.out bl off e
    have h2 : w1.heap.size ≤ bl := h
    omega
  · intro bl off e
    have h := HN3.out bl off e
    have h2 : w1.heap.size ≤ bl := h
    omega
  · exact ((HO1.out.drew.trans HO3.out (by simp)).set (.inr (by simp)) _).set (.inr (by simp)) _

set_option maxHeartbeats 4000000 in
theorem refPop_yes {w : World} (room : Nat) (A : Option Addr) (x : Int) (xs : List Int) (cap : Nat) (h1 : 1 ≤ room) (hR : Rd w A (x :: xs)) (hx : xs.length + 1 ≤ 65536) (hcap : xs.length + 1 ≤ cap) :
    Calls Try.prog 30 #[.agg #[.int .i64 room, .slice A (xs.length + 1) cap]] w (RefTook w room xs x) := by
  obtain ⟨bx, br, o0, hsz⟩ := box2_facts w room A (xs.length + 1) cap
  have T := refTake_yes (w := box2 w room A (xs.length + 1) cap) room A (x :: xs) cap 0 h1 (hR.only o0 (by simp)) (by simp) (by simpa using hx) (by simpa using hcap)
  simp only [List.eraseIdx_cons_zero, List.length_cons, List.getD_cons_zero, Int.cast_ofNat_Int] at T
  have HT := Lib.hid T
  have HBR := Lib.hid br
  have HO := Lib.hid o0
  clear hR bx br o0 T
  unfold box2 at HBR HO HT hsz
  go_enter Try.func30, Try.ntmps30
  go_wp2_with fail
  generalize ((w.alloc (.cells #[.int .i64 room, .slice A (xs.length + 1) cap] 29)).alloc (.cells #[.int .i64 0, .slice none 0 0] 29)) = W0 at *
  (with_reducible refine HT.out.mono ?_)
  rintro e w1 ⟨A1, cap1, rfl, hc1, hm1, hR1, hn1, o1⟩
  have HBR1 := Lib.hid (HBR.out.only o1 (by simp))
  have s0 := HBR1.out.cell0 (i := 0) rfl
  have s1 := HBR1.out.cell0 (i := 1) rfl
  have u0 := HBR1.out.free 0
  have u1 := HBR1.out.free 1
  have HO1 := Lib.hid (HO.out.trans o1 (by simp))
  have HR1 := Lib.hid hR1
  have HN1 := Lib.hid hn1
  clear o1 hR1 hn1
  go_wp2
  refine bodyPost_ret (v := .tuple #[.agg #[.int .i64 room, .slice A1 xs.length cap1], .int .i64 x, .int .i64 0]) (by simp [results, Try.results30, go_sem, s0, s1]) rfl ?_
  refine ⟨A1, cap1, rfl, hc1, hm1, ?_, ?_, ?_⟩
  · refine Rd.res HR1.out (fun bl off e => ?_) _ _ _ _
    have h := HN1.out bl off e
    omega
  · intro bl off e
    have h := HN1.out bl off e
    omega
  · exact (HO1.out.set (.inr (by simp)) _).set (.inr (by simp)) _

set_option maxHeartbeats 4000000 in
theorem refPop_no {w : World} (room : Nat) (A : Option Addr) (cap : Nat) (h1 : 1 ≤ room) :
    Calls Try.prog 30 #[.agg #[.int .i64 room, .slice A 0 cap]] w fun e w' => e = .returned (.tuple #[.agg #[.int .i64 room, .slice A 0 cap], .int .i64 0, .int .i64 3]) ∧ Only [] w w' := by
  obtain ⟨bx, br, o0, hsz⟩ := box2_facts w room A 0 cap
  have HT := Lib.hid (refTake_no (w := box2 w room A 0 cap) room A 0 cap 0 h1 (.inr (by simp)))
  have HBR := Lib.hid br
  have HO := Lib.hid o0
  clear bx br o0
  unfold box2 at HBR HO HT hsz
  go_enter Try.func30, Try.ntmps30
  go_wp2_with fail
  generalize ((w.alloc (.cells #[.int .i64 room, .slice A 0 cap] 29)).alloc (.cells #[.int .i64 0, .slice none 0 0] 29)) = W0 at *
  (with_reducible refine HT.out.mono ?_)
  rintro e w1 ⟨rfl, o1⟩
  have HBR1 := Lib.hid (HBR.out.only o1 (by simp))
  have s0 := HBR1.out.cell0 (i := 0) rfl
  have s1 := HBR1.out.cell0 (i := 1) rfl
  have u0 := HBR1.out.free 0
  have u1 := HBR1.out.free 1
  have HO1 := Lib.hid (HO.out.trans o1 (by simp))
  clear o1
  go_wp2
  refine bodyPost_ret (v := .tuple #[.agg #[.int .i64 room, .slice A 0 cap], .int .i64 0, .int .i64 3]) (by simp [results, Try.results30, go_sem, s0, s1]) rfl ⟨rfl, ?_⟩
  exact (HO1.out.set (.inr (by simp)) _).set (.inr (by simp)) _

set_option maxHeartbeats 4000000 in
theorem refCut_no {w : World} (room : Nat) (A : Option Addr) (n cap : Nat) (i : Int) (h1 : 1 ≤ room) (hi : i < 0 ∨ (n : Int) < i) :
    Calls Try.prog 33 #[.agg #[.int .i64 room, .slice A n cap], .int .i64 i] w fun e w' => e = .returned (.tuple #[.agg #[.int .i64 room, .slice A n cap], .slice none 0 0, .int .i64 (if i < 0 then 1 else 3)]) ∧ Only [] w w' := by
  have hr0 : ((room : Int) == 0) = false := by simp; omega
  by_cases h : i < 0
  · have hd : decide (i < 0) = true := decide_eq_true h
    rw [if_pos h]
    go_enter Try.func33, Try.ntmps33
    go_wp2
    refine bodyPost_ret (v := .tuple #[.agg #[.int .i64 room, .slice A n cap], .slice none 0 0, .int .i64 1]) (by simp [results, Try.results33, go_sem]) rfl ⟨rfl, ?_⟩
    exact ((Only.refl _ _).alloc _).alloc _
  · have hd : decide (i < 0) = false := decide_eq_false h
    have hge : (n : Int) < i := by omega
    rw [if_neg h]
    go_enter Try.func33, Try.ntmps33
    go_wp2
    refine bodyPost_ret (v := .tuple #[.agg #[.int .i64 room, .slice A n cap], .slice none 0 0, .int .i64 3]) (by simp [results, Try.results33, go_sem]) rfl ⟨rfl, ?_⟩
    exact ((Only.refl _ _).alloc _).alloc _

set_option maxHeartbeats 4000000 in
theorem refJoin_no {w : World} (room : Nat) (A B : Option Addr) (n cap m capb : Nat) (h1 : 1 ≤ room) (htop : room ≤ 65536) (hn : n ≤ room) (hm : m ≤ 9223372036854775807) (hi : room < n + m) :
    Calls Try.prog 34 #[.agg #[.int .i64 room, .slice A n cap], .slice B m capb] w fun e w' => e = .returned (.tuple #[.agg #[.int .i64 room, .slice A n cap], .int .i64 2]) ∧ Only [] w w' := by
  have hr0 : ((room : Int) == 0) = false := by simp; omega
  have hw : IntKind.i64.wrap ((room : Int) - (n : Int)) = (room : Int) - (n : Int) := IntWalk.i64_in _ (by omega)
  go_enter Try.func34, Try.ntmps34
  go_wp2
  refine bodyPost_ret (v := .tuple #[.agg #[.int .i64 room, .slice A n cap], .int .i64 2]) (by simp [results, Try.results34, go_sem]) rfl ⟨rfl, ?_⟩
  exact ((Only.refl _ _).alloc _).alloc _

set_option maxHeartbeats 4000000 in
theorem refJoin_yes {w : World} (room : Nat) (A B : Option Addr) (xs ys : List Int) (cap capb : Nat) (h1 : 1 ≤ room) (htop : room ≤ 65536) (hR : Rd w A xs) (hB : Rd w B ys) (hi : xs.length + ys.length ≤ room) :
    Calls Try.prog 34 #[.agg #[.int .i64 room, .slice A xs.length cap], .slice B ys.length capb] w (RefNew w room (xs ++ ys) 0) := by
  have hr0 : ((room : Int) == 0) = false := by simp; omega
  have hw : IntKind.i64.wrap ((room : Int) - (xs.length : Int)) = (room : Int) - (xs.length : Int) := IntWalk.i64_in _ (by omega)
  obtain ⟨bx, br, o0, hsz⟩ := box2_facts w room A xs.length cap
  have J : Calls Try.prog 42 #[.slice A xs.length cap, .slice B ys.length capb] (box2 w room A xs.length cap).drew (NewL (box2 w room A xs.length cap).drew (xs ++ ys)) :=
    joined_any A B xs ys cap capb (hR.only o0.drew (by simp)) (hB.only o0.drew (by simp)) (by omega)
  have HJ := Lib.hid J
  have k0 := bx.cell0 (i := 0) rfl
  have k1 := bx.cell0 (i := 1) rfl
  have HBX := Lib.hid bx
  have HBR := Lib.hid br
  have HO := Lib.hid o0
  clear hR hB bx br o0 J
  unfold box2 at HBX HBR HO HJ hsz k0 k1
  go_enter Try.func34, Try.ntmps34
  go_wp2_with fail
  generalize ((w.alloc (.cells #[.int .i64 room, .slice A xs.length cap] 29)).alloc (.cells #[.int .i64 0, .slice none 0 0] 29)) = W0 at *
  go_region_held3 (fun w' => w'.cell? ⟨w.heap.size, 0, none⟩ = some (.int .i64 room) ∧ w'.cell? ⟨w.heap.size, 1, none⟩ = some (.slice A xs.length cap)) (first | exact ⟨by assumption, by assumption⟩ | go_keep)
    (first
      | (go_at_call 42; (with_reducible refine HJ.out.mono ?_); rintro e w2 ⟨A3, cap3, rfl, hc3, hm3, hR3, hn3, ho3⟩; have q2 := ((HBX.out).drew.only ho3 (by simp)).cell0 (i := 0) rfl; have q3 := ((HBX.out).drew.only ho3 (by simp)).cell0 (i := 1) rfl; have HBR2 := Lib.hid ((HBR.out).drew.only ho3 (by simp)); have s0 := HBR2.out.cell0 (i := 0) rfl; have s1 := HBR2.out.cell0 (i := 1) rfl; have u0 := HBR2.out.free 0; have u1 := HBR2.out.free 1; have HO3 := Lib.hid ho3; have HR3 := Lib.hid hR3; have HN3 := Lib.hid hn3; clear ho3 hR3 hn3))
  go_wp2
  have hlen : (xs ++ ys).length = xs.length + ys.length := by simp
  refine bodyPost_ret (v := .tuple #[.agg #[.int .i64 room, .slice A3 (xs.length + ys.length) cap3], .int .i64 0]) (by simp [results, Try.results34, go_sem, s0, s1]) rfl ?_
  refine ⟨A3, cap3, by rw [hlen], hc3, hm3, ?_, ?_, ?_⟩
  · refine Rd.res HR3.out (fun bl off e => ?_) _ _ _ _
    have h := HN3.out bl off e
    have h2 : W0.heap.size ≤ bl := h
    omega
  · intro bl off e
    have h := HN3.out bl off e
    have h2 : W0.heap.size ≤ bl := h
    omega
  · exact ((HO.out.drew.trans HO3.out (by simp)).set (.inr (by simp)) _).set (.inr (by simp)) _

end Go.Proofs.Yteebkgclopffbaa
