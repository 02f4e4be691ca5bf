/- The ring's inner functions: add, closeFromTail, closeFromHead. -/
import Derived.Test.YteebkgclopffbaaRingIn
namespace Go.Proofs.Yteebkgclopffbaa
open Go.RowKit

set_option maxHeartbeats 400000 in
theorem add_any {w : World} {b room g : Nat} {L : List Int} {h c : Nat} (r : RAt w b room (some g) L h c) (x : Int) (hc : c < L.length) :
    Calls Try.prog 38 #[.pointer (some ⟨b, 0, none⟩), .int .i64 x] w fun e w' => e = .returned (.tuple #[]) ∧
      ∃ k, w' = ((w.drewN k).setCell ⟨g, (h + c) % L.length, none⟩ (.int .i64 x)).setCell ⟨b, 4, none⟩ (.int .i64 ((c + 1 : Nat) : Int)) := by
  have c2 : w.cell? ⟨b, 2, none⟩ = some (.slice (some ⟨g, 0, none⟩) L.length L.length) := r.c2
  have c4 := r.c4
  have f4 := r.blk.free 4
  have cg := r.slot hc
  have fg : w.frozen? ⟨g, (h + c) % L.length, none⟩ = false := r.slotFree
  have hne : g ≠ b := fun e => r.apart e.symm
  have hm : (h + c) % L.length < L.length := Nat.mod_lt _ (by omega)
  have hs : ∀ W k, W = w.drewN k → Calls Try.prog 40 #[.pointer (some ⟨b, 0, none⟩), .int .i64 c] (w.drewN k) fun e w' => e = .returned (.int .i64 ((h + c) % L.length : Nat)) ∧ ∃ m, w' = (w.drewN k).drewN m :=
    fun _ k _ => slot_at (r.drewN k) c (by omega) (by have := r.fit; have := r.top; omega)
  have HS := Lib.hid hs
  clear hs
  have hsz : L.length ≤ 65536 := Nat.le_trans r.fit r.top
  generalize (h + c) % L.length = m at *
  generalize L.getD c 0 = u at *
  generalize L.length = n at *
  clear r
  go_enter Try.func38, Try.ntmps38
  go_wp2_with fail
  refine wp_region_quiet_then 12 (by kernel_rfl) (by kernel_rfl) ?_
  simp only [List.take_succ_cons, List.take_zero, List.drop_succ_cons, List.drop_zero]
  repeat (go_big_quiet_step ((go_at_call 40; exact Calls.quiet_of (HS.out _ _ rfl))))
  refine wpQuiet_nil ?_
  intro k
  go_wp2
  go_end0
  exact ⟨rfl, k, by rw [Int.natCast_add]; rfl⟩
theorem add_at {w : World} {b room g : Nat} {L : List Int} {h c : Nat} (r : RAt w b room (some g) L h c) (x : Int) (hc : c < L.length) :
    Calls Try.prog 38 #[.pointer (some ⟨b, 0, none⟩), .int .i64 x] w fun e w' => e = .returned (.tuple #[]) ∧ RAt w' b room (some g) (L.set c x) h (c + 1) ∧ Only [b, g] w w' :=
  (add_any r x hc).mono fun _ _ ⟨he, k, hw⟩ => ⟨he, by rw [hw]; exact ((r.drewN k).put hc x).count (c + 1) (by simp; omega),
    by rw [hw]; exact (((Only.refl _ _).drewN k).set (.inl (by simp)) _).set (.inl (by simp)) _⟩

/-- What holds at the head of closeFromTail's loop. -/
def TailRel (w : World) (b room g : Nat) (L : List Int) (h c i : Nat) (v : Value) (wr : World) : Prop :=
  ∃ (k : Nat) (M : List Int), v = .int .i64 k ∧ i ≤ k ∧ k + 1 ≤ c ∧ shutTail L i k M ∧ RAt wr b room (some g) M h c ∧ Only [g] w wr

theorem TailRel.start {w : World} {b room g : Nat} {L : List Int} {h c i : Nat} (r : RAt w b room (some g) L h c) (hi : i < c) : TailRel w b room g L h c i (.int .i64 i) w :=
  ⟨i, L, rfl, Nat.le_refl _, hi, shutTail.start L i, r, Only.refl _ _⟩
theorem TailRel.step {w wr : World} {b room g : Nat} {L M : List Int} {h c i k q : Nat} (hik : i ≤ k) (hk : k + 1 < c) (s : shutTail L i k M) (r : RAt wr b room (some g) M h c) (o : Only [g] w wr) :
    TailRel w b room g L h c i (.int .i64 ((k : Int) + 1)) ((wr.drewN q).setCell ⟨g, (h + k) % M.length, none⟩ (.int .i64 (M.getD (k + 1) 0))) := by
  have hML := s.1
  have hcM := r.cnt
  exact ⟨k + 1, M.set k (M.getD (k + 1) 0), by go_num, by omega, by omega, s.step hik (by omega), (r.drewN q).put (by omega) _, (o.drewN q).set (.inl (by simp)) _⟩

set_option maxHeartbeats 1000000 in
theorem closeTail_at {w : World} {b room g : Nat} {L : List Int} {h c : Nat} (r : RAt w b room (some g) L h c) (i : Nat) (hi : i < c) :
    Calls Try.prog 39 #[.pointer (some ⟨b, 0, none⟩), .int .i64 i] w fun e w' => e = .returned (.tuple #[]) ∧
      ∃ M, RAt w' b room (some g) M h (c - 1) ∧ M.take (c - 1) = (L.take c).eraseIdx i ∧ Only [b, g] w w' := by
  have hsz : L.length ≤ 65536 := Nat.le_trans r.fit r.top
  have hcl := r.cnt
  have R0 := Lib.hid (TailRel.start r hi)
  have H1 := Lib.hid r.hle
  clear r
  go_enter Try.func39, Try.ntmps39
  go_wp2_with fail
  go_loopw [4] (fun v wr => TailRel w b room g L h c i v wr) (fun v _ => c - (intOf v).toNat)
  case atStart => exact R0.out
  case round =>
    obtain ⟨k, M, rfl, hik, hkc, s, r, o⟩ := hrel
    have c2 : wr.cell? ⟨b, 2, none⟩ = some (.slice (some ⟨g, 0, none⟩) M.length M.length) := r.c2
    have c4 := r.c4
    have f4 := r.blk.free 4
    have hML := s.1
    have hcM := r.cnt
    by_cases hk : k + 1 < c
    · have cg1 := r.slot (k := k + 1) (by omega)
      have cg0 := r.slot (k := k) (by omega)
      have fg : wr.frozen? ⟨g, (h + k) % M.length, none⟩ = false := r.slotFree
      have hm0 : (h + k) % M.length < M.length := Nat.mod_lt _ (by omega)
      have hm1 : (h + (k + 1)) % M.length < M.length := Nat.mod_lt _ (by omega)
      have S0 := Lib.hid (fun q => slot_at (r.drewN q) k (by omega) (by omega))
      have S1 := Lib.hid (fun q => slot_at (r.drewN q) (k + 1) (by omega) (by omega))
      rw [Int.natCast_add, Int.cast_ofNat_Int] at S1
      have N0 : ∀ q, TailRel w b room g L h c i (.int .i64 ((k : Int) + 1)) ((wr.drewN q).setCell ⟨g, (h + k) % M.length, none⟩ (.int .i64 (M.getD (k + 1) 0))) := fun q => TailRel.step hik hk s r o
      have HN := Lib.hid N0
      clear N0 r o s
      generalize (h + k) % M.length = m0 at *
      generalize (h + (k + 1)) % M.length = m1 at *
      generalize M.getD (k + 1) 0 = x1 at *
      generalize M.getD k 0 = x0 at *
      have hn := hML
      generalize M.length = n at *
      go_wp2_with fail
      refine wp_region_quiet_then 18 (by kernel_rfl) (by kernel_rfl) ?_
      simp only [List.take_succ_cons, List.take_zero, List.drop_succ_cons, List.drop_zero]
      repeat (go_big_quiet_step ((first | (go_at_call 40; with_reducible exact Calls.quiet_of (S0.out _)) | (go_at_call 40; with_reducible exact Calls.quiet_of (S1.out _)))))
      refine wpQuiet_nil ?_
      intro q
      go_wp2
      go_roundw
      case rel => exact HN.out q
      case measure => simp [intOf]; omega
    · obtain rfl : c = k + 1 := by omega
      have W1 := Lib.hid (wipe_at r k (by omega))
      have hend := Lib.hid (fun x => s.done (by omega) x)
      have HO := Lib.hid o
      have hn := hML
      have f4 := r.blk.free 4
      clear s o r
      go_wp2_with ((go_at_call 43; with_reducible refine W1.out.mono ?_; rintro e w1 ⟨rfl, r1, o1⟩; have c4b := r1.c4; have f4b := r1.blk.free 4; have R1 := Lib.hid r1; have O1 := Lib.hid o1; clear r1 o1))
      go_end0
      refine ⟨rfl, M.set k 0, ?_, hend.out 0, ?_⟩
      · have := R1.out.count k (by simp; omega)
        simpa using this
      · exact (((HO.out.more (T := [b, g]) (by simp)).trans O1.out (by simp)).set (.inl (by simp)) _)

/-- What holds at the head of closeFromHead's loop. -/
def HeadRel (w : World) (b room g : Nat) (L : List Int) (h c i : Nat) (v : Value) (wr : World) : Prop :=
  ∃ (k : Nat) (M : List Int), v = .int .i64 k ∧ k ≤ i ∧ shutHead L i k M ∧ RAt wr b room (some g) M h c ∧ Only [g] w wr

theorem HeadRel.start {w : World} {b room g : Nat} {L : List Int} {h c i : Nat} (r : RAt w b room (some g) L h c) : HeadRel w b room g L h c i (.int .i64 i) w :=
  ⟨i, L, rfl, Nat.le_refl _, shutHead.start L i, r, Only.refl _ _⟩
theorem HeadRel.step {w wr : World} {b room g : Nat} {L M : List Int} {h c i k q : Nat} (h0 : 0 < k) (hki : k ≤ i) (hi : i < c) (s : shutHead L i k M) (r : RAt wr b room (some g) M h c) (o : Only [g] w wr) :
    HeadRel w b room g L h c i (.int .i64 ((k : Int) - 1)) ((wr.drewN q).setCell ⟨g, (h + k) % M.length, none⟩ (.int .i64 (M.getD (k - 1) 0))) := by
  have hML := s.1
  have hcM := r.cnt
  exact ⟨k - 1, M.set k (M.getD (k - 1) 0), by rw [show ((k : Int) - 1) = ((k - 1 : Nat) : Int) from by omega], by omega, s.step h0 hki (by omega), (r.drewN q).put (by omega) _, (o.drewN q).set (.inl (by simp)) _⟩

set_option maxHeartbeats 1000000 in
theorem closeHead_at {w : World} {b room g : Nat} {L : List Int} {h c : Nat} (r : RAt w b room (some g) L h c) (i : Nat) (hi : i < c) :
    Calls Try.prog 41 #[.pointer (some ⟨b, 0, none⟩), .int .i64 i] w fun e w' => e = .returned (.tuple #[]) ∧
      ∃ M h', RAt w' b room (some g) M h' (c - 1) ∧ M.take (c - 1) = (L.take c).eraseIdx i ∧ Only [b, g] w w' := by
  have hsz : L.length ≤ 65536 := Nat.le_trans r.fit r.top
  have hcl := r.cnt
  have R0 := Lib.hid (HeadRel.start (i := i) r)
  clear r
  go_enter Try.func41, Try.ntmps41
  go_wp2_with fail
  go_loopw [4] (fun v wr => HeadRel w b room g L h c i v wr) (fun v _ => (intOf v).toNat)
  case atStart => exact R0.out
  case round =>
    obtain ⟨k, M, rfl, hki, s, r, o⟩ := hrel
    have c2 : wr.cell? ⟨b, 2, none⟩ = some (.slice (some ⟨g, 0, none⟩) M.length M.length) := r.c2
    have hML := s.1
    have hcM := r.cnt
    by_cases hk : 0 < k
    · have cg1 := r.slot (k := k - 1) (by omega)
      have cg0 := r.slot (k := k) (by omega)
      have fg : wr.frozen? ⟨g, (h + k) % M.length, none⟩ = false := r.slotFree
      have hm0 : (h + k) % M.length < M.length := Nat.mod_lt _ (by omega)
      have hm1 : (h + (k - 1)) % M.length < M.length := Nat.mod_lt _ (by omega)
      have S0 := Lib.hid (fun q => slot_at (r.drewN q) k (by omega) (by omega))
      have S1 := Lib.hid (fun q => slot_at (r.drewN q) (k - 1) (by omega) (by omega))
      rw [show ((k - 1 : Nat) : Int) = (k : Int) - 1 from by omega] at S1
      have N0 : ∀ q, HeadRel w b room g L h c i (.int .i64 ((k : Int) - 1)) ((wr.drewN q).setCell ⟨g, (h + k) % M.length, none⟩ (.int .i64 (M.getD (k - 1) 0))) := fun q => HeadRel.step hk hki hi s r o
      have HN := Lib.hid N0
      clear N0 r o s
      generalize (h + k) % M.length = m0 at *
      generalize (h + (k - 1)) % M.length = m1 at *
      generalize M.getD (k - 1) 0 = x1 at *
      generalize M.getD k 0 = x0 at *
      generalize M.length = n at *
      go_wp2_with fail
      refine wp_region_quiet_then 18 (by kernel_rfl) (by kernel_rfl) ?_
      simp only [List.take_succ_cons, List.take_zero, List.drop_succ_cons, List.drop_zero]
      repeat (go_big_quiet_step ((first | (go_at_call 40; with_reducible exact Calls.quiet_of (S0.out _)) | (go_at_call 40; with_reducible exact Calls.quiet_of (S1.out _)))))
      refine wpQuiet_nil ?_
      intro q
      go_wp2
      go_roundw
      case rel => exact HN.out q
      case measure => simp [intOf]; omega
    · obtain rfl : k = 0 := by omega
      have hn0 : 0 < M.length := by omega
      obtain ⟨y, T, hT⟩ : ∃ y T, M.set 0 0 = y :: T := by
        cases M with
        | nil => simp at hn0
        | cons y T => exact ⟨0, T, rfl⟩
      have W1 := Lib.hid (wipe_at r 0 (by omega))
      rw [Int.cast_ofNat_Int] at W1
      have hend := Lib.hid (s.done hi (by omega) hT)
      have HO := Lib.hid o
      have hMl : (M.set 0 0).length = M.length := by simp
      have hTl : (T ++ [y]).length = M.length := by rw [← hMl, hT]; simp
      have HT := Lib.hid hT
      have HTl := Lib.hid hTl
      have hMl2 := Lib.hid hMl
      clear s o r hT hMl hTl
      go_wp2_with (first
        | (go_at_call 43; with_reducible refine W1.out.mono ?_; rintro e w1 ⟨rfl, r1, o1⟩; have c4b := r1.c4; have f4b := r1.blk.free 4; have c3b := r1.c3; have f3b := r1.blk.free 3; have S1 := Lib.hid (slot_at r1 1 (by rw [hMl2.out]; omega) (by omega)); rw [hMl2.out, Int.cast_ofNat_Int] at S1; have R1 := Lib.hid r1; have O1 := Lib.hid o1; clear r1 o1)
        | (go_at_call 40; with_reducible refine S1.out.mono ?_; rintro e w2 ⟨rfl, q, rfl⟩))
      go_end0
      refine ⟨rfl, T ++ [y], (h + 1) % M.length, ?_, hend.out, ?_⟩
      · have R2 := ((R1.out.drewN q).step HT.out).count (c - 1) (by rw [HTl.out]; omega)
        rw [hMl2.out] at R2
        rw [show ((c : Int) - 1) = ((c - 1 : Nat) : Int) from by omega]
        rw [show ((h : Int) + 1) % (L.length : Int) = (((h + 1) % M.length : Nat) : Int) from by rw [hML, Int.natCast_emod, Int.natCast_add, Int.cast_ofNat_Int]]
        exact R2
      · exact ((((HO.out.more (T := [b, g]) (by simp)).trans O1.out (by simp)).drewN q).set (.inl (by simp)) _).set (.inl (by simp)) _

end Go.Proofs.Yteebkgclopffbaa
