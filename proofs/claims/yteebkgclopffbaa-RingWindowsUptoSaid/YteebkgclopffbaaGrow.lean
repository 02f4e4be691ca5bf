/- The ring's inner function grow. -/
import Derived.Test.YteebkgclopffbaaFrom
namespace Go.Proofs.Yteebkgclopffbaa
open Go.RowKit

/-- grow makes room for k more: the things stand as they stood. -/
def Grew (w w' : World) (b room : Nat) (A : Option Nat) (L : List Int) (c k : Nat) : Prop :=
  ∃ A' M h', RAt w' b room A' M h' c ∧ M.take c = L.take c ∧ c + k ≤ M.length ∧ Only [b] w w' ∧ (A' = A ∨ ∃ g, A' = some g ∧ w.heap.size ≤ g)

theorem Grew.same {w : World} {b room : Nat} {A : Option Nat} {L : List Int} {h c k : Nat} (r : RAt w b room A L h c) (hk : c + k ≤ L.length) : Grew w w b room A L c k :=
  ⟨A, L, h, r, rfl, hk, Only.refl _ _, .inl rfl⟩

/-- A new row for the ring. -/
theorem RAt.regrow {w : World} {b room G : Nat} {A : Option Nat} {L M : List Int} {h c : Nat} (r : RAt w b room A L h c) (hG : Bk w G 3 (ics M)) (hM : M.length ≤ room) (hc : c ≤ M.length) :
    RAt ((w.setCell ⟨b, 2, none⟩ (.slice (some ⟨G, 0, none⟩) M.length M.length)).setCell ⟨b, 3, none⟩ (.int .i64 0)) b room (some G) M 0 c := by
  have hne : G ≠ b := hG.apart r.blk (by decide)
  refine ⟨?_, ⟨M, Rot.zero M, fun g hg => ?_⟩, (fun e => by cases e), hM, r.top, hc, .inr rfl⟩
  · have := (r.blk.set 2 (.slice (some ⟨G, 0, none⟩) M.length M.length)).set 3 (.int .i64 0)
    simpa [rcs, spot] using this
  · injection hg with hg
    subst hg
    exact (hG.away hne _).away hne _

/-- What holds at the head of grow's loop. -/
def GrowRel (w : World) (X : List Int) (N c : Nat) (v : Value) (wr : World) : Prop :=
  ∃ k : Nat, v = .int .i64 k ∧ k ≤ c ∧ Bk wr w.heap.size 3 (ics (fillUp X k N)) ∧ Only [] w wr
theorem GrowRel.start (w : World) (X : List Int) (N c q : Nat) : GrowRel w X N c (.int .i64 0) ((w.alloc (.cells (madeCells #[Value.int .i64 0] N) 3)).drewN q) :=
  ⟨0, rfl, Nat.zero_le _, by rw [fillUp.start, ← made_ics]; exact (Bk.made _ _ _).drewN q, ((Only.refl _ _).alloc _).drewN q⟩
theorem GrowRel.step {w wr : World} {N c k q : Nat} {X : List Int} (hk : k < c) (hN : c ≤ N) (hX : k < X.length) (h : Bk wr w.heap.size 3 (ics (fillUp X k N))) (o : Only [] w wr) :
    GrowRel w X N c (.int .i64 ((k : Int) + 1)) ((wr.drewN q).setCell ⟨w.heap.size, k, none⟩ (.int .i64 (X.getD k 0))) :=
  ⟨k + 1, by go_num, by omega, by
    have := (h.drewN q).set k (.int .i64 (X.getD k 0))
    rwa [ics_set, fillUp.step (by omega) hX] at this, (o.drewN q).set (.inr (Nat.le_refl _)) _⟩
theorem GrowRel.done {w wr : World} {b room : Nat} {A : Option Nat} {L : List Int} {h c k N : Nat} (r : RAt wr b room A L h c) (hN : c + k ≤ N) (hroom : N ≤ room) (hb : Bk wr w.heap.size 3 (ics (fillUp (L.take c) c N))) (o : Only [] w wr) :
    Grew w ((wr.setCell ⟨b, 2, none⟩ (.slice (some ⟨w.heap.size, 0, none⟩) N N)).setCell ⟨b, 3, none⟩ (.int .i64 0)) b room A L c k := by
  have hcl := r.cnt
  have hl : (fillUp (L.take c) c N).length = N := fillUp.len (by omega) (by simp; omega)
  have R := r.regrow hb (by omega) (by omega)
  rw [hl] at R
  refine ⟨_, _, _, R, ?_, by omega, ((o.more (T := [b]) (by simp)).set (.inl (by simp)) _).set (.inl (by simp)) _, .inr ⟨_, rfl, Nat.le_refl _⟩⟩
  unfold fillUp
  rw [List.take_append_of_le_length (by simp; omega), List.take_take, Nat.min_self, List.take_take, Nat.min_self]

set_option maxHeartbeats 2000000 in
theorem grow_at {w : World} {b room : Nat} {A : Option Nat} {L : List Int} {h c : Nat} (r : RAt w b room A L h c) (k : Nat) (hk : c + k ≤ room) :
    Calls Try.prog 37 #[.pointer (some ⟨b, 0, none⟩), .int .i64 k] w fun e w' => e = .returned (.tuple #[]) ∧ Grew w w' b room A L c k := by
  have hsz : L.length ≤ 65536 := Nat.le_trans r.fit r.top
  have hcl := r.cnt
  have hrm := r.top
  have hfit := r.fit
  have c1 := r.c1
  have c2 := r.c2
  have c4 := r.c4
  by_cases hle : c + k ≤ L.length
  · have G := Lib.hid (Grew.same r hle)
    clear r
    go_enter Try.func37, Try.ntmps37
    go_wp2
    refine bodyPost_ret (results_none rfl _ _ _) rfl ?_
    exact ⟨rfl, G.out⟩
  · have c4a : ∀ (q : Nat) (o : Obj), ((w.drewN q).alloc o).cell? ⟨b, 4, none⟩ = some (.int .i64 c) := fun q o => (World.cell?_alloc_lt (w.drewN q) o ⟨b, 4, none⟩ r.lt).trans c4
    have R := Lib.hid r
    clear r
    obtain ⟨N, hN1, hN2, hN⟩ : ∃ N : Nat, c + k ≤ N ∧ N ≤ room ∧ ((c + k < 2 * L.length ∧ room < 2 * L.length ∧ N = room) ∨ (c + k < 2 * L.length ∧ 2 * L.length ≤ room ∧ N = 2 * L.length) ∨ (2 * L.length ≤ c + k ∧ N = c + k)) := by
      by_cases h1 : c + k < 2 * L.length
      · by_cases h2 : room < 2 * L.length
        · exact ⟨room, by omega, by omega, .inl ⟨h1, h2, rfl⟩⟩
        · exact ⟨2 * L.length, by omega, by omega, .inr (.inl ⟨h1, by omega, rfl⟩)⟩
      · exact ⟨c + k, by omega, by omega, .inr (.inr ⟨by omega, rfl⟩)⟩
    have hmk := run_make_row' (P := Try.prog) 27 3 (.int .i64 0) 8 Try.underlying27 int_info rfl .i64 .i64 N (by omega) (by omega)
    have R0 := Lib.hid (fun q => GrowRel.start w (L.take c) N c q)
    have HE := Lib.hid (fun (wr : World) (hb : Bk wr w.heap.size 3 (ics (fillUp (L.take c) c N))) (o : Only [] w wr) => GrowRel.done (R.out.only o (by simp) (by simp)) hN1 hN2 hb o)
    rcases hN with ⟨h1, h2, h3⟩ | ⟨h1, h2, h3⟩ | ⟨h1, h3⟩
    all_goals
      have hNi := congrArg (Nat.cast : Nat → Int) h3
      try simp only [Int.natCast_mul, Int.natCast_add, Int.cast_ofNat_Int] at hNi
      rw [hNi] at hmk
      have H3 := Lib.hid h3
      clear h3 hNi
      go_enter Try.func37, Try.ntmps37
      go_wp2_with fail
      refine wp_region_quiet_then 13 (by kernel_rfl) (by kernel_rfl) ?_
      simp only [List.take_succ_cons, List.take_zero, List.drop_succ_cons, List.drop_zero]
      repeat (go_big_quiet_step (fail))
      refine wpQuiet_nil ?_
      intro q
      go_wp2_with fail
      go_loopw [38] (fun v wr => GrowRel w (L.take c) N c v wr) (fun v _ => c - (intOf v).toNat)
      case atStart => exact R0.out q
      case round =>
        obtain ⟨j, rfl, hjm, hb, o⟩ := hrel
        have r : RAt wr b room A L h c := R.out.only o (by simp) (by simp)
        have c2' : wr.cell? ⟨b, 2, none⟩ = some (.slice (spot A) L.length L.length) := r.c2
        have f2 := r.blk.free 2
        have f3 := r.blk.free 3
        have c3' := r.c3
        by_cases hk' : j < c
        · obtain ⟨g, rfl⟩ := r.some_ (by omega)
          have c2 : wr.cell? ⟨b, 2, none⟩ = some (.slice (some ⟨g, 0, none⟩) L.length L.length) := c2'
          clear c2'
          have cg : wr.cell? ⟨g, (h + j) % L.length, none⟩ = some (.int .i64 ((L.take c).getD j 0)) := by
            have e : (L.take c).getD j 0 = L.getD j 0 := by simp [List.getD, hk']
            rw [e]
            exact r.slot (by omega)
          have hfl := fillUp.len (X := L.take c) (k := j) (m := N) (by omega) (by simp; omega)
          have cG : wr.cell? ⟨w.heap.size, j, none⟩ = some (.int .i64 ((fillUp (L.take c) j N).getD j 0)) := hb.cell0 (ics_at (by simp [List.getD, hfl, show j < N by omega]))
          have fG : wr.frozen? ⟨w.heap.size, j, none⟩ = false := hb.free j
          have hm1 : (h + j) % L.length < L.length := Nat.mod_lt _ (by omega)
          have hjN : j < N := by omega
          have S0 := Lib.hid (fun q => slot_at (r.drewN q) j (by omega) (by omega))
          have N0 : ∀ q, GrowRel w (L.take c) N c (.int .i64 ((j : Int) + 1)) ((wr.drewN q).setCell ⟨w.heap.size, j, none⟩ (.int .i64 ((L.take c).getD j 0))) :=
            fun q => GrowRel.step hk' (by omega) (by simp; omega) hb o
          have HN := Lib.hid N0
          clear N0 r hb o hfl
          generalize (h + j) % L.length = m1 at *
          generalize L.length = n at *
          generalize (fillUp (L.take c) j N).getD j 0 = x0 at *
          generalize (L.take c).getD j 0 = x1 at *
          go_wp2_with fail
          refine wp_region_quiet_then 12 (by kernel_rfl) (by kernel_rfl) ?_
          simp only [List.take_succ_cons, List.take_zero, List.drop_succ_cons, List.drop_zero]
          repeat (go_big_quiet_step ((go_at_call 40; with_reducible exact Calls.quiet_of (S0.out _))))
          refine wpQuiet_nil ?_
          intro q
          go_wp2
          go_roundw
          case rel => exact HN.out q
          case measure => simp [intOf]; omega
        · obtain rfl : j = c := by omega
          have HD := Lib.hid (HE.out wr hb o)
          clear r hb o
          go_wp2
          go_end0
          exact ⟨rfl, HD.out⟩

end Go.Proofs.Yteebkgclopffbaa
