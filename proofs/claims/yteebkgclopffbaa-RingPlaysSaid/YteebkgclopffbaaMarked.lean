/- marked on a row of the call's own. -/
import Derived.Test.YteebkgclopffbaaMark
namespace Go.Proofs.Yteebkgclopffbaa
open Go.RowKit

def M1 (w : World) (base : Nat) (v : Value) (n : Nat) (vi : Value) (wr : World) : Prop :=
  ∃ (k : Nat) (xs : List Int), vi = .int .i64 k ∧ k ≤ n ∧ xs.length = n ∧ OwnL wr base v xs ∧ Only v.ownBlock.toList w wr
def M2 (w : World) (base : Nat) (v0 : Value) (n : Nat) (v vi : Value) (wr : World) : Prop :=
  ∃ (k : Nat) (xs : List Int), vi = .int .i64 k ∧ k ≤ 20 ∧ xs.length = n + k ∧ OwnL wr base v xs ∧ Only v0.ownBlock.toList w wr ∧ base ≤ wr.heap.size ∧ (v.ownBlock = v0.ownBlock ∨ ∃ g, v.ownBlock = some g ∧ w.heap.size ≤ g)

theorem M1.step {w wr : World} {base g n k cap : Nat} {xs : List Int} {x : Int} (hk : k < n) (hl : xs.length = n) (hown : OwnL wr base (.slice (some ⟨g, 0, none⟩) n cap) xs) (o : Only (Value.slice (some ⟨g, 0, none⟩) n cap).ownBlock.toList w wr) :
    M1 w base (.slice (some ⟨g, 0, none⟩) n cap) n (.int .i64 ((k : Int) + 1)) (wr.setCell ⟨g, k, none⟩ (.int .i64 x)) := by
  subst hl
  refine ⟨k + 1, xs.set k x, by go_num, by omega, by simp, ?_, o.set (.inl (by simp [Value.ownBlock])) _⟩
  have := (World.ownsRow.stored hown k (.int .i64 x)).1
  unfold OwnL
  rw [List.length_set, List.map_set]
  exact this
theorem M2.step {w wr w' : World} {base n k : Nat} {v0 v v' : Value} {xs : List Int} {x : Int} (hk : k < 20) (hl : xs.length = n + k) (hw : Only v0.ownBlock.toList w wr) (hbs : base ≤ wr.heap.size) (hv : v.ownBlock = v0.ownBlock ∨ ∃ g, v.ownBlock = some g ∧ w.heap.size ≤ g)
    (obj : Obj) (hown : OwnL w' base v' (xs ++ [x])) (hg : (wr.alloc obj).grownBy w' v.ownBlock) (ha : v'.ownBlock = v.ownBlock ∨ v'.ownBlock = some (wr.alloc obj).heap.size) : M2 w base v0 n v' (.int .i64 ((k : Int) + 1)) w' := by
  have hsz := hw.size
  refine ⟨k + 1, xs ++ [x], by go_num, by omega, by simp; omega, hown, ((hw.alloc obj).trans (Only.of_grown hg) ?_), ?_, ?_⟩
  · intro i hi
    rcases hv with hv | ⟨g, hv, hv2⟩
    · rw [hv] at hi
      exact .inl hi
    · rw [hv] at hi
      have : i = g := by simpa using hi
      subst this
      exact .inr hv2
  · have := hg.size
    simp at this
    omega
  · rcases ha with ha | ha
    · rw [ha]
      exact hv
    · refine .inr ⟨_, ha, ?_⟩
      simp
      omega

set_option maxHeartbeats 2000000 in
theorem marked_own {w : World} {base : Nat} {v : Value} {xs : List Int} (hown : OwnL w base v xs) (hb : base ≤ w.heap.size) (hlen : xs.length + 20 ≤ 17592186044416) (c : Int) (hc : -1000 ≤ c ∧ c ≤ 1000000000000) :
    Calls Try.prog 17 #[v, .int .i64 c] w fun e w' => e = .returned (.tuple #[]) ∧ Only v.ownBlock.toList w w' := by
  obtain ⟨A, cap, rfl, hcap, hmax, hR, hA⟩ := hown.form
  unfold maxLen at hmax
  have H0 := Lib.hid hown
  obtain ⟨n, hn⟩ : ∃ n, n = xs.length := ⟨_, rfl⟩
  rw [← hn] at H0 hlen hcap ⊢
  have HN := Lib.hid hn
  clear hown hR hA hn
  go_enter Try.func17, Try.ntmps17
  go_wp2_with fail
  go_loopw [4] (fun vi wr => M1 w base (.slice A n cap) n vi wr) (fun vi _ => n - (intOf vi).toNat)
  case atStart => exact ⟨0, xs, rfl, Nat.zero_le _, HN.out.symm, H0.out, Only.refl _ _⟩
  case round =>
    clear HN H0
    obtain ⟨k, xs', rfl, hk, hl, hown, o⟩ := hrel
    by_cases hlt : k < n
    · have hg0 : ∃ g, A = some ⟨g, 0, none⟩ := by
        rcases hown.2 with ⟨_, h3⟩ | ⟨g, cap', cur, e, _⟩
        · omega
        · injection e with e
          exact ⟨g, e⟩
      obtain ⟨g, rfl⟩ := hg0
      have hcell : wr.cell? ⟨g, k, none⟩ = some (.int .i64 (xs'.getD k 0)) := by
        have hown' := hown
        unfold OwnL at hown'
        rw [hl] at hown'
        rw [World.ownsRow.cellAt hown' k (by omega), List.getElem?_map, getElem?_getD (by omega)]
        rfl
      have hfr : wr.frozen? ⟨g, k, none⟩ = false := by
        have hown' := hown
        unfold OwnL at hown'
        rw [hl] at hown'
        exact World.ownsRow.frozenAt hown' k
      have N1 := Lib.hid (fun x => M1.step (x := x) hlt hl hown o)
      generalize xs'.getD k 0 = y at *
      clear hown o hl
      go_wp2
      go_roundw
      case rel => exact N1.out _
      case measure => simp [intOf]; omega
    · have H2 := Lib.hid (show M2 w base (.slice A n cap) n (.slice A n cap) (.int .i64 0) wr from ⟨0, xs', rfl, by omega, hl, hown, o, by have := o.size; omega, .inl rfl⟩)
      clear hown o hl hk
      go_wp2_with fail
      obtain ⟨wo, rfl⟩ : ∃ wo : World, wo = wr := ⟨_, rfl⟩
      go_loopw [0, 5] (fun v vi wr => M2 w base (.slice A n cap) n v vi wr) (fun _ vi _ => 20 - (intOf vi).toNat)
      case atStart => exact H2.out
      case round =>
        clear H2
        obtain ⟨j, xs2, rfl, hj, hl, hown, o, hbs, hv⟩ := hrel
        by_cases hlt : j < 20
        · obtain ⟨x, hx⟩ : ∃ x : Int, x = -880000 - c := ⟨_, rfl⟩
          have HX := Lib.hid hx
          have N1 := fun v' w' obj a b d => M2.step (x := x) (v' := v') (w' := w') hlt hl o hbs hv obj a b d
          have HNN := Lib.hid N1
          have HOWN := Lib.hid hown
          have HL := Lib.hid hl
          clear hown o hl hv N1 hx
          go_wp2_with ((at_builtin; refine wpList_app _ (by rfl) (.tmp 21) (.tmp 24) (by rfl) (by rfl) (HOWN.out.alloc _) (some ⟨wr.heap.size, 0, none⟩) [x] 1 1 (by rfl) rfl (by rw [HX.out]; exact Rd.of_bk (Bk.made wr 3 (ics [_]))) (by simp; omega) (by rw [HL.out]; simp; omega) ?_; intro v' w1 hown1 hg1 ha1; have N2 := Lib.hid (HNN.out v' w1 _ hown1 hg1 ha1); clear hown1 hg1 ha1))
          go_roundw
          case rel => exact N2.out
          case measure => simp [intOf]; omega
        · have HO := Lib.hid o
          clear hown o hl hv
          go_wp2
          go_end0
          exact ⟨rfl, HO.out⟩

end Go.Proofs.Yteebkgclopffbaa
