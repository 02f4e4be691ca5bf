/- The document's read of any text, its Read and its Parse. -/
import Derived.Test.YtlilfmpikampgaaGreatDoorPKi
import Derived.Test.YtlilfmpikampgaaGreatDoorPKj
import Derived.Test.YtlilfmpikampgaaGreatDoorPHe
namespace Go.Proofs.YtlilfmpikampgaaGreatDoor
open Go.RowKit

theorem read_any (s : ByteArray) (hs : s.size ≤ 262144) : ∀ (d i : Nat) (w : World), s.size - i ≤ d → i ≤ s.size →
    Calls Tryz.prog 23 #[.string s, .int .i64 i] w fun e w' => ReadE s i w w' e ∧ Only [] w w' := by
  intro d
  induction d with
  | zero =>
    intro i w hd hi
    have hj : ¬ nxt s i < s.size := by have := nxt_ge s i; omega
    exact read_x s i w hs hi (fun b h => absurd h hj) (fun t h => absurd h hj)
  | succ d ih =>
    intro i w hd hi
    by_cases hj : nxt s i < s.size
    · have ih2 : ∀ (p : Nat) (w : World), i < p → p ≤ s.size → Calls Tryz.prog 23 #[.string s, .int .i64 p] w fun e w' => ReadE s p w w' e ∧ Only [] w w' := fun p w h1 h2 => ih p w (by omega) h2
      cases hq : qkAt s (nxt s i) with
      | leaf t => exact read_leaf s i t w hs hi hj hq
      | bad => exact read_x s i w hs hi (fun b _ h => by rw [hq] at h; cases h) (fun t _ h => by rw [hq] at h; cases h)
      | sign b =>
        by_cases h1 : b.toNat = 123
        · exact read_open123 s i w hs hi b hj hq h1 ih2
        · by_cases h2 : b.toNat = 91
          · exact read_open91 s i w hs hi b hj hq h2 ih2
          · exact read_x s i w hs hi (fun c _ h => by rw [hq] at h; injection h with h; subst h; exact ⟨h1, h2⟩) (fun t _ h => by rw [hq] at h; cases h)
    · exact read_x s i w hs hi (fun b h => absurd h hj) (fun t h => absurd h hj)
/-- What Read answers. -/
def RReadE (s : ByteArray) (w w' : World) (e : Ending) : Prop := match qrun s (.go [] 0) 0 with
  | .ok t => ∃ sl sr F, (∀ b, F b → w.heap.size ≤ b ∧ b < w'.heap.size) ∧ QV w' F t sl sr ∧ e = .returned (.tuple #[.agg (pcs t.k t.n t.t sl sr), .int .i64 (-1)])
  | .error bad => e = .returned (.tuple #[.agg P11, .int .i64 (bad : Nat)])
/-- Whether a text has ended. -/
theorem tq_end (s : ByteArray) (i : Nat) (w : World) (hs : s.size ≤ 262144) (hi : i ≤ s.size) :
    Calls Tryz.prog 24 #[.string s, .int .i64 i] w fun v w' => ((∃ (wh : Bool) (k n : Int) (t : T) (sg nx : Int), nxt s i < s.size ∧ v = .returned (.agg (qtok wh k n t sg false (nxt s i) nx))) ∨ (¬ nxt s i < s.size ∧ v = .returned (.agg (qtz 0 true s.size s.size)))) ∧ Only [] w w' := by
  refine (tokenAt_any s i w hs hi).mono fun v w' ⟨h1, h2⟩ => ⟨?_, h2⟩
  unfold QTokE at h1
  split at h1
  · rename_i hj
    left
    split at h1
    · exact ⟨_, _, _, .zero, _, _, hj, h1⟩
    · exact ⟨_, _, _, _, _, _, hj, h1⟩
    · obtain ⟨e', h1⟩ := h1
      exact ⟨_, _, _, .zero, _, _, hj, h1⟩
  · rename_i hj
    exact .inr ⟨hj, h1⟩
set_option maxRecDepth 100000 in
set_option maxHeartbeats 8000000 in
theorem rread_any (s : ByteArray) (w : World) (hs : s.size ≤ 262144) :
    Calls Tryz.prog 12 #[.string s] w fun e w' => RReadE s w w' e ∧ Only [] w w' := by
  have rs := store_com
  have HR := Lib.hid (show ∀ w, Calls Tryz.prog 23 #[.string s, .int .i64 0] w fun e w' => ReadE s 0 w w' e ∧ Only [] w w' from fun w => read_any s hs s.size 0 w (by omega) (Nat.zero_le _))
  have HT := Lib.hid (fun n w hn => tq_end s n w hs hn)
  have B0 := Lib.hid (Bk.made w 30 P11)
  have O0 := Lib.hid ((Only.refl [] w).alloc (.cells P11 30))
  go_enter Tryz.func12, Tryz.ntmps12
  go_wp2_with fail
  (with_reducible refine (HR.out _).mono ?_)
  rintro e1 w1 ⟨hte, o1⟩
  have B1 := Lib.hid (B0.out.only o1 (by simp))
  have O1 := Lib.hid (O0.out.trans o1 (by simp))
  have L1 := B1.out.lt
  clear o1
  rcases hte with ⟨t, n, sl, sr, F, rfl, hin, hn, hF, htv, hrt⟩ | ⟨bad, rfl, hrt⟩
  · obtain ⟨At, nt, ct, Bt, nt2, ct2, rfl, rfl⟩ := htv.slices
    have HF := Lib.hid hF
    have HTV := Lib.hid htv
    have HRT := Lib.hid (hrt [])
    clear hF htv hrt
    go_wp2_with fail
    have B2 := Lib.hid (B1.out.alloc (.cells (pcs t.k t.n t.t (.slice At nt ct) (.slice Bt nt2 ct2)) 30))
    have O2 := Lib.hid (O1.out.alloc (.cells (pcs t.k t.n t.t (.slice At nt ct) (.slice Bt nt2 ct2)) 30))
    have P2 := Lib.hid (Bk.made w1 30 (pcs t.k t.n t.t (.slice At nt ct) (.slice Bt nt2 ct2)))
    have T2 := Lib.hid (HTV.out.same ((Only.refl [] w1).alloc (.cells (pcs t.k t.n t.t (.slice At nt ct) (.slice Bt nt2 ct2)) 30)))
    (with_reducible refine (HT.out n _ hn).mono ?_)
    rintro e2 w2 ⟨ht, o2⟩
    have B3 := Lib.hid (B2.out.only o2 (by simp))
    have P3 := Lib.hid (P2.out.only o2 (by simp))
    have O3 := Lib.hid (O2.out.trans o2 (by simp))
    have T3 := Lib.hid (T2.out.same o2)
    have L2 := o2.size
    have L3 := P3.out.lt
    clear o2
    rcases ht with ⟨wh, k, n', tt, sg, nx, hj, rfl⟩ | ⟨hj, rfl⟩
    · have HJ := Lib.hid hj
      clear hj
      obtain ⟨j, hj⟩ : ∃ j, nxt s n = j := ⟨_, rfl⟩
      rw [hj] at HJ ⊢
      have HE := Lib.hid (show RReadE s w w2 (.returned (.tuple #[.agg P11, .int .i64 (j : Nat)])) from by
        unfold RReadE
        rw [HRT.out, show qput [] t = .whole t from rfl, qrun_more (by rw [hj]; exact HJ.out), hj])
      have LB3 := B3.out.lt
      clear hj
      go_wp2_with (refine wpList_store_row (by rfl) _ _ _ (by rfl) w2.heap.size (qtok wh k n' tt sg false j nx) (by rfl) (by rfl) 64 _ (Bk.made w2 64 (qtz 0 false 0 0)) (by kernel_rfl) (by rfl) (by simp [Value.oneCell']) ?_; generalize hW : World.setRow _ _ _ = W3; obtain ⟨D3, k3⟩ := row_set (Bk.made w2 64 (qtz 0 false 0 0)) hW; clear hW; obtain ⟨y0, y1, y2, y3, y4, y5, y6, y7, y8, y9, y10, y11, y12, y13, y14, y15⟩ := D3.sixteen; have C3 := (B3.out.alloc (.cells (qtz 0 false 0 0) 64)).only k3 (by simp; omega); obtain ⟨z0, z1, z2, z3, z4, z5, z6, z7, z8, z9, z10⟩ := C3.eleven; have zf := C3.free)
      have O33 := (O3.out.alloc _).trans k3 (fun b hb => .inr (by rw [List.mem_singleton.1 hb]; omega))
      go_region
      go_wp2_with fail
      generalize hW : World.setCell _ ⟨_, 10, none⟩ _ = W7 at *
      obtain ⟨B7, O7⟩ := put11 C3 hW.symm
      clear hW z0 z1 z2 z3 z4 z5 z6 z7 z8 z9 z10 zf y0 y1 y2 y3 y4 y5 y6 y7 y8 y9 y10 y11 y12 y13 y14 y15
      have B8 := B7.drew
      have O8 := (O33.trans O7 (fun i hi => .inr (by rw [List.mem_singleton.1 hi]; omega))).drew
      generalize W7.drew = W8 at *
      have HE2 := Lib.hid (show RReadE s w W8 (.returned (.tuple #[.agg P11, .int .i64 (j : Nat)])) from by
        have := HE.out
        unfold RReadE at this ⊢
        rw [HRT.out, show qput [] t = .whole t from rfl] at this ⊢
        cases hq : qrun s (.whole t) n with
        | error b => rw [hq] at this; exact this
        | ok u =>
          exfalso
          rw [hq] at this
          obtain ⟨_, _, _, _, _, he⟩ := this
          injection he with he
          injection he with he
          simp at he)
      exact res2 Tryz.results12 B8 (by rfl) (by rfl) (by rfl) Tryz.underlying30 (by kernel_rfl) rfl ⟨HE2.out, O8⟩
    · have LB3 := B3.out.lt
      have HQ : Hid (qrun s (.go [] 0) 0 = .ok t) := Lib.hid (by rw [HRT.out, show qput [] t = .whole t from rfl, qrun_whole hj])
      clear hj
      go_wp2_with (refine wpList_store_row (by rfl) _ _ _ (by rfl) w2.heap.size (qtz 0 true s.size s.size) (by rfl) (by rfl) 64 _ (Bk.made w2 64 (qtz 0 false 0 0)) (by kernel_rfl) (by rfl) (by simp [Value.oneCell']) ?_; generalize hW : World.setRow _ _ _ = W3; obtain ⟨D3, k3⟩ := row_set (Bk.made w2 64 (qtz 0 false 0 0)) hW; clear hW; obtain ⟨y0, y1, y2, y3, y4, y5, y6, y7, y8, y9, y10, y11, y12, y13, y14, y15⟩ := D3.sixteen; have C3 := (B3.out.alloc (.cells (qtz 0 false 0 0) 64)).only k3 (by simp; omega); obtain ⟨z0, z1, z2, z3, z4, z5, z6, z7, z8, z9, z10⟩ := C3.eleven; have zf := C3.free; have PP3 := (P3.out.alloc (.cells (qtz 0 false 0 0) 64)).only k3 (by simp; omega); obtain ⟨x0, x1, x2, x3, x4, x5, x6, x7, x8, x9, x10⟩ := PP3.eleven)
      have O33 := (O3.out.alloc _).trans k3 (fun b hb => .inr (by rw [List.mem_singleton.1 hb]; omega))
      have T33 := QV.only k3 (fun b hb hf => by have := (HF.out b hf).2; rw [List.mem_singleton.1 hb] at this; simp at L2; omega) (fun _ h => h) _ _ _ (T3.out.same ((Only.refl [] w2).alloc (.cells (qtz 0 false 0 0) 64)))
      have L33 := k3.size
      generalize hW : World.setCell _ ⟨_, 10, none⟩ _ = W7 at *
      obtain ⟨B7, O7⟩ := put11 C3 hW.symm
      clear hW z0 z1 z2 z3 z4 z5 z6 z7 z8 z9 z10 zf y0 y1 y2 y3 y4 y5 y6 y7 y8 y9 y10 y11 y12 y13 y14 y15 x0 x1 x2 x3 x4 x5 x6 x7 x8 x9 x10
      have O8 := O33.trans O7 (fun i hi => .inr (by rw [List.mem_singleton.1 hi]; omega))
      have hb0 : ∀ b, F b → w.heap.size < b ∧ b < w1.heap.size := fun b hb => ⟨by have := (HF.out b hb).1; simp at this; omega, (HF.out b hb).2⟩
      have T7 := QV.only O7 (fun b hb hf => by have := (hb0 b hf).1; rw [List.mem_singleton.1 hb] at this; omega) (fun _ h => h) _ _ _ T33
      have S7 := O7.size
      have F7 : ∀ b, F b → w.heap.size ≤ b ∧ b < W7.heap.size := fun b hb => ⟨by have := (hb0 b hb).1; omega, by have := (hb0 b hb).2; simp at L2 L33; omega⟩
      have HE2 := Lib.hid (show RReadE s w W7 (.returned (.tuple #[.agg (pcs t.k t.n t.t (.slice At nt ct) (.slice Bt nt2 ct2)), .int .i64 (-1)])) from by
        unfold RReadE
        rw [HQ.out]
        exact ⟨_, _, F, F7, T7, rfl⟩)
      exact res2 Tryz.results12 B7 (by rfl) (by rfl) (by rfl) Tryz.underlying30 (by kernel_rfl) rfl ⟨HE2.out, O8⟩
  · have HE : Hid (∀ W, RReadE s w W (.returned (.tuple #[.agg P11, .int .i64 (bad : Nat)]))) := Lib.hid (fun W => by unfold RReadE; rw [hrt []])
    clear hrt
    obtain ⟨z0, z1, z2, z3, z4, z5, z6, z7, z8, z9, z10⟩ := B1.out.eleven
    have zf := B1.out.free
    go_wp2_with fail
    generalize hW : World.setCell _ ⟨_, 10, none⟩ _ = W7 at *
    obtain ⟨B7, O7⟩ := put11 B1.out hW.symm
    clear hW z0 z1 z2 z3 z4 z5 z6 z7 z8 z9 z10 zf
    generalize hW : World.alloc W7 _ = W8 at *
    have B8 := Bk.al hW B7
    have O8 := Only.al hW (O1.out.trans O7 (fun i hi => .inr (by rw [List.mem_singleton.1 hi]; omega)))
    clear hW
    exact res2 Tryz.results12 B8 (by rfl) (by rfl) (by rfl) Tryz.underlying30 (by kernel_rfl) rfl ⟨HE.out _, O8⟩
set_option maxRecDepth 100000 in
set_option maxHeartbeats 8000000 in
theorem rqparse_long (s : ByteArray) (w : World) (hs : 262144 < s.size) : Calls Tryz.prog 5 #[.string s] w fun e w' => QTells (qPU s) w' e ∧ Only [] w w' := by
  have rs := store_com
  have p1 : (262144 : Int) < (s.size : Int) := by omega
  have hu : qPU s = (.zero, 4, 0) := by unfold qPU; rw [if_pos hs]
  rw [hu]
  clear hu hs
  go_enter Tryz.func5, Tryz.ntmps5
  go_wp2_with fail
  have B1 := Bk.made w 30 P11
  exact res3 Tryz.results5 B1 (by rfl) (by rfl) (by rfl) (by rfl) Tryz.underlying30 (by kernel_rfl) rfl ⟨QTells.zero rfl, (Only.refl [] w).alloc _⟩
set_option maxRecDepth 100000 in
set_option maxHeartbeats 8000000 in
theorem rqparse_in (s : ByteArray) (w : World) (hs : s.size ≤ 262144) : Calls Tryz.prog 5 #[.string s] w fun e w' => QTells (qPU s) w' e ∧ Only [] w w' := by
  have rs := store_com
  have p1 : ¬ (262144 : Int) < (s.size : Int) := by omega
  have hs2 : ¬ 262144 < s.size := by omega
  have HR := Lib.hid (fun w => rread_any s w hs)
  have HG := Lib.hid (fun t h => qread_sz (t := t) hs h)
  have B0 := Lib.hid (Bk.made w 30 P11)
  have O0 := Lib.hid ((Only.refl [] w).alloc (.cells P11 30))
  have HU : Hid (qPU s = match qrun s (.go [] 0) 0 with
    | .error n => (.zero, 50, (n : Int))
    | .ok t => if qchk t = 0 then (t, 0, 0) else (.zero, qchk t, 0)) := Lib.hid (by unfold qPU; rw [if_neg hs2]; rfl)
  clear hs2
  go_enter Tryz.func5, Tryz.ntmps5
  go_wp2_with fail
  (with_reducible refine (HR.out _).mono ?_)
  rintro e1 w1 ⟨hte, o1⟩
  have B1 := Lib.hid (B0.out.only o1 (by simp))
  have O1 := Lib.hid (O0.out.trans o1 (by simp))
  have L1 := B1.out.lt
  clear o1
  unfold RReadE at hte
  cases hq : qrun s (.go [] 0) 0 with
  | error bad =>
    rw [hq] at hte
    rw [hq] at HU
    simp only at hte HU
    subst hte
    obtain ⟨z0, z1, z2, z3, z4, z5, z6, z7, z8, z9, z10⟩ := B1.out.eleven
    have zf := B1.out.free
    clear hq HG
    go_wp2_with fail
    generalize hW : World.setCell _ ⟨_, 10, none⟩ _ = W7 at *
    obtain ⟨B7, O7⟩ := put11 B1.out hW.symm
    clear hW z0 z1 z2 z3 z4 z5 z6 z7 z8 z9 z10 zf
    generalize hW : World.alloc W7 _ = W8 at *
    have B8 := Bk.al hW B7
    have O8 := Only.al hW (O1.out.trans O7 (fun i hi => .inr (by rw [List.mem_singleton.1 hi]; omega)))
    clear hW
    exact res3 Tryz.results5 B8 (by rfl) (by rfl) (by rfl) (by rfl) Tryz.underlying30 (by kernel_rfl) rfl ⟨by rw [HU.out]; exact QTells.zero rfl, O8⟩
  | ok t =>
    rw [hq] at hte
    rw [hq] at HU
    simp only at hte HU
    obtain ⟨sl, sr, F, hF, htv, rfl⟩ := hte
    obtain ⟨hg, hz⟩ := HG.out t hq
    obtain ⟨At, nt, ct, Bt, nt2, ct2, rfl, rfl⟩ := htv.slices
    have HC := Lib.hid (fun W h hF => r5check_any t hg hz (.slice At nt ct) (.slice Bt nt2 ct2) F W h hF)
    obtain ⟨r, hr⟩ : ∃ r, qchk t = r := ⟨_, rfl⟩
    rw [hr] at HU HC
    have HTV := Lib.hid htv
    have HF := Lib.hid hF
    clear hq HG htv hF hg hz hr
    obtain ⟨W2, hW2⟩ : ∃ W2, W2 = w1.alloc (.cells (pcs t.k t.n t.t (.slice At nt ct) (.slice Bt nt2 ct2)) 30) := ⟨_, rfl⟩
    have hS : w1.heap.size < W2.heap.size := by rw [hW2]; simp
    have o2 : Only [] w1 W2 := hW2 ▸ (Only.refl [] w1).alloc _
    have B2 := Lib.hid (B1.out.only o2 (by simp))
    have O2 := Lib.hid (O1.out.trans o2 (by simp))
    have P2 := Lib.hid (show Bk W2 w1.heap.size 30 (pcs t.k t.n t.t (.slice At nt ct) (.slice Bt nt2 ct2)) from hW2 ▸ Bk.made _ _ _)
    have T2 := Lib.hid (HTV.out.same o2)
    have F2 := Lib.hid (show ∀ b, F b → b < W2.heap.size from fun b hb => Nat.lt_of_lt_of_le (HF.out b hb).2 o2.size)
    have F1 := Lib.hid (show ∀ b, F b → w.heap.size < b from fun b hb => by have := (HF.out b hb).1; simp at this; omega)
    have HC2 := Lib.hid (HC.out W2 T2.out F2.out)
    rw [hW2] at HC2
    clear o2
    go_wp2_with fail
    (with_reducible refine (HC2.out).mono ?_)
    rintro e3 w3 ⟨rfl, o3⟩
    rw [← hW2] at o3
    have B3 := Lib.hid (B2.out.only o3 (by simp))
    have P3 := Lib.hid (P2.out.only o3 (by simp))
    have O3 := Lib.hid (O2.out.trans o3 (by simp))
    have T3 := Lib.hid (T2.out.same o3)
    have S3 := o3.size
    clear o3 HC2 HC hW2
    obtain ⟨z0, z1, z2, z3, z4, z5, z6, z7, z8, z9, z10⟩ := B3.out.eleven
    have zf := B3.out.free
    obtain ⟨x0, x1, x2, x3, x4, x5, x6, x7, x8, x9, x10⟩ := P3.out.eleven
    by_cases hz : r = 0
    · subst hz
      go_wp2_with fail
      generalize hW : World.setCell _ ⟨_, 10, none⟩ _ = W7 at *
      obtain ⟨B7, O7⟩ := put11 B3.out hW.symm
      clear hW z0 z1 z2 z3 z4 z5 z6 z7 z8 z9 z10 zf x0 x1 x2 x3 x4 x5 x6 x7 x8 x9 x10
      have O8 := O3.out.trans O7 (fun i hi => .inr (by rw [List.mem_singleton.1 hi]; omega))
      have S7 := O7.size
      have T7 := QV.only O7 (fun b hb hf => by have := F1.out b hf; rw [List.mem_singleton.1 hb] at this; omega) (fun _ h => h) _ _ _ T3.out
      have F7 : ∀ b, F b → b < W7.heap.size := fun b hb => by have := F2.out b hb; omega
      have HE := Lib.hid (show QTells (qPU s) W7 (.returned (.tuple #[.agg (pcs t.k t.n t.t (.slice At nt ct) (.slice Bt nt2 ct2)), .int .i64 0, .int .i64 0])) from by
        rw [HU.out, if_pos trivial]
        exact ⟨F, _, _, F7, T7, rfl⟩)
      exact res3 Tryz.results5 B7 (by rfl) (by rfl) (by rfl) (by rfl) Tryz.underlying30 (by kernel_rfl) rfl ⟨HE.out, O8⟩
    · have hne : (r != 0) = true := by simpa using hz
      have HZ := Lib.hid hz
      clear hz
      go_wp2_with fail
      generalize hW : World.setCell _ ⟨_, 10, none⟩ _ = W7 at *
      obtain ⟨B7, O7⟩ := put11 B3.out hW.symm
      clear hW z0 z1 z2 z3 z4 z5 z6 z7 z8 z9 z10 zf x0 x1 x2 x3 x4 x5 x6 x7 x8 x9 x10
      have O8 := O3.out.trans O7 (fun i hi => .inr (by rw [List.mem_singleton.1 hi]; omega))
      exact res3 Tryz.results5 B7 (by rfl) (by rfl) (by rfl) (by rfl) Tryz.underlying30 (by kernel_rfl) rfl ⟨by rw [HU.out, if_neg HZ.out]; exact QTells.zero rfl, O8⟩
end Go.Proofs.YtlilfmpikampgaaGreatDoor
