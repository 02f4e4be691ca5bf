/- does: Cut, Join; and whatever the call. -/
import Derived.Test.YteebkgclopffbaaDoes2
namespace Go.Proofs.Yteebkgclopffbaa
open Go.RowKit

theorem OwnL.only {w w' : World} {base : Nat} {v : Value} {xs : List Int} {S : List Nat} (h : OwnL w base v xs) (o : Only S w w') (hn : ∀ g, v.ownBlock = some g → g ∉ S) : OwnL w' base v xs := by
  obtain ⟨h1, h2⟩ := h
  refine ⟨h1, ?_⟩
  rcases h2 with h2 | ⟨g, cap, cur, rfl, hg, hh, r⟩
  · exact .inl h2
  · refine .inr ⟨g, cap, cur, rfl, hg, ?_, r⟩
    have hlt : g < w.heap.size := by
      apply Nat.lt_of_not_le
      intro hle
      rw [Array.getElem?_eq_none hle] at hh
      cases hh
    rw [o.block g hlt (hn g rfl)]
    exact hh

set_option maxRecDepth 100000 in
set_option maxHeartbeats 8000000 in
theorem does_cut {w : World} {b : Nat} {A : Option Nat} {room : Nat} {xs : List Int} {Aw : Option Addr} {cap : Nat} (p : DoesPre w b A room xs Aw cap) (n : Int) (Al : Option Addr) (m capl : Nat) :
    Calls Try.prog 11 #[.pointer (some ⟨b, 0, none⟩), .agg #[.int .i64 room, .slice Aw xs.length cap], .agg #[.int .i64 5, .int .i64 n, .slice Al m capl]] w (DoesPost w b A room xs Aw) := by
  obtain ⟨bx, bo, br, o0, hsz⟩ := box3_facts w room Aw xs.length cap 5 n Al m capl
  have P := Lib.hid p
  have RG := Lib.hid (ring_cut (p.ring.only o0 (by simp) (by simp)) n)
  have HBX := Lib.hid bx
  have HBO := Lib.hid bo
  have HBR := Lib.hid br
  have HO := Lib.hid o0
  have hxl : xs.length ≤ 65536 := Nat.le_trans p.ring.len p.ring.top
  clear bx bo br o0 p
  unfold box3 at HBX HBO HBR HO RG hsz
  go_enter Try.func11, Try.ntmps11
  go_wp2_with fail
  generalize (((w.alloc (.cells #[.int .i64 room, .slice Aw xs.length cap] 29)).alloc (.cells #[.int .i64 5, .int .i64 n, .slice Al m capl] 36)).alloc (.cells #[.int .i64 0, .slice none 0 0] 29)) = W0 at *
  (with_reducible refine RG.out.mono ?_)
  rintro e w1 ⟨lv, rfl, ol1, lb1, r1, o1⟩
  have kn : w1.cell? ⟨w.heap.size + 1, 1, none⟩ = some (.int .i64 n) := (HBO.out.only o1 (P.out.boxAway (by omega))).cell0 rfl
  have k0 : w1.cell? ⟨w.heap.size, 0, none⟩ = some (.int .i64 room) := (HBX.out.only o1 (P.out.boxAway (Nat.le_refl _))).cell0 rfl
  have k1 : w1.cell? ⟨w.heap.size, 1, none⟩ = some (.slice Aw xs.length cap) := (HBX.out.only o1 (P.out.boxAway (Nat.le_refl _))).cell0 rfl
  have HBR1 := Lib.hid (HBR.out.only o1 (P.out.boxAway (by omega)))
  have HBO1 := Lib.hid (HBO.out.only o1 (P.out.boxAway (by omega)))
  have RF := Lib.hid (ref_cut room Aw xs cap n P.out.r1 (P.out.rdAt HO.out o1) hxl P.out.c1 P.out.c2)
  obtain ⟨Al1, capl1, rfl, hcl1, hml1, rl1, loc1⟩ := ol1.form
  have R1 := Lib.hid r1
  have O1 := Lib.hid o1
  have OL1 := Lib.hid ol1
  have LB1 := Lib.hid lb1
  have hgl1 : ∀ g, (Value.slice Al1 (cutOut xs n).length capl1).ownBlock = some g → g < w1.heap.size := fun g hg => (World.ownsRow.lt ol1 g hg).2
  have HGL := Lib.hid hgl1
  clear r1 o1 ol1 lb1 rl1 loc1 hgl1
  go_wp2_with fail
  (with_reducible refine RF.out.mono ?_)
  rintro e w2 ⟨v, B, capb, rfl, ⟨Aw', cap', rfl, h1, h2, h3, h4, h5⟩, h6⟩
  have hlt2 : w.heap.size + 3 ≤ w2.heap.size := Nat.le_trans hsz (Nat.le_trans O1.out.size h5.size)
  have hw12 : w1.heap.size ≤ w2.heap.size := h5.size
  have HBR2 := Lib.hid (HBR1.out.only h5 (by simp))
  have HBO2 := Lib.hid (HBO1.out.only h5 (by simp))
  have H3 := Lib.hid h3
  have H4 := Lib.hid h4
  have H5 := Lib.hid h5
  have H6 := Lib.hid h6
  clear h3 h4 h5 h6
  go_wp2_with fail
  have hyl : (cutOut xs n).length ≤ 65536 := by unfold cutOut; split <;> simp <;> omega
  have b3 := Bk.made w2 29 #[.int .i64 room, .slice Aw' (cutLeft xs n).length cap']
  have o3 : Only [] w1 (w2.alloc (.cells #[.int .i64 room, .slice Aw' (cutLeft xs n).length cap'] 29)) := H5.out.alloc _
  have HBO3 := Lib.hid (HBO2.out.alloc (.cells #[.int .i64 room, .slice Aw' (cutLeft xs n).length cap'] 29))
  have HBR3 := Lib.hid (HBR2.out.alloc (.cells #[.int .i64 room, .slice Aw' (cutLeft xs n).length cap'] 29))
  have RD3 := Lib.hid (H3.out.only ((Only.refl [] w2).alloc (.cells #[.int .i64 room, .slice Aw' (cutLeft xs n).length cap'] 29)) (by simp))
  have HB3 := Lib.hid b3
  have ol3 := OL1.out.only o3 (by simp)
  obtain ⟨Al1', capl1', e3, _, _, rl3, _⟩ := ol3.form
  have SM := same_any Al1' B (cutOut xs n) (cutOut xs n) capl1' capb rl3 (H6.out.only ((Only.refl [] w2).alloc (.cells #[.int .i64 room, .slice Aw' (cutLeft xs n).length cap'] 29)) (by simp)) (by omega) (by omega)
  rw [← e3, decide_eq_true rfl] at SM
  have HSM := Lib.hid SM
  have HO3 := Lib.hid o3
  have OL3 := Lib.hid ol3
  have hmod : -7 < n.tmod 7 ∧ n.tmod 7 < 7 := by
    have h1 := Int.tmod_lt_of_pos n (show (0 : Int) < 7 by omega)
    have h2 := Int.lt_tmod_of_pos n (show (0 : Int) < 7 by omega)
    omega
  have MK := Lib.hid (fun q => marked_own (w := (w2.alloc (.cells #[.int .i64 room, .slice Aw' (cutLeft xs n).length cap'] 29)).drewN q) (ol3.only ((Only.refl [] _).drewN q) (by simp))
    (by have := hw12; have := O1.out.size; simp; omega) (by omega) (n.tmod 7) (by omega))
  have hv2 : (cutErr xs n == cutErr xs n) = true := by simp
  have kn3 : (w2.alloc (.cells #[.int .i64 room, .slice Aw' (cutLeft xs n).length cap'] 29)).cell? ⟨w.heap.size + 1, 1, none⟩ = some (.int .i64 n) := HBO3.out.cell0 rfl
  clear b3 o3 ol3 rl3 SM e3
  generalize (w2.alloc (.cells #[.int .i64 room, .slice Aw' (cutLeft xs n).length cap'] 29)) = w3 at *
  (with_reducible refine HSM.out.mono ?_)
  rintro e w4 ⟨rfl, q, rfl⟩
  generalize cutErr xs n = ce at *
  go_wp2_with fail
  (with_reducible refine (MK.out q).mono ?_)
  rintro e w5 ⟨rfl, o5⟩
  have hwl : w2.heap.size ∉ (Value.slice Al1 (cutOut xs n).length capl1).ownBlock.toList := fun hm => by
    have := HGL.out _ (by simpa using hm)
    omega
  have hnR : ∀ k, k < W0.heap.size → k ∉ (Value.slice Al1 (cutOut xs n).length capl1).ownBlock.toList := fun k hk hm => by
    rcases LB1.out with h | h
    · rw [h] at hm; simp at hm
    · rw [h] at hm
      have : k = W0.heap.size := by simpa using hm
      omega
  have c0 : w5.cell? ⟨w2.heap.size, 0, none⟩ = some (.int .i64 room) := ((HB3.out.drewN q).only o5 hwl).cell0 rfl
  have c1 : w5.cell? ⟨w2.heap.size, 1, none⟩ = some (.slice Aw' (cutLeft xs n).length cap') := ((HB3.out.drewN q).only o5 hwl).cell0 rfl
  have HBR5 := Lib.hid ((HBR3.out.drewN q).only o5 (hnR _ (by omega)))
  have t0 : w5.cell? ⟨w.heap.size + 1 + 1, 0, none⟩ = some (.int .i64 0) := HBR5.out.cell0 rfl
  have t1 : w5.cell? ⟨w.heap.size + 1 + 1, 1, none⟩ = some (.slice none 0 0) := HBR5.out.cell0 rfl
  have u0 := HBR5.out.free 0
  have u1 := HBR5.out.free 1
  have hS : ∀ k ∈ (Value.slice Al1 (cutOut xs n).length capl1).ownBlock.toList, w.heap.size + 3 ≤ k ∧ A ≠ some k := by
    intro k hm
    have hge : ¬ k < W0.heap.size := fun hk => hnR k hk hm
    exact ⟨by omega, fun e => by have := P.out.ring.ltA _ e; omega⟩
  have hrd : Rd w5 Aw' (cutLeft xs n) := by
    refine (RD3.out.only ((Only.refl [] _).drewN q) (by simp)).only o5 (fun hx bl off e hm => ?_)
    have hge : ¬ bl < W0.heap.size := fun hk => hnR bl hk hm
    have hlt := HGL.out bl (by simpa using hm)
    rcases H4.out bl off e with ⟨h7, h8⟩ | h7
    · rw [h8] at hx
      have := P.out.rd.lt hx bl off h7
      omega
    · omega
  have HRD := Lib.hid hrd
  have HS := Lib.hid hS
  have HO5 := Lib.hid ((((HO3.out.more (T := (Value.slice Al1 (cutOut xs n).length capl1).ownBlock.toList) (by simp)).drewN q)).trans o5 (fun i hi => .inl hi))
  clear o5 hrd hS hwl hnR
  generalize cutLeft xs n = xs' at *
  go_wp2
  refine bodyPost_ret (v := .tuple #[.agg #[.int .i64 room, .slice Aw' xs'.length cap'], .bool true]) (by simp [results, Try.results11, go_sem, t0, t1]) rfl ?_
  exact does_end3 P.out HO.out hsz R1.out (.inl rfl) O1.out HO5.out HS.out HRD.out h1 h2 H4.out _ _

end Go.Proofs.Yteebkgclopffbaa
