/- does: Join; and whatever the call. -/
import Derived.Test.YteebkgclopffbaaDoes3
namespace Go.Proofs.Yteebkgclopffbaa
open Go.RowKit

set_option maxRecDepth 100000 in
set_option maxHeartbeats 8000000 in
theorem does_join {w : World} {b : Nat} {A : Option Nat} {room : Nat} {xs : List Int} {Aw : Option Addr} {cap : Nat} (p : DoesPre w b A room xs Aw cap) (n : Int) (Al : Option Addr) (l : List Int) (capl : Nat) (hl : Rd w Al l) (hal : l ≠ [] → ∀ bl off, Al = some ⟨bl, off, none⟩ → bl ∉ b :: A.toList) (hll : l.length + 20 ≤ 17592186044416) :
    Calls Try.prog 11 #[.pointer (some ⟨b, 0, none⟩), .agg #[.int .i64 room, .slice Aw xs.length cap], .agg #[.int .i64 6, .int .i64 n, .slice Al l.length capl]] w (DoesPost w b A room xs Aw) := by
  obtain ⟨bx, bo, br, o0, hsz⟩ := box3_facts w room Aw xs.length cap 6 n Al l.length capl
  have P := Lib.hid p
  have R0 := Lib.hid (p.ring.only o0 (by simp) (by simp))
  have HBX := Lib.hid bx
  have HBO := Lib.hid bo
  have HBR := Lib.hid br
  have HO := Lib.hid o0
  have HL := Lib.hid hl
  have hxl : xs.length ≤ 65536 := Nat.le_trans p.ring.len p.ring.top
  clear bx bo br o0 p hl
  unfold box3 at HBX HBO HBR HO R0 hsz
  have RDL := Lib.hid (HL.out.only HO.out (by simp))
  go_enter Try.func11, Try.ntmps11
  go_wp2_with ((at_builtin; refine wpList_app _ (by rfl) (.tmp 160) (.tmp 162) (by rfl) (by rfl) (OwnL.nil _ w.heap.size) Al l l.length capl (by rfl) rfl RDL.out (by simp; omega) (by simp; omega) ?_; intro ov w1 ol1 hg1 ha1; have OL1 := Lib.hid ol1; have HG1 := Lib.hid hg1; have HA1 := Lib.hid ha1; clear ol1 hg1 ha1))
  generalize (((w.alloc (.cells #[.int .i64 room, .slice Aw xs.length cap] 29)).alloc (.cells #[.int .i64 6, .int .i64 n, .slice Al l.length capl] 36)).alloc (.cells #[.int .i64 0, .slice none 0 0] 29)) = W0 at *
  have o1 : Only [] W0 w1 := by have := Only.of_grown HG1.out; simpa [Value.ownBlock] using this
  have ol1 := OL1.out
  rw [List.nil_append] at ol1
  obtain ⟨A1, cap1, rfl, hc1, hm1, rl1, loc1⟩ := ol1.form
  have RJ := Lib.hid (ring_join (R0.out.only o1 (by simp) (by simp)) A1 l cap1 rl1 (by omega) (fun _ bl off e => P.out.boxAway (loc1 bl off e).1))
  have OL1' := Lib.hid ol1
  have HO1 := Lib.hid (HO.out.trans o1 (by simp))
  have HBX1 := Lib.hid (HBX.out.only o1 (by simp))
  have HBO1 := Lib.hid (HBO.out.only o1 (by simp))
  have HBR1 := Lib.hid (HBR.out.only o1 (by simp))
  have hsz1 : w.heap.size + 3 ≤ w1.heap.size := Nat.le_trans hsz o1.size
  have hown1 : (Value.slice A1 l.length cap1).ownBlock = none ∨ (Value.slice A1 l.length cap1).ownBlock = some W0.heap.size := by simpa [Value.ownBlock] using HA1.out
  have HW1 := Lib.hid hown1
  have hgl1 : ∀ g, (Value.slice A1 l.length cap1).ownBlock = some g → g < w1.heap.size := fun g hg => (World.ownsRow.lt ol1 g hg).2
  have HGL := Lib.hid hgl1
  clear o1 ol1 rl1 loc1 OL1 HG1 HA1 hown1 hgl1
  (with_reducible refine RJ.out.mono ?_)
  rintro e w2 ⟨rfl, A', r2, n2, o2⟩
  have kn : w2.cell? ⟨w.heap.size + 1, 2, none⟩ = some (.slice Al l.length capl) := (HBO1.out.only o2 (P.out.boxAway (by omega))).cell0 rfl
  have k0 : w2.cell? ⟨w.heap.size, 0, none⟩ = some (.int .i64 room) := (HBX1.out.only o2 (P.out.boxAway (Nat.le_refl _))).cell0 rfl
  have k1 : w2.cell? ⟨w.heap.size, 1, none⟩ = some (.slice Aw xs.length cap) := (HBX1.out.only o2 (P.out.boxAway (Nat.le_refl _))).cell0 rfl
  have HBR2 := Lib.hid (HBR1.out.only o2 (P.out.boxAway (by omega)))
  have HBO2 := Lib.hid (HBO1.out.only o2 (P.out.boxAway (by omega)))
  have hl2 : Rd w2 Al l := (HL.out.only HO1.out (by simp)).only o2 hal
  have RF := Lib.hid (ref_join room Aw Al xs l cap capl P.out.r1 P.out.ring.top (P.out.rdAt HO1.out o2) hl2 P.out.c1 P.out.c2 P.out.ring.len (by omega))
  have ol2 := OL1'.out.only o2 (fun g hg => by
    rcases HW1.out with h | h
    · rw [h] at hg; cases hg
    · rw [h] at hg
      injection hg with hg
      exact P.out.boxAway (by omega))
  have OL2 := Lib.hid ol2
  have HL2 := Lib.hid hl2
  have R2 := Lib.hid r2
  have N2 := Lib.hid n2
  have O2 := Lib.hid o2
  have hs12 : w1.heap.size ≤ w2.heap.size := o2.size
  clear r2 n2 o2 hl2 ol2
  go_wp2_with fail
  (with_reducible refine RF.out.mono ?_)
  rintro e w3 ⟨v, rfl, Aw', cap', rfl, h1, h2, h3, h4, h5⟩
  have hs23 : w2.heap.size ≤ w3.heap.size := h5.size
  have HBO3 := Lib.hid (HBO2.out.only h5 (by simp))
  have H3 := Lib.hid h3
  have H4 := Lib.hid h4
  have b4 := Bk.made w3 29 #[.int .i64 room, .slice Aw' (joinList room xs l).length cap']
  have o4 : Only [] w2 (w3.alloc (.cells #[.int .i64 room, .slice Aw' (joinList room xs l).length cap'] 29)) := h5.alloc _
  have HBR4 := Lib.hid (HBR2.out.only o4 (by simp))
  have HBO4 := Lib.hid (HBO2.out.only o4 (by simp))
  have RD4 := Lib.hid (h3.only ((Only.refl [] w3).alloc (.cells #[.int .i64 room, .slice Aw' (joinList room xs l).length cap'] 29)) (by simp))
  have HB4 := Lib.hid b4
  have ol4 := OL2.out.only o4 (by simp)
  obtain ⟨A1', cap1', e4, _, _, rl4, _⟩ := ol4.form
  have SM := same_any A1' Al l l cap1' capl rl4 (HL2.out.only o4 (by simp)) (by omega) (by omega)
  rw [← e4, decide_eq_true rfl] at SM
  have HSM := Lib.hid SM
  have HO4 := Lib.hid o4
  have MK := Lib.hid (fun q => marked_own (w := (w3.alloc (.cells #[.int .i64 room, .slice Aw' (joinList room xs l).length cap'] 29)).drewN q) (ol4.only ((Only.refl [] _).drewN q) (by simp)) (by simp; omega) (by omega) 3 (by omega))
  have hv2 : (joinErr room xs l == joinErr room xs l) = true := by simp
  have kn4 : (w3.alloc (.cells #[.int .i64 room, .slice Aw' (joinList room xs l).length cap'] 29)).cell? ⟨w.heap.size + 1, 2, none⟩ = some (.slice Al l.length capl) := HBO4.out.cell0 rfl
  clear b4 o4 ol4 rl4 SM e4 h3 h4 h5
  go_wp2_with fail
  generalize (w3.alloc (.cells #[.int .i64 room, .slice Aw' (joinList room xs l).length cap'] 29)) = w4 at *
  (with_reducible refine HSM.out.mono ?_)
  rintro e w5 ⟨rfl, q, rfl⟩
  generalize joinErr room xs l = ce at *
  go_wp2_with fail
  (with_reducible refine (MK.out q).mono ?_)
  rintro e w6 ⟨rfl, o6⟩
  have hwl : w3.heap.size ∉ (Value.slice A1 l.length cap1).ownBlock.toList := fun hm => by
    have := HGL.out _ (by simpa using hm)
    omega
  have hnR : ∀ k, k < W0.heap.size → k ∉ (Value.slice A1 l.length cap1).ownBlock.toList := fun k hk hm => by
    rcases HW1.out with h | h
    · rw [h] at hm; simp at hm
    · rw [h] at hm
      have : k = W0.heap.size := by simpa using hm
      omega
  have c0 : w6.cell? ⟨w3.heap.size, 0, none⟩ = some (.int .i64 room) := ((HB4.out.drewN q).only o6 hwl).cell0 rfl
  have c1 : w6.cell? ⟨w3.heap.size, 1, none⟩ = some (.slice Aw' (joinList room xs l).length cap') := ((HB4.out.drewN q).only o6 hwl).cell0 rfl
  have HBR6 := Lib.hid ((HBR4.out.drewN q).only o6 (hnR _ (by omega)))
  have t0 : w6.cell? ⟨w.heap.size + 1 + 1, 0, none⟩ = some (.int .i64 0) := HBR6.out.cell0 rfl
  have t1 : w6.cell? ⟨w.heap.size + 1 + 1, 1, none⟩ = some (.slice none 0 0) := HBR6.out.cell0 rfl
  have u0 := HBR6.out.free 0
  have u1 := HBR6.out.free 1
  have hS : ∀ k ∈ (Value.slice A1 l.length cap1).ownBlock.toList, w.heap.size + 3 ≤ k ∧ A' ≠ some k := by
    intro k hm
    have hge : ¬ k < W0.heap.size := fun hk => hnR k hk hm
    have hlt := HGL.out k (by simpa using hm)
    refine ⟨by omega, fun e => ?_⟩
    rcases N2.out with h | ⟨g, h, h7⟩
    · rw [h] at e
      have := P.out.ring.ltA _ e
      omega
    · rw [h] at e
      injection e with e
      omega
  have hrd : Rd w6 Aw' (joinList room xs l) := by
    refine (RD4.out.only ((Only.refl [] _).drewN q) (by simp)).only o6 (fun hx bl off e hm => ?_)
    have hge : ¬ bl < W0.heap.size := fun hk => hnR bl hk hm
    have hlt := HGL.out bl (by simpa using hm)
    rcases H4.out bl off e with ⟨h7, h8⟩ | h7
    · rw [h8] at hx
      have := P.out.rd.lt hx bl off h7
      omega
    · omega
  have HRD := Lib.hid hrd
  have HS := Lib.hid hS
  have HO6 := Lib.hid ((((HO4.out.more (T := (Value.slice A1 l.length cap1).ownBlock.toList) (by simp)).drewN q)).trans o6 (fun i hi => .inl hi))
  clear o6 hrd hS hwl hnR
  generalize joinList room xs l = xs' at *
  go_wp2
  refine bodyPost_ret (v := .tuple #[.agg #[.int .i64 room, .slice Aw' xs'.length cap'], .bool true]) (by simp [results, Try.results11, go_sem, t0, t1]) rfl ?_
  exact does_end3 P.out HO1.out hsz1 R2.out N2.out O2.out HO6.out HS.out HRD.out h1 h2 H4.out _ _

theorem does_any {w : World} {b : Nat} {A : Option Nat} {room : Nat} {xs : List Int} {Aw : Option Addr} {cap : Nat} (p : DoesPre w b A room xs Aw cap) (kind n : Int) (Al : Option Addr) (l : List Int) (capl : Nat) (hl : Rd w Al l) (hal : l ≠ [] → ∀ bl off, Al = some ⟨bl, off, none⟩ → bl ∉ b :: A.toList) (hll : l.length + 20 ≤ 17592186044416) :
    Calls Try.prog 11 #[.pointer (some ⟨b, 0, none⟩), .agg #[.int .i64 room, .slice Aw xs.length cap], .agg #[.int .i64 kind, .int .i64 n, .slice Al l.length capl]] w (DoesPost w b A room xs Aw) := by
  by_cases hk : 1 ≤ kind ∧ kind ≤ 6
  · have : kind = 1 ∨ kind = 2 ∨ kind = 3 ∨ kind = 4 ∨ kind = 5 ∨ kind = 6 := by omega
    rcases this with rfl | rfl | rfl | rfl | rfl | rfl
    · exact does_push p n Al l.length capl
    · exact does_pop p n Al l.length capl
    · exact does_at p n Al l.length capl
    · exact does_take p n Al l.length capl
    · exact does_cut p n Al l.length capl
    · exact does_join p n Al l capl hl hal hll
  · exact does_none p kind n Al l.length capl hk

end Go.Proofs.Yteebkgclopffbaa
