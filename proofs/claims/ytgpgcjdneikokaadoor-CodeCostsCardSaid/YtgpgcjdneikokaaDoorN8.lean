/- Heights of the small module's function. -/
import Derived.Test.YtgpgcjdneikokaaDoorNB
import Derived.Deep.RegionHeld3
namespace Go.Proofs.YtgpgcjdneikokaaDoor
open Go.RowKit

theorem md_at1 {w : World} {b fb : Nat} (h : Bk w b 45 (md fb)) : w.cell? ⟨b, 0, none⟩ = some (.string ⟨#[109]⟩) ∧ w.cell? ⟨b, 1, none⟩ = some (.slice (some ⟨fb, 0, none⟩) 1 1) := ⟨h.cell0 (i := 0) rfl, h.cell0 (i := 1) rfl⟩
theorem shut_fl1 {w wx : World} {fl fb cb hb wb : Nat} (b : Bk wx fl 67 #[.string ⟨#[109]⟩, .slice (some ⟨fb, 0, none⟩) 1 1, .slice (some ⟨cb, 0, none⟩) 1 2, .slice (some ⟨hb, 0, none⟩) 1 1, .slice (some ⟨wb, 0, none⟩) 1 1, .int .i64 0]) (h : Bk wx hb 3 #[.int .i64 (-1)]) (s : Bk wx wb 4 #[.bool false]) (m : Sm wx fb cb 1) (o : Only [] w wx) (l1 : w.heap.size ≤ hb) (l2 : w.heap.size ≤ wb) (l3 : w.heap.size ≤ fl) :
    ∃ fl' hb wb, Value.pointer (some ⟨fl, 0, none⟩) = .pointer (some ⟨fl', 0, none⟩) ∧ w.heap.size ≤ hb ∧ w.heap.size ≤ wb ∧ w.heap.size ≤ fl' ∧ Fl wx fl' fb cb hb wb 1 #[.int .i64 (-1)] #[.bool false] 0 ∧ Only [] w wx := ⟨_, _, _, rfl, l1, l2, l3, ⟨b, h, s, m⟩, o⟩
set_option maxRecDepth 20000 in
set_option maxHeartbeats 40000000 in
theorem heights_1 (w : World) (fb cb : Nat) (hs : Sm w fb cb 1) : Calls Tryd.prog 17 #[.agg (md fb), .int .i64 0] w fun e w' => e = .returned (.tuple #[.slice none 0 0, .int .i64 64, .int .i64 0]) ∧ Only [] w w' := by
  have hmk := make_b1
  obtain ⟨f0, f1, f2, f3⟩ := (hs.alloc (.cells (md fb) 45)).fs
  have HS := Lib.hid (hs.alloc (.cells (md fb) 45))
  have HR := Lib.hid (fun xb w hx => repeat_1 (-1) xb w hx)
  have BM := Lib.hid (Bk.made w 45 (md fb))
  clear hs
  go_enter Tryd.func17, Tryd.ntmps17
  go_upto_region 2 with fail
  go_cut [8] (fun x wx => ∃ fl hb wb, x = .pointer (some ⟨fl, 0, none⟩) ∧ w.heap.size ≤ hb ∧ w.heap.size ≤ wb ∧ w.heap.size ≤ fl ∧ Fl wx fl fb cb hb wb 1 #[.int .i64 (-1)] #[.bool false] 0 ∧ Only [] w wx)
  case first =>
    go_region_held3 (fun w' => w'.cell? ⟨w.heap.size, 0, none⟩ = some (.string ⟨#[109]⟩) ∧ w'.cell? ⟨w.heap.size, 1, none⟩ = some (.slice (some ⟨fb, 0, none⟩) 1 1)) (first | exact ⟨by assumption, by assumption⟩ | (refine md_at1 ?_; (repeat first | exact BM.out | refine Bk.drew ?_ | refine Bk.alloc ?_ _); done)) (first | (go_at_call 22; (with_reducible refine (HR.out _ _ ?_).mono ?_); (focus first | (refine Bk.drew (Bk.madeAt ?_); simp; done) | (refine Bk.drew (Bk.alloc (Bk.madeAt ?_) _); simp; done) | (refine Bk.drew (Bk.alloc (Bk.alloc (Bk.madeAt ?_) _) _); simp; done)); rintro e w2 ⟨rfl, rfl⟩))
    all_goals
      clear hmk f0 f1 f2 f3 HR BM
      go_wp2_with fail
      go_meet
      exact shut_fl1 (by repeat first | (refine Bk.madeAt ?_; simp; done) | refine Bk.drew ?_ | refine Bk.alloc ?_ _) (by repeat first | (refine Bk.madeAt ?_; simp; done) | refine Bk.drew ?_ | refine Bk.alloc ?_ _) (by repeat first | (refine Bk.madeAt ?_; simp; done) | refine Bk.drew ?_ | refine Bk.alloc ?_ _) (by repeat first | exact HS.out | refine Sm.drew ?_ | refine Sm.alloc ?_ _) (by repeat first | exact Only.refl _ _ | refine Only.drew ?_ | refine Only.alloc ?_ _) (by omega) (by omega) (by omega)
  case rest =>
    obtain ⟨fl, hb, wb, rfl, l1, l2, l3, hf, ho⟩ := hcut
    have HRE := Lib.hid (reach_new wc fl fb cb hb wb 1 0 0 0 _ _ (.bool false) rfl (.inl ⟨rfl, rfl⟩) hf rfl rfl)
    have HO := Lib.hid ho
    have HL := Lib.hid (And.intro l1 (And.intro l2 l3))
    clear hf ho f0 f1 f2 f3 hmk l1 l2 l3
    go_wp2_with fail
    (with_reducible refine (HRE.out).mono ?_)
    rintro e w2 ⟨rfl, o2, hf2⟩
    have O2 := Lib.hid (HO.out.trans o2 (fun i hi => .inr (by have := HL.out; simp at hi; omega)))
    have HFI := Lib.hid (find_1 w2 fl fb cb hb wb hf2)
    clear o2 hf2
    go_wp2_with fail
    (with_reducible refine (HFI.out).mono ?_)
    rintro e w3 ⟨rfl, o3⟩
    have O3 := Lib.hid (O2.out.trans o3 (fun i hi => .inr (by have := HL.out; simp at hi; omega)))
    clear o3
    go_wp2_with fail
    exact bodyPost_ret (v := .tuple #[.slice none 0 0, .int .i64 64, .int .i64 0]) (by simp [results, Tryd.results17, go_sem]) rfl ⟨rfl, O3.out⟩
end Go.Proofs.YtgpgcjdneikokaaDoor
