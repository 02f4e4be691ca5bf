/- Copy of the program's table. -/
import Derived.Test.YtlidnlcmnkagaaaJ7
import Derived.Deep.RegionHeld3
namespace Go.Proofs.Ytlidnlcmnkagaaa
open Go.RowKit
set_option maxRecDepth 20000

@[go_sem high] theorem rowNil (p : Addr) (n c : Nat) (w : World) : (binOp .eql 80 (.slice (some p) n c) (.slice none 0 0)).run Try.prog w = .ok (.bool false) w := by
  simp only [binOp]
  simp [Op.equal, Op.maxDepth, Lib.run_equalIn_slice_nil w 9999 80 _ (some p) n c 0 0 Try.underlying80]
@[go_sem high] theorem mapNil (mb : Nat) (w : World) : (binOp .eql 81 (mapV mb) (.map none)).run Try.prog w = .ok (.bool false) w :=
  run_eql_map_nil w _ _ _ (some mb) Try.underlying81
@[go_sem high] theorem asMap (v : Value) (w : World) : (Instr.typeAssert (.iface 81 v) 20 81 false).run Try.prog w = .ok v w := by kernel_rfl
theorem callClone {w w1 : World} {a v : Value} (h : (Extern.MapsClone.clone #[a]).run Try.prog w = .ok v w1) : (callFunc 53 #[a]).run Try.prog w = .ok (.value v) w1 := by
  rw [run_callFunc_extern (e := Extern.MapsClone.clone) Try.func53 (by kernel_rfl) (by kernel_rfl) (by kernel_rfl) (by kernel_rfl), h]
  rfl
def SCloneE (w : World) (T : List Pl) (e : Ending) (w' : World) : Prop := ∃ g cap, e = .returned (.slice (some ⟨g, 0, none⟩) T.length cap) ∧ w.heap.size ≤ g ∧ OwnS KL w' w.heap.size (.slice (some ⟨g, 0, none⟩) T.length cap) T ∧ Only [] w w'
set_option maxHeartbeats 2000000 in
theorem sclone_any {w : World} {g cap : Nat} {T : List Pl} (h : OwnS KL w 0 (.slice (some ⟨g, 0, none⟩) T.length cap) T) (hl : 1 ≤ T.length ∧ T.length ≤ 256) :
    Calls Try.prog 47 #[.slice (some ⟨g, 0, none⟩) T.length cap] w (SCloneE w T) := by
  obtain ⟨A, cap', e, _, _, hr, _⟩ := h.form
  injection e with e1 e2 e3
  subst e1 e3
  have HR := Lib.hid hr
  clear h hr
  go_enter Try.func47, Try.ntmps47
  have LL : (([] : List Pl).length + T.length) * KL.by' ≤ 140737488355328 := by show (0 + T.length) * 32 ≤ _; omega
  have L0 : w.heap.size ≤ (w.alloc (.cells #[] 79)).heap.size := by simp
  have OE : OwnS KL (w.alloc (.cells #[] 79)) w.heap.size (.slice (some ⟨w.heap.size, 0, none⟩) 0 0) ([] : List Pl) := ⟨rfl, .inr ⟨w.heap.size, 0, #[], rfl, Nat.le_refl _, heap_alloc_new w _, Nat.le_refl _, by simp [maxLen], rfl, rfl⟩⟩
  have HE := Lib.hid OE
  have O := Lib.hid ((Only.refl [] w).alloc (.cells #[] 79))
  clear OE
  go_wp2_with (at_builtin; refine wpList_appS KL _ (by rfl) (.tmp 5) (.tmp 6) (by rfl) (by rfl) HE.out (some ⟨g, 0, none⟩) T T.length cap (by rfl) rfl (HR.out.alloc _) L0 LL ?_; intro v' w1 hown hgrow hat; have G1 := Lib.hid (HE.out.goes hgrow O.out (Nat.le_refl _)); have G2 := Lib.hid hown; clear hgrow hown hat)
  have EE : Hid (SCloneE w T (.returned v') w1) := Lib.hid (by
    have h := G2.out
    rw [List.nil_append] at h
    obtain ⟨A, cap2, e, _, _, hr, ha⟩ := h.form
    obtain ⟨bl, off, e4, _, _⟩ := hr.form hl.1
    obtain ⟨h1, h2, h3, h4⟩ := ha bl off e4
    subst e e4 h3
    exact ⟨bl, cap2, rfl, h1, h, G1.out⟩)
  clear G1 G2
  go_ret
  exact EE.out
set_option maxHeartbeats 2000000 in
theorem mclone_any {w : World} {mb : Nat} {f : ByteArray → Option Pd} (h : MapIs w mb f) :
    Calls Try.prog 48 #[mapV mb] w fun e w' => e = .returned (mapV w.heap.size) ∧ MapIs w' w.heap.size f ∧ Only [] w w' := by
  obtain ⟨w1, hr, hm, ho⟩ := map_clone h 81
  have hc := callClone hr
  have HM := Lib.hid hm
  have HO := Lib.hid ho
  clear h hm ho hr
  go_enter Try.func48, Try.ntmps48
  go_wp2_with fail
  go_ret
  exact ⟨rfl, HM.out, HO.out⟩
def CopyOk (w : World) (T : List Pl) (b : Nat) (w' : World) : Prop := ∃ g mb cap, TRep w' b g mb cap T ∧ (w.heap.size ≤ b ∧ w.heap.size ≤ g ∧ w.heap.size ≤ mb) ∧ Only [] w w'
def CopyE (w : World) (T : List Pl) (e : Ending) (w' : World) : Prop := ∃ b, e = .returned (ptA b) ∧ CopyOk w T b w'
theorem of_shut {w w3 : World} {g m cap base : Nat} {T : List Pl} (h : OwnS KL w3 base (.slice (some ⟨g, 0, none⟩) T.length cap) T) (hm : MapIs w3 m (whereF T)) (ok : TOk T) (o : Only [] w w3) (h1 : w.heap.size ≤ g) (h2 : w.heap.size ≤ m) :
    Calls Try.prog 40 #[.slice (some ⟨g, 0, none⟩) T.length cap, mapV m] w3 (CopyE w T) :=
  (of_any w3 g m T.length cap).mono fun e w' ⟨he, hb, ho⟩ => ⟨_, he, g, m, cap, ⟨hb, (h.low (Nat.zero_le _)).only ho (by simp), hm.only ho (by simp), ok⟩, ⟨o.size, h1, h2⟩, o.trans ho (by simp)⟩
set_option maxHeartbeats 1000000 in
theorem copy_nil (w : World) : Calls Try.prog 27 #[.pointer none] w fun e w' => e = .returned (.pointer none) ∧ w = w' := by
  have K := Lib.hid (given_nil w)
  go_enter Try.func27, Try.ntmps27
  go_wp2_with fail
  (with_reducible refine K.out.mono ?_)
  rintro e w1 ⟨rfl, rfl⟩
  go_wp2_with fail
  go_ret
  exact ⟨rfl, rfl⟩
set_option maxHeartbeats 8000000 in
theorem copy_any {w : World} {b g mb cap : Nat} {T : List Pl} (h : TRep w b g mb cap T) : Calls Try.prog 27 #[ptA b] w (CopyE w T) := by
  have K := Lib.hid (given_any h)
  have OK := Lib.hid h.ok
  have H0 := Lib.hid (h.only ((Only.refl [] w).drew) (by simp) (by simp) (by simp))
  have O0 := Lib.hid ((Only.refl [] w).drew)
  have H := Lib.hid h
  have q1 : w.cell? ⟨b, 1, none⟩ = some (.slice (some ⟨g, 0, none⟩) T.length cap) ∧ w.cell? ⟨b, 2, none⟩ = some (mapV mb) := ⟨h.blk.cell0 (i := 1) rfl, h.blk.cell0 (i := 2) rfl⟩
  clear h
  go_enter Try.func27, Try.ntmps27
  go_wp2_with fail
  (with_reducible refine K.out.mono ?_)
  rintro e w1 ⟨rfl, rfl⟩
  go_wp2_with fail
  clear K
  go_region_held3 (fun w' => w'.cell? ⟨b, 1, none⟩ = some (.slice (some ⟨g, 0, none⟩) T.length cap) ∧ w'.cell? ⟨b, 2, none⟩ = some (mapV mb)) (first | assumption | go_keep)
    (first
      | (go_at_call 47; (with_reducible refine (sclone_any H0.out.row OK.out.len).mono ?_); rintro e w2 ⟨g2, c2, rfl, hg2, ho2, o2⟩; have O2 := Lib.hid (O0.out.trans o2 (by simp)); have H2 := Lib.hid (H0.out.only o2 (by simp) (by simp) (by simp)); have KM := Lib.hid (mclone_any H2.out.map); have G2 := Lib.hid hg2; have R2 := Lib.hid ho2; have q2 := And.intro (H2.out.blk.cell0 (i := 1) (v := .slice (some ⟨g, 0, none⟩) T.length cap) rfl) (H2.out.blk.cell0 (i := 2) (v := mapV mb) rfl); clear hg2 ho2 o2)
      | (go_at_call 48; (with_reducible refine KM.out.mono ?_); rintro e w3 ⟨rfl, hm3, o3⟩; have O3 := Lib.hid (O2.out.trans o3 (by simp)); have H3 := Lib.hid (H2.out.only o3 (by simp) (by simp) (by simp)); have KO := Lib.hid (of_shut (R2.out.only o3 (by simp)) hm3 OK.out O3.out G2.out O2.out.size); have q3 := And.intro (H3.out.blk.cell0 (i := 1) (v := .slice (some ⟨g, 0, none⟩) T.length cap) rfl) (H3.out.blk.cell0 (i := 2) (v := mapV mb) rfl); clear hm3 o3)
      | (go_at_call 48; (with_reducible refine (mclone_any H0.out.map).mono ?_); rintro e w2 ⟨rfl, hm2, o2⟩; have O2 := Lib.hid (O0.out.trans o2 (by simp)); have H2 := Lib.hid (H0.out.only o2 (by simp) (by simp) (by simp)); have KS := Lib.hid (sclone_any H2.out.row OK.out.len); have R2 := Lib.hid hm2; have q2 := And.intro (H2.out.blk.cell0 (i := 1) (v := .slice (some ⟨g, 0, none⟩) T.length cap) rfl) (H2.out.blk.cell0 (i := 2) (v := mapV mb) rfl); clear hm2 o2)
      | (go_at_call 47; (with_reducible refine KS.out.mono ?_); rintro e w3 ⟨g2, c2, rfl, hg2, ho3, o3⟩; have O3 := Lib.hid (O2.out.trans o3 (by simp)); have H3 := Lib.hid (H2.out.only o3 (by simp) (by simp) (by simp)); have KO := Lib.hid (of_shut ho3 (R2.out.only o3 (by simp)) OK.out O3.out (Nat.le_trans O2.out.size hg2) (Nat.le_refl _)); have q3 := And.intro (H3.out.blk.cell0 (i := 1) (v := .slice (some ⟨g, 0, none⟩) T.length cap) rfl) (H3.out.blk.cell0 (i := 2) (v := mapV mb) rfl); clear hg2 ho3 o3)
      | (go_at_call 40; (with_reducible refine KO.out.mono ?_); rintro e w4 ⟨b4, rfl, hx⟩; have HX := Lib.hid hx; obtain ⟨g4, m4, c4, -, -, o4⟩ := hx; have H4 := Lib.hid (H.out.only o4 (by simp) (by simp) (by simp)); have q4 := And.intro (H4.out.blk.cell0 (i := 1) (v := .slice (some ⟨g, 0, none⟩) T.length cap) rfl) (H4.out.blk.cell0 (i := 2) (v := mapV mb) rfl); clear o4))
  all_goals
    go_wp2_with fail
    go_ret
    exact ⟨_, rfl, HX.out⟩
end Go.Proofs.Ytlidnlcmnkagaaa
