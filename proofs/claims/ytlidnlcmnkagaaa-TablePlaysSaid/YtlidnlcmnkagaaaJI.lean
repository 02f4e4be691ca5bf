/- The document's table: New, copied, Is, NameOf, Where, Pids. -/
import Derived.Test.YtlidnlcmnkagaaaJG
namespace Go.Proofs.Ytlidnlcmnkagaaa
open Go.RowKit
set_option maxRecDepth 20000

abbrev als (T : List Pl) : List Bool := T.map Pl.al
abbrev nms (T : List Pl) : List ByteArray := T.map Pl.nm
/-- The document's table: three lists that are never written over. -/
structure RT (w : World) (v1 v2 v3 : Value) (T : List Pl) : Prop where
  h : OwnS KI w 0 v1 (hads T)
  a : OwnS KB w 0 v2 (als T)
  n : OwnS KS w 0 v3 (nms T)
theorem ki1 : KI.e ≠ 83 := by decide +kernel
theorem ki2 : KI.e ≠ 79 := by decide +kernel
theorem ks1 : KS.e ≠ 83 := by decide +kernel
theorem ks2 : KS.e ≠ 79 := by decide +kernel
theorem RT.only {S : List Nat} {w w' : World} {v1 v2 v3 : Value} {T : List Pl} (r : RT w v1 v2 v3 T) (o : Only S w w') (hS : S = []) : RT w' v1 v2 v3 T := by
  subst hS
  exact ⟨r.h.only o (by simp), r.a.only o (by simp), r.n.only o (by simp)⟩
theorem RT.alloc {w : World} {v1 v2 v3 : Value} {T : List Pl} (r : RT w v1 v2 v3 T) (o : Obj) : RT (w.alloc o) v1 v2 v3 T := r.only ((Only.refl [] w).alloc o) rfl
theorem RT.nil (w : World) : RT w (.slice none 0 0) (.slice none 0 0) (.slice none 0 0) [] := ⟨OwnS.nil _ _ _, OwnS.nil _ _ _, OwnS.nil _ _ _⟩
/-- What the program's table does leaves the document's alone. -/
theorem RT.byTable {w w' : World} {b g mb cap : Nat} {T U : List Pl} {v1 v2 v3 : Value} (r : RT w v1 v2 v3 U) (h : TRep w b g mb cap T) (o : Only [g, mb] w w') : RT w' v1 v2 v3 U :=
  ⟨r.h.byTable h ki1 ki2 o, r.a.byTable h kb1 kb2 o, r.n.byTable h ks1 ks2 o⟩
theorem zh {n : Nat} : hads (zeroT n) = List.replicate n 0 := by simp [zeroT]
theorem za {n : Nat} : als (zeroT n) = List.replicate n false := by simp [zeroT]
theorem zn {n : Nat} : nms (zeroT n) = List.replicate n E0b := by simp [zeroT]
theorem own_bk {α : Type} {K : Sk α} {w : World} {g n base : Nat} {cs : Array Value} {xs : List α} (h : Bk w g K.e cs) (hc : cs.toList = xs.flatMap K.enc) (hn : xs.length = n) (hb : base ≤ g) (hl : n ≤ maxLen) : OwnS K w base (.slice (some ⟨g, 0, none⟩) n n) xs := by
  subst hn
  refine ⟨flat_len K xs, .inr ⟨g, xs.length, cs, rfl, hb, h, Nat.le_refl _, hl, ?_, ?_⟩⟩
  · rw [← Array.length_toList, hc, flat_len]
  · rw [hc, List.take_of_length_le (by rw [flat_len]; exact Nat.le_refl _)]
theorem run_makeS {α : Type} (K : Sk α) (n : Nat) (hn : K.by' * n ≤ 281474976710656) (hn2 : n ≤ 9223372036854775807) (W : World) :
    (Instr.makeSlice K.t (.int .i64 (n : Int)) (.int .i64 (n : Int))).run Try.prog W = .ok (.slice (some ⟨W.heap.size, 0, none⟩) n n) (W.alloc (.cells (madeCells K.z.cells (n * K.k)) K.e)) := by
  have h := run_make (P := Try.prog) W K.t K.e K.i K.z K.ht K.hi K.hz .i64 .i64 (n : Int) (n : Int) (by omega) (by omega) (by rw [K.hb]; omega) (by omega)
  rw [K.hk] at h
  simpa using h
theorem madeS_list {α : Type} (K : Sk α) (z : α) (hz : K.enc z = K.z.cells.toList) (n : Nat) : (madeCells K.z.cells (n * K.k)).toList = (List.replicate n z).flatMap K.enc := by
  rw [← K.hzs, made_list, ← hz, List.flatMap_replicate]
set_option maxHeartbeats 8000000 in
theorem rnew_own (n : Nat) (w : World) (h1 : 1 ≤ n) (h2 : n ≤ 256) : Calls Try.prog 19 #[.int .i64 n] w fun e w' => ∃ v1 v2 v3, e = .returned (.tuple #[.agg (rtC n v1 v2 v3), .int .i64 0]) ∧ (OwnS KI w' w.heap.size v1 (hads (zeroT n)) ∧ OwnS KB w' w.heap.size v2 (als (zeroT n)) ∧ OwnS KS w' w.heap.size v3 (nms (zeroT n))) ∧ Only [] w w' := by
  have q0 : decide ((n : Int) < 1) = false := decide_eq_false (by omega)
  have q1 : decide (256 < (n : Int)) = false := decide_eq_false (by omega)
  have mI := run_makeS KI n (by show 8 * n ≤ _; omega) (by omega)
  have mB := run_makeS KB n (by show 1 * n ≤ _; omega) (by omega)
  have mS := run_makeS KS n (by show 16 * n ≤ _; omega) (by omega)
  have cI := Lib.hid (madeS_list KI 0 rfl n)
  have cB := Lib.hid (madeS_list KB false rfl n)
  have cS := Lib.hid (madeS_list KS E0b rfl n)
  rw [show KI.t = 26 from rfl, show KI.e = 3 from rfl] at mI
  rw [show KB.t = 27 from rfl, show KB.e = 4 from rfl] at mB
  rw [show KS.t = 28 from rfl, show KS.e = 9 from rfl] at mS
  generalize madeCells KI.z.cells (n * KI.k) = MI at mI cI
  generalize madeCells KB.z.cells (n * KB.k) = MB at mB cB
  generalize madeCells KS.z.cells (n * KS.k) = MS at mS cS
  go_enter Try.func19, Try.ntmps19
  go_wp2_with fail
  go_region
  · go_wp2_with fail
    refine bodyPost_ret (v := .tuple #[.agg (rtC n (.slice (some ⟨w.heap.size + 1 + 1, 0, none⟩) n n) (.slice (some ⟨w.heap.size + 1 + 1 + 1, 0, none⟩) n n) (.slice (some ⟨w.heap.size + 1 + 1 + 1 + 1, 0, none⟩) n n)), .int .i64 0]) (by simp [results, Try.results19, go_sem]; done) rfl ⟨_, _, _, rfl, ⟨own_bk (cs := MI) ?_ (by rw [zh, cI.out]) (by rw [zh]; simp) (by omega) (by simp [maxLen]; omega), own_bk (cs := MB) ?_ (by rw [za, cB.out]) (by rw [za]; simp) (by omega) (by simp [maxLen]; omega), own_bk (cs := MS) ?_ (by rw [zn, cS.out]) (by rw [zn]; simp) (by omega) (by simp [maxLen]; omega)⟩, ?_⟩
    · first | exact Bk.drew (Bk.newAt (by simp)) | exact Bk.drew ((Bk.newAt (by simp)).alloc _) | exact Bk.drew (((Bk.newAt (by simp)).alloc _).alloc _)
    · first | exact Bk.drew (Bk.newAt (by simp)) | exact Bk.drew ((Bk.newAt (by simp)).alloc _) | exact Bk.drew (((Bk.newAt (by simp)).alloc _).alloc _)
    · first | exact Bk.drew (Bk.newAt (by simp)) | exact Bk.drew ((Bk.newAt (by simp)).alloc _) | exact Bk.drew (((Bk.newAt (by simp)).alloc _).alloc _)
    · exact Only.drew ((((((Only.refl [] w).alloc _).alloc _).alloc _).alloc _).alloc _)
  · go_wp2_with fail
    refine bodyPost_ret (v := .tuple #[.agg (rtC n (.slice (some ⟨w.heap.size + 1 + 1, 0, none⟩) n n) (.slice (some ⟨w.heap.size + 1 + 1 + 1 + 1, 0, none⟩) n n) (.slice (some ⟨w.heap.size + 1 + 1 + 1, 0, none⟩) n n)), .int .i64 0]) (by simp [results, Try.results19, go_sem]; done) rfl ⟨_, _, _, rfl, ⟨own_bk (cs := MI) ?_ (by rw [zh, cI.out]) (by rw [zh]; simp) (by omega) (by simp [maxLen]; omega), own_bk (cs := MB) ?_ (by rw [za, cB.out]) (by rw [za]; simp) (by omega) (by simp [maxLen]; omega), own_bk (cs := MS) ?_ (by rw [zn, cS.out]) (by rw [zn]; simp) (by omega) (by simp [maxLen]; omega)⟩, ?_⟩
    · first | exact Bk.drew (Bk.newAt (by simp)) | exact Bk.drew ((Bk.newAt (by simp)).alloc _) | exact Bk.drew (((Bk.newAt (by simp)).alloc _).alloc _)
    · first | exact Bk.drew (Bk.newAt (by simp)) | exact Bk.drew ((Bk.newAt (by simp)).alloc _) | exact Bk.drew (((Bk.newAt (by simp)).alloc _).alloc _)
    · first | exact Bk.drew (Bk.newAt (by simp)) | exact Bk.drew ((Bk.newAt (by simp)).alloc _) | exact Bk.drew (((Bk.newAt (by simp)).alloc _).alloc _)
    · exact Only.drew ((((((Only.refl [] w).alloc _).alloc _).alloc _).alloc _).alloc _)
  · go_wp2_with fail
    refine bodyPost_ret (v := .tuple #[.agg (rtC n (.slice (some ⟨w.heap.size + 1 + 1 + 1, 0, none⟩) n n) (.slice (some ⟨w.heap.size + 1 + 1, 0, none⟩) n n) (.slice (some ⟨w.heap.size + 1 + 1 + 1 + 1, 0, none⟩) n n)), .int .i64 0]) (by simp [results, Try.results19, go_sem]; done) rfl ⟨_, _, _, rfl, ⟨own_bk (cs := MI) ?_ (by rw [zh, cI.out]) (by rw [zh]; simp) (by omega) (by simp [maxLen]; omega), own_bk (cs := MB) ?_ (by rw [za, cB.out]) (by rw [za]; simp) (by omega) (by simp [maxLen]; omega), own_bk (cs := MS) ?_ (by rw [zn, cS.out]) (by rw [zn]; simp) (by omega) (by simp [maxLen]; omega)⟩, ?_⟩
    · first | exact Bk.drew (Bk.newAt (by simp)) | exact Bk.drew ((Bk.newAt (by simp)).alloc _) | exact Bk.drew (((Bk.newAt (by simp)).alloc _).alloc _)
    · first | exact Bk.drew (Bk.newAt (by simp)) | exact Bk.drew ((Bk.newAt (by simp)).alloc _) | exact Bk.drew (((Bk.newAt (by simp)).alloc _).alloc _)
    · first | exact Bk.drew (Bk.newAt (by simp)) | exact Bk.drew ((Bk.newAt (by simp)).alloc _) | exact Bk.drew (((Bk.newAt (by simp)).alloc _).alloc _)
    · exact Only.drew ((((((Only.refl [] w).alloc _).alloc _).alloc _).alloc _).alloc _)
  · go_wp2_with fail
    refine bodyPost_ret (v := .tuple #[.agg (rtC n (.slice (some ⟨w.heap.size + 1 + 1 + 1 + 1, 0, none⟩) n n) (.slice (some ⟨w.heap.size + 1 + 1, 0, none⟩) n n) (.slice (some ⟨w.heap.size + 1 + 1 + 1, 0, none⟩) n n)), .int .i64 0]) (by simp [results, Try.results19, go_sem]; done) rfl ⟨_, _, _, rfl, ⟨own_bk (cs := MI) ?_ (by rw [zh, cI.out]) (by rw [zh]; simp) (by omega) (by simp [maxLen]; omega), own_bk (cs := MB) ?_ (by rw [za, cB.out]) (by rw [za]; simp) (by omega) (by simp [maxLen]; omega), own_bk (cs := MS) ?_ (by rw [zn, cS.out]) (by rw [zn]; simp) (by omega) (by simp [maxLen]; omega)⟩, ?_⟩
    · first | exact Bk.drew (Bk.newAt (by simp)) | exact Bk.drew ((Bk.newAt (by simp)).alloc _) | exact Bk.drew (((Bk.newAt (by simp)).alloc _).alloc _)
    · first | exact Bk.drew (Bk.newAt (by simp)) | exact Bk.drew ((Bk.newAt (by simp)).alloc _) | exact Bk.drew (((Bk.newAt (by simp)).alloc _).alloc _)
    · first | exact Bk.drew (Bk.newAt (by simp)) | exact Bk.drew ((Bk.newAt (by simp)).alloc _) | exact Bk.drew (((Bk.newAt (by simp)).alloc _).alloc _)
    · exact Only.drew ((((((Only.refl [] w).alloc _).alloc _).alloc _).alloc _).alloc _)
  · go_wp2_with fail
    refine bodyPost_ret (v := .tuple #[.agg (rtC n (.slice (some ⟨w.heap.size + 1 + 1 + 1, 0, none⟩) n n) (.slice (some ⟨w.heap.size + 1 + 1 + 1 + 1, 0, none⟩) n n) (.slice (some ⟨w.heap.size + 1 + 1, 0, none⟩) n n)), .int .i64 0]) (by simp [results, Try.results19, go_sem]; done) rfl ⟨_, _, _, rfl, ⟨own_bk (cs := MI) ?_ (by rw [zh, cI.out]) (by rw [zh]; simp) (by omega) (by simp [maxLen]; omega), own_bk (cs := MB) ?_ (by rw [za, cB.out]) (by rw [za]; simp) (by omega) (by simp [maxLen]; omega), own_bk (cs := MS) ?_ (by rw [zn, cS.out]) (by rw [zn]; simp) (by omega) (by simp [maxLen]; omega)⟩, ?_⟩
    · first | exact Bk.drew (Bk.newAt (by simp)) | exact Bk.drew ((Bk.newAt (by simp)).alloc _) | exact Bk.drew (((Bk.newAt (by simp)).alloc _).alloc _)
    · first | exact Bk.drew (Bk.newAt (by simp)) | exact Bk.drew ((Bk.newAt (by simp)).alloc _) | exact Bk.drew (((Bk.newAt (by simp)).alloc _).alloc _)
    · first | exact Bk.drew (Bk.newAt (by simp)) | exact Bk.drew ((Bk.newAt (by simp)).alloc _) | exact Bk.drew (((Bk.newAt (by simp)).alloc _).alloc _)
    · exact Only.drew ((((((Only.refl [] w).alloc _).alloc _).alloc _).alloc _).alloc _)
  · go_wp2_with fail
    refine bodyPost_ret (v := .tuple #[.agg (rtC n (.slice (some ⟨w.heap.size + 1 + 1 + 1 + 1, 0, none⟩) n n) (.slice (some ⟨w.heap.size + 1 + 1 + 1, 0, none⟩) n n) (.slice (some ⟨w.heap.size + 1 + 1, 0, none⟩) n n)), .int .i64 0]) (by simp [results, Try.results19, go_sem]; done) rfl ⟨_, _, _, rfl, ⟨own_bk (cs := MI) ?_ (by rw [zh, cI.out]) (by rw [zh]; simp) (by omega) (by simp [maxLen]; omega), own_bk (cs := MB) ?_ (by rw [za, cB.out]) (by rw [za]; simp) (by omega) (by simp [maxLen]; omega), own_bk (cs := MS) ?_ (by rw [zn, cS.out]) (by rw [zn]; simp) (by omega) (by simp [maxLen]; omega)⟩, ?_⟩
    · first | exact Bk.drew (Bk.newAt (by simp)) | exact Bk.drew ((Bk.newAt (by simp)).alloc _) | exact Bk.drew (((Bk.newAt (by simp)).alloc _).alloc _)
    · first | exact Bk.drew (Bk.newAt (by simp)) | exact Bk.drew ((Bk.newAt (by simp)).alloc _) | exact Bk.drew (((Bk.newAt (by simp)).alloc _).alloc _)
    · first | exact Bk.drew (Bk.newAt (by simp)) | exact Bk.drew ((Bk.newAt (by simp)).alloc _) | exact Bk.drew (((Bk.newAt (by simp)).alloc _).alloc _)
    · exact Only.drew ((((((Only.refl [] w).alloc _).alloc _).alloc _).alloc _).alloc _)
theorem rnew_yes (n : Nat) (w : World) (h1 : 1 ≤ n) (h2 : n ≤ 256) : Calls Try.prog 19 #[.int .i64 n] w fun e w' => ∃ v1 v2 v3, e = .returned (.tuple #[.agg (rtC n v1 v2 v3), .int .i64 0]) ∧ RT w' v1 v2 v3 (zeroT n) ∧ Only [] w w' := by
  refine (rnew_own n w h1 h2).mono ?_
  rintro e w' ⟨v1, v2, v3, rfl, ⟨x1, x2, x3⟩, o⟩
  exact ⟨v1, v2, v3, rfl, ⟨x1.low (Nat.zero_le _), x2.low (Nat.zero_le _), x3.low (Nat.zero_le _)⟩, o⟩
end Go.Proofs.Ytlidnlcmnkagaaa
