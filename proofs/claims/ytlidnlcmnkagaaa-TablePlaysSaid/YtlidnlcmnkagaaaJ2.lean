/- The program's table in memory; given, of, New, find. -/
import Derived.Test.YtlidnlcmnkagaaaJ1
import Derived.Test.YtlidnlcmnkagaaaS3
import Derived.StillTailTactics
import Derived.Deep.RegionLaw
import Derived.LaidEqlPtr
namespace Go.Proofs.Ytlidnlcmnkagaaa
open Go.RowKit
set_option maxRecDepth 20000

theorem flat_set {α : Type} (K : Sk α) {u : Value} {x x' : α} {j : Nat} (he : (K.enc x).set j u = K.enc x') (hj : j < K.k) : ∀ {xs : List α} {i : Nat}, xs[i]? = some x → (xs.flatMap K.enc).set (i * K.k + j) u = (xs.set i x').flatMap K.enc
  | [], i, h => by simp at h
  | y :: r, 0, h => by
    simp at h
    subst h
    rw [List.flatMap_cons, List.set_cons_zero, List.flatMap_cons, Nat.zero_mul, Nat.zero_add, List.set_append_left _ _ (by rw [K.henc]; exact hj), he]
  | y :: r, i + 1, h => by
    rw [List.flatMap_cons, List.set_cons_succ, List.flatMap_cons, List.set_append_right _ _ (by rw [K.henc, Nat.succ_mul]; omega), K.henc, show (i + 1) * K.k + j - K.k = i * K.k + j by rw [Nat.succ_mul]; omega, flat_set K he hj (by simpa using h)]
/-- One cell of one thing of a row turned. -/
theorem OwnS.put {α : Type} {K : Sk α} {w : World} {base g n cap : Nat} {xs : List α} (h : OwnS K w base (.slice (some ⟨g, 0, none⟩) n cap) xs) {i j : Nat} {x : α} (x' : α) (hx : xs[i]? = some x) (u : Value) (hj : j < K.k) (he : (K.enc x).set j u = K.enc x') {q : Nat} (hq : q = i * K.k + j) :
    OwnS K (w.setCell ⟨g, q, none⟩ u) base (.slice (some ⟨g, 0, none⟩) n cap) (xs.set i x') := by
  subst hq
  refine ⟨by rw [← flat_set K he hj hx, List.length_set, List.length_set]; exact h.1, ?_⟩
  rcases h.2 with ⟨hv, _⟩ | ⟨g', cap', cur, hv, hb, hg', h1, h2, h3, hx'⟩
  · cases hv
  · injection hv with k1 k2 k3
    injection k1 with k1
    injection k1 with k1
    subst k1 k2 k3
    refine .inr ⟨g, cap, cur.setIfInBounds (i * K.k + j) u, by rw [List.length_set], hb, Bk.set (t := K.e) (cs := cur) hg' (i * K.k + j) u, by rw [List.length_set]; exact h1, h2, by rw [Array.size_setIfInBounds]; exact h3, ?_⟩
    rw [Array.toList_setIfInBounds, List.take_set, List.length_set, hx', flat_set K he hj hx]
theorem OwnS.at_ {α : Type} {K : Sk α} {w : World} {base g n cap : Nat} {xs : List α} (h : OwnS K w base (.slice (some ⟨g, 0, none⟩) n cap) xs) {i : Nat} {x : α} (hx : xs[i]? = some x) {j : Nat} {v : Value} (hv : (K.enc x)[j]? = some v) {q : Nat} (hq : q = i * K.k + j) : w.cell? ⟨g, q, none⟩ = some v := by
  obtain ⟨A, cap', e, _, _, hr, _⟩ := h.form
  injection e with e1 e2 e3
  subst e1 hq
  obtain ⟨bl, off, e4, _, hc⟩ := hr.form (Nat.lt_of_le_of_lt (Nat.zero_le _) (List.getElem?_eq_some_iff.1 hx).1)
  injection e4 with e4
  injection e4 with e4 e5
  subst e4 e5
  have := hc i x hx j v hv
  rwa [Nat.zero_add] at this
theorem OwnS.free_ {α : Type} {K : Sk α} {w : World} {base g n cap : Nat} {xs : List α} (h : OwnS K w base (.slice (some ⟨g, 0, none⟩) n cap) xs) (j : Nat) : w.frozen? ⟨g, j, none⟩ = false := by
  have e : n = xs.length := by
    obtain ⟨A, cap', e, _⟩ := h.form
    injection e
  subst e
  exact RwS.free h.rw_ j
theorem OwnS.obj {α : Type} {K : Sk α} {w : World} {base g n cap : Nat} {xs : List α} (h : OwnS K w base (.slice (some ⟨g, 0, none⟩) n cap) xs) : ∃ cur, Bk w g K.e cur := by
  rcases h.2 with ⟨hv, _⟩ | ⟨g', cap', cur, hv, hb, hg', _⟩
  · cases hv
  · injection hv with h1 h2 h3
    injection h1 with h1
    injection h1 with h1
    subst h1
    exact ⟨cur, hg'⟩

abbrev ptA (b : Nat) : Value := .pointer (some ⟨b, 0, none⟩)
abbrev tabC (b g mb n cap : Nat) : Array Value := #[ptA b, .slice (some ⟨g, 0, none⟩) n cap, mapV mb]
/-- The program's table at block b, its places at g, its names at mb. -/
structure TRep (w : World) (b g mb cap : Nat) (T : List Pl) : Prop where
  blk : Bk w b 83 (tabC b g mb T.length cap)
  row : OwnS KL w 0 (.slice (some ⟨g, 0, none⟩) T.length cap) T
  map : MapIs w mb (whereF T)
  ok : TOk T
theorem TRep.gb {w : World} {b g mb cap : Nat} {T : List Pl} (h : TRep w b g mb cap T) : g ≠ b := by
  obtain ⟨cur, hc⟩ := h.row.obj
  exact hc.apart h.blk (by decide +kernel)
theorem TRep.mg {w : World} {b g mb cap : Nat} {T : List Pl} (h : TRep w b g mb cap T) : mb ≠ g := by
  obtain ⟨cur, hc⟩ := h.row.obj
  exact h.map.apart hc
theorem TRep.mb_ {w : World} {b g mb cap : Nat} {T : List Pl} (h : TRep w b g mb cap T) : mb ≠ b := h.map.apart h.blk
theorem TRep.glt {w : World} {b g mb cap : Nat} {T : List Pl} (h : TRep w b g mb cap T) : g < w.heap.size := by
  obtain ⟨cur, hc⟩ := h.row.obj
  exact hc.lt
theorem TRep.only {w w' : World} {b g mb cap : Nat} {T : List Pl} {S : List Nat} (h : TRep w b g mb cap T) (o : Only S w w') (h1 : b ∉ S) (h2 : g ∉ S) (h3 : mb ∉ S) : TRep w' b g mb cap T :=
  ⟨h.blk.only o h1, h.row.only o (fun g' e => by
    injection e with e
    subst e
    exact h2), h.map.only o h3, h.ok⟩
theorem TRep.caps {w : World} {b g mb cap : Nat} {T : List Pl} (h : TRep w b g mb cap T) : T.length ≤ cap ∧ cap ≤ 9223372036854775807 := by
  obtain ⟨A, cap', e, h1, h2, _⟩ := h.row.form
  injection e with e1 e2 e3
  subst e3
  exact ⟨h1, by simpa [maxLen] using h2⟩

@[go_sem high] theorem tab_self (b : Nat) (w : World) : (binOp .eql 24 (ptA b) (ptA b)).run Try.prog w = .ok (.bool true) w :=
  run_eql_ptr_same (j := (Try.prog.info? 83).getD default) _ _ Try.underlying24 (by kernel_rfl)
set_option maxHeartbeats 1000000 in
theorem given_any {w : World} {b g mb cap : Nat} {T : List Pl} (h : TRep w b g mb cap T) : Calls Try.prog 36 #[ptA b] w fun e w' => e = .returned (.bool true) ∧ w = w' := by
  have c0 := h.blk.cell0 (i := 0) rfl
  clear h
  go_enter Try.func36, Try.ntmps36
  go_wp2_with fail
  go_ret
  exact ⟨rfl, rfl⟩
set_option maxHeartbeats 1000000 in
theorem given_nil (w : World) : Calls Try.prog 36 #[.pointer none] w fun e w' => e = .returned (.bool false) ∧ w = w' := by
  go_enter Try.func36, Try.ntmps36
  go_wp2_with fail
  go_ret
  exact ⟨rfl, rfl⟩
theorem Calls.drew0 {P : Program} {f : Nat} {args : Array Value} {w : World} {v : Value} (h : ∀ w, Calls P f args w fun e w' => e = .returned v ∧ w = w') : Calls P f args w fun e w' => e = .returned v ∧ w = w' := h w

set_option maxHeartbeats 1000000 in
theorem of_any (w : World) (g mb n cap : Nat) : Calls Try.prog 40 #[.slice (some ⟨g, 0, none⟩) n cap, mapV mb] w fun e w' => e = .returned (ptA w.heap.size) ∧ Bk w' w.heap.size 83 (tabC w.heap.size g mb n cap) ∧ Only [] w w' := by
  go_enter Try.func40, Try.ntmps40
  go_wp2_with fail
  go_ret
  exact ⟨rfl, Bk.made w _ _, (Only.refl [] w).alloc _⟩
end Go.Proofs.Ytlidnlcmnkagaaa
