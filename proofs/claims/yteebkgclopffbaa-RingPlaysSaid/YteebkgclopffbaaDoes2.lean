/- does: Pop, At, Take; and no call at all. -/
import Derived.Test.YteebkgclopffbaaDoes1
namespace Go.Proofs.Yteebkgclopffbaa
open Go.RowKit

/-- Where the ring went first. -/
theorem does_end3 {w W0 w1 w2 : World} {S : List Nat} {b : Nat} {A A' : Option Nat} {room : Nat} {xs0 xs : List Int} {Aw Aw' : Option Addr} {cap0 cap : Nat} (p : DoesPre w b A room xs0 Aw cap0) (o0 : Only [] w W0) (hsz : w.heap.size + 3 ≤ W0.heap.size)
    (r : Ring w1 b A' room xs) (n : NewA W0 A A') (o1 : Only (b :: A.toList) W0 w1) (o2 : Only S w1 w2) (hS : ∀ k ∈ S, w.heap.size + 3 ≤ k ∧ A' ≠ some k) (rd : Rd w2 Aw' xs) (h1 : xs.length ≤ cap) (h2 : cap ≤ maxLen)
    (hl : ∀ bl off, Aw' = some ⟨bl, off, none⟩ → (Aw = some ⟨bl, off, none⟩ ∧ xs = xs0) ∨ w1.heap.size ≤ bl) (u v : Value) :
    DoesPost w b A room xs0 Aw (.returned (.tuple #[.agg #[.int .i64 room, .slice Aw' xs.length cap], .bool true])) ((w2.setCell ⟨w.heap.size + 2, 0, none⟩ u).setCell ⟨w.heap.size + 2, 1, none⟩ v) := by
  have os : Only [w.heap.size + 2] w2 ((w2.setCell ⟨w.heap.size + 2, 0, none⟩ u).setCell ⟨w.heap.size + 2, 1, none⟩ v) := ((Only.refl [w.heap.size + 2] w2).set (.inl (by simp)) _).set (.inl (by simp)) _
  have hb := p.ring.lt
  have hA := p.ring.ltA
  have hb1 := r.lt
  have hA1 := r.ltA
  have hA' : ∀ g, A' = some g → A = some g ∨ W0.heap.size ≤ g := by
    intro g hg
    rcases n with n | ⟨g', n, n2⟩
    · exact .inl (by rw [← n]; exact hg)
    · rw [n] at hg
      injection hg with hg
      subst hg
      exact .inr n2
  have key : xs ≠ [] → ∀ bl off, Aw' = some ⟨bl, off, none⟩ → ((Aw = some ⟨bl, off, none⟩ ∧ xs0 ≠ []) ∨ w.heap.size ≤ bl) ∧ bl ∉ b :: A'.toList ∧ bl ≠ w.heap.size + 2 := by
    intro hx bl off e
    have hs1 := o1.size
    rcases hl bl off e with ⟨h3, h4⟩ | h3
    · subst h4
      have h5 := p.rd.lt hx bl off h3
      have h6 := p.away hx bl off h3
      refine ⟨.inl ⟨h3, hx⟩, ?_, by omega⟩
      simp only [List.mem_cons, Option.mem_toList, not_or] at h6 ⊢
      refine ⟨h6.1, fun hm => ?_⟩
      rcases hA' bl (by simpa using hm) with h7 | h7
      · exact h6.2 (by simpa using h7)
      · omega
    · refine ⟨.inr (by omega), ?_, by omega⟩
      simp only [List.mem_cons, Option.mem_toList, not_or]
      refine ⟨by omega, fun hm => ?_⟩
      have := hA1 bl (by simpa using hm)
      omega
  refine ⟨xs, A', Aw', cap, rfl, h1, h2, (r.only o2 (fun hm => by have := (hS b hm).1; omega) (fun g hg hm => (hS g hm).2 hg)).only os ?_ ?_, ?_, ?_, ?_, fun hx bl off e => ⟨(key hx bl off e).1, (key hx bl off e).2.1⟩⟩
  · simp only [List.mem_cons, List.not_mem_nil, or_false]
    omega
  · intro g hg
    simp only [List.mem_cons, List.not_mem_nil, or_false]
    rcases hA' g hg with h3 | h3
    · have := hA g h3
      omega
    · omega
  · rcases n with n | ⟨g', n, n2⟩
    · exact .inl n
    · exact .inr ⟨g', n, by omega⟩
  · exact (((o0.more (T := b :: A.toList) (by simp)).trans o1 (fun i hi => .inl hi)).trans o2 (fun i hi => .inr (by have := (hS i hi).1; omega))).trans os (by simp)
  · refine rd.only os (fun hx bl off e => ?_)
    have := (key hx bl off e).2.2
    simp only [List.mem_cons, List.not_mem_nil, or_false]
    exact this

theorem does_end2 {w W0 w1 w2 : World} {b : Nat} {A A' : Option Nat} {room : Nat} {xs0 xs : List Int} {Aw Aw' : Option Addr} {cap0 cap : Nat} (p : DoesPre w b A room xs0 Aw cap0) (o0 : Only [] w W0) (hsz : w.heap.size + 3 ≤ W0.heap.size)
    (r : Ring w1 b A' room xs) (n : NewA W0 A A') (o1 : Only (b :: A.toList) W0 w1) (o2 : Only [] w1 w2) (rd : Rd w2 Aw' xs) (h1 : xs.length ≤ cap) (h2 : cap ≤ maxLen)
    (hl : ∀ bl off, Aw' = some ⟨bl, off, none⟩ → (Aw = some ⟨bl, off, none⟩ ∧ xs = xs0) ∨ w1.heap.size ≤ bl) (u v : Value) :
    DoesPost w b A room xs0 Aw (.returned (.tuple #[.agg #[.int .i64 room, .slice Aw' xs.length cap], .bool true])) ((w2.setCell ⟨w.heap.size + 2, 0, none⟩ u).setCell ⟨w.heap.size + 2, 1, none⟩ v) :=
  does_end3 p o0 hsz r n o1 o2 (by simp) rd h1 h2 hl u v

theorem DoesPre.rdAt {w W0 w1 : World} {b : Nat} {A : Option Nat} {room : Nat} {xs : List Int} {Aw : Option Addr} {cap : Nat} (p : DoesPre w b A room xs Aw cap) (o0 : Only [] w W0) (o1 : Only (b :: A.toList) W0 w1) : Rd w1 Aw xs :=
  (p.rd.only o0 (by simp)).only o1 (fun hx bl off e => p.away hx bl off e)
/-- A box of the call's own is no part of the ring. -/
theorem DoesPre.boxAway {w : World} {b : Nat} {A : Option Nat} {room : Nat} {xs : List Int} {Aw : Option Addr} {cap G : Nat} (p : DoesPre w b A room xs Aw cap) (h : w.heap.size ≤ G) : G ∉ b :: A.toList := by
  have hb := p.ring.lt
  simp only [List.mem_cons, Option.mem_toList, not_or]
  exact ⟨by omega, fun hm => by have := p.ring.ltA _ (by simpa using hm); omega⟩

theorem does_same {w w' : World} {b : Nat} {A : Option Nat} {room : Nat} {xs : List Int} {Aw : Option Addr} {cap : Nat} (p : DoesPre w b A room xs Aw cap) (o : Only [] w w') :
    DoesPost w b A room xs Aw (.returned (.tuple #[.agg #[.int .i64 room, .slice Aw xs.length cap], .bool true])) w' :=
  ⟨xs, A, Aw, cap, rfl, p.c1, p.c2, p.ring.only o (by simp) (by simp), .inl rfl, o.more (by simp), p.rd.only o (by simp), fun hx bl off e => ⟨.inl ⟨e, hx⟩, p.away hx bl off e⟩⟩

set_option maxRecDepth 100000 in
set_option maxHeartbeats 4000000 in
theorem does_pop {w : World} {b : Nat} {A : Option Nat} {room : Nat} {xs : List Int} {Aw : Option Addr} {cap : Nat} (p : DoesPre w b A room xs Aw cap) (n : Int) (Al : Option Addr) (m capl : Nat) :
    Calls Try.prog 11 #[.pointer (some ⟨b, 0, none⟩), .agg #[.int .i64 room, .slice Aw xs.length cap], .agg #[.int .i64 2, .int .i64 n, .slice Al m capl]] w (DoesPost w b A room xs Aw) := by
  obtain ⟨bx, bo, br, o0, hsz⟩ := box3_facts w room Aw xs.length cap 2 n Al m capl
  have P := Lib.hid p
  have RG := Lib.hid (ring_pop (p.ring.only o0 (by simp) (by simp)))
  have HBX := Lib.hid bx
  have HBR := Lib.hid br
  have HO := Lib.hid o0
  clear bx bo br o0 p
  unfold box3 at HBX HBR HO RG hsz
  go_enter Try.func11, Try.ntmps11
  go_wp2_with fail
  generalize (((w.alloc (.cells #[.int .i64 room, .slice Aw xs.length cap] 29)).alloc (.cells #[.int .i64 2, .int .i64 n, .slice Al m capl] 36)).alloc (.cells #[.int .i64 0, .slice none 0 0] 29)) = W0 at *
  (with_reducible refine RG.out.mono ?_)
  rintro e w1 ⟨rfl, A', r1, n1, o1⟩
  have k0 : w1.cell? ⟨w.heap.size, 0, none⟩ = some (.int .i64 room) := (HBX.out.only o1 (P.out.boxAway (Nat.le_refl _))).cell0 rfl
  have k1 : w1.cell? ⟨w.heap.size, 1, none⟩ = some (.slice Aw xs.length cap) := (HBX.out.only o1 (P.out.boxAway (Nat.le_refl _))).cell0 rfl
  have HBR1 := Lib.hid (HBR.out.only o1 (P.out.boxAway (by omega)))
  have RF := Lib.hid (ref_pop room Aw xs cap P.out.r1 (P.out.rdAt HO.out o1) (Nat.le_trans P.out.ring.len P.out.ring.top) P.out.c1 P.out.c2)
  have R1 := Lib.hid r1
  have N1 := Lib.hid n1
  have O1 := Lib.hid o1
  clear r1 n1 o1
  go_wp2_with fail
  (with_reducible refine RF.out.mono ?_)
  rintro e w2 ⟨v, rfl, Aw', cap', rfl, h1, h2, h3, h4, h5⟩
  have s0 : w2.cell? ⟨w.heap.size + 2, 0, none⟩ = some (.int .i64 0) := (HBR1.out.only h5 (by simp)).cell0 rfl
  have s1 : w2.cell? ⟨w.heap.size + 2, 1, none⟩ = some (.slice none 0 0) := (HBR1.out.only h5 (by simp)).cell0 rfl
  have HBR2 := Lib.hid ((HBR1.out.only h5 (by simp)).alloc (.cells #[.int .i64 room, .slice Aw' (takeList xs 0).length cap'] 29))
  have H3 := Lib.hid h3
  have H4 := Lib.hid h4
  have H5 := Lib.hid h5
  have hv1 : (atVal xs 0 == atVal xs 0) = true := by simp
  have hv2 : (atErr xs 0 == atErr xs 0) = true := by simp
  have hlt2 : w.heap.size + 3 ≤ w2.heap.size := Nat.le_trans hsz (Nat.le_trans O1.out.size h5.size)
  clear h3 h4 h5
  have t0 : ∀ o : Obj, (w2.alloc o).cell? ⟨w.heap.size + 1 + 1, 0, none⟩ = some (.int .i64 0) := fun o => (World.cell?_alloc_lt _ _ _ (by show w.heap.size + 1 + 1 < w2.heap.size; omega)).trans s0
  have t1 : ∀ o : Obj, (w2.alloc o).cell? ⟨w.heap.size + 1 + 1, 1, none⟩ = some (.slice none 0 0) := fun o => (World.cell?_alloc_lt _ _ _ (by show w.heap.size + 1 + 1 < w2.heap.size; omega)).trans s1
  have u0 := HBR2.out.free 0
  have u1 := HBR2.out.free 1
  generalize atVal xs 0 = av at *
  generalize atErr xs 0 = ae at *
  generalize takeList xs 0 = xs' at *
  go_wp2
  refine bodyPost_ret (v := .tuple #[.agg #[.int .i64 room, .slice Aw' xs'.length cap'], .bool true]) (by simp [results, Try.results11, go_sem, t0, t1]) rfl ?_
  exact does_end2 P.out HO.out hsz R1.out N1.out O1.out (H5.out.alloc _) (H3.out.only ((Only.refl [] _).alloc _) (by simp)) h1 h2 H4.out _ _

set_option maxRecDepth 100000 in
set_option maxHeartbeats 4000000 in
theorem does_take {w : World} {b : Nat} {A : Option Nat} {room : Nat} {xs : List Int} {Aw : Option Addr} {cap : Nat} (p : DoesPre w b A room xs Aw cap) (n : Int) (Al : Option Addr) (m capl : Nat) :
    Calls Try.prog 11 #[.pointer (some ⟨b, 0, none⟩), .agg #[.int .i64 room, .slice Aw xs.length cap], .agg #[.int .i64 4, .int .i64 n, .slice Al m capl]] w (DoesPost w b A room xs Aw) := by
  obtain ⟨bx, bo, br, o0, hsz⟩ := box3_facts w room Aw xs.length cap 4 n Al m capl
  have P := Lib.hid p
  have RG := Lib.hid (ring_take (p.ring.only o0 (by simp) (by simp)) n)
  have HBX := Lib.hid bx
  have HBO := Lib.hid bo
  have HBR := Lib.hid br
  have HO := Lib.hid o0
  clear bx bo br o0 p
  unfold box3 at HBX HBO HBR HO RG hsz
  go_enter Try.func11, Try.ntmps11
  go_wp2_with fail
  have kn0 := HBO.out.cell0 (i := 1) rfl
  generalize (((w.alloc (.cells #[.int .i64 room, .slice Aw xs.length cap] 29)).alloc (.cells #[.int .i64 4, .int .i64 n, .slice Al m capl] 36)).alloc (.cells #[.int .i64 0, .slice none 0 0] 29)) = W0 at *
  (with_reducible refine RG.out.mono ?_)
  rintro e w1 ⟨rfl, A', r1, n1, o1⟩
  have kn : w1.cell? ⟨w.heap.size + 1, 1, none⟩ = some (.int .i64 n) := (HBO.out.only o1 (P.out.boxAway (by omega))).cell0 rfl
  have k0 : w1.cell? ⟨w.heap.size, 0, none⟩ = some (.int .i64 room) := (HBX.out.only o1 (P.out.boxAway (Nat.le_refl _))).cell0 rfl
  have k1 : w1.cell? ⟨w.heap.size, 1, none⟩ = some (.slice Aw xs.length cap) := (HBX.out.only o1 (P.out.boxAway (Nat.le_refl _))).cell0 rfl
  have HBR1 := Lib.hid (HBR.out.only o1 (P.out.boxAway (by omega)))
  have RF := Lib.hid (ref_take room Aw xs cap n P.out.r1 (P.out.rdAt HO.out o1) (Nat.le_trans P.out.ring.len P.out.ring.top) P.out.c1 P.out.c2)
  have R1 := Lib.hid r1
  have N1 := Lib.hid n1
  have O1 := Lib.hid o1
  clear r1 n1 o1
  go_wp2_with fail
  (with_reducible refine RF.out.mono ?_)
  rintro e w2 ⟨v, rfl, Aw', cap', rfl, h1, h2, h3, h4, h5⟩
  have s0 : w2.cell? ⟨w.heap.size + 2, 0, none⟩ = some (.int .i64 0) := (HBR1.out.only h5 (by simp)).cell0 rfl
  have s1 : w2.cell? ⟨w.heap.size + 2, 1, none⟩ = some (.slice none 0 0) := (HBR1.out.only h5 (by simp)).cell0 rfl
  have HBR2 := Lib.hid ((HBR1.out.only h5 (by simp)).alloc (.cells #[.int .i64 room, .slice Aw' (takeList xs n).length cap'] 29))
  have H3 := Lib.hid h3
  have H4 := Lib.hid h4
  have H5 := Lib.hid h5
  have hv1 : (atVal xs n == atVal xs n) = true := by simp
  have hv2 : (atErr xs n == atErr xs n) = true := by simp
  have hlt2 : w.heap.size + 3 ≤ w2.heap.size := Nat.le_trans hsz (Nat.le_trans O1.out.size h5.size)
  clear h3 h4 h5
  have t0 : ∀ o : Obj, (w2.alloc o).cell? ⟨w.heap.size + 1 + 1, 0, none⟩ = some (.int .i64 0) := fun o => (World.cell?_alloc_lt _ _ _ (by show w.heap.size + 1 + 1 < w2.heap.size; omega)).trans s0
  have t1 : ∀ o : Obj, (w2.alloc o).cell? ⟨w.heap.size + 1 + 1, 1, none⟩ = some (.slice none 0 0) := fun o => (World.cell?_alloc_lt _ _ _ (by show w.heap.size + 1 + 1 < w2.heap.size; omega)).trans s1
  have u0 := HBR2.out.free 0
  have u1 := HBR2.out.free 1
  generalize atVal xs n = av at *
  generalize atErr xs n = ae at *
  generalize takeList xs n = xs' at *
  go_wp2
  refine bodyPost_ret (v := .tuple #[.agg #[.int .i64 room, .slice Aw' xs'.length cap'], .bool true]) (by simp [results, Try.results11, go_sem, t0, t1]) rfl ?_
  exact does_end2 P.out HO.out hsz R1.out N1.out O1.out (H5.out.alloc _) (H3.out.only ((Only.refl [] _).alloc _) (by simp)) h1 h2 H4.out _ _

set_option maxRecDepth 100000 in
set_option maxHeartbeats 4000000 in
theorem does_at {w : World} {b : Nat} {A : Option Nat} {room : Nat} {xs : List Int} {Aw : Option Addr} {cap : Nat} (p : DoesPre w b A room xs Aw cap) (n : Int) (Al : Option Addr) (m capl : Nat) :
    Calls Try.prog 11 #[.pointer (some ⟨b, 0, none⟩), .agg #[.int .i64 room, .slice Aw xs.length cap], .agg #[.int .i64 3, .int .i64 n, .slice Al m capl]] w (DoesPost w b A room xs Aw) := by
  obtain ⟨bx, bo, br, o0, hsz⟩ := box3_facts w room Aw xs.length cap 3 n Al m capl
  have P := Lib.hid p
  have RG := Lib.hid (ring_at (p.ring.only o0 (by simp) (by simp)) n)
  have HBX := Lib.hid bx
  have HBO := Lib.hid bo
  have HBR := Lib.hid br
  have HO := Lib.hid o0
  clear bx bo br o0 p
  unfold box3 at HBX HBO HBR HO RG hsz
  go_enter Try.func11, Try.ntmps11
  go_wp2_with fail
  have kn0 := HBO.out.cell0 (i := 1) rfl
  generalize (((w.alloc (.cells #[.int .i64 room, .slice Aw xs.length cap] 29)).alloc (.cells #[.int .i64 3, .int .i64 n, .slice Al m capl] 36)).alloc (.cells #[.int .i64 0, .slice none 0 0] 29)) = W0 at *
  (with_reducible refine RG.out.mono ?_)
  rintro e w1 ⟨rfl, A', r1, n1, o1⟩
  have kn : w1.cell? ⟨w.heap.size + 1, 1, none⟩ = some (.int .i64 n) := (HBO.out.only o1 (P.out.boxAway (by omega))).cell0 rfl
  have k0 : w1.cell? ⟨w.heap.size, 0, none⟩ = some (.int .i64 room) := (HBX.out.only o1 (P.out.boxAway (Nat.le_refl _))).cell0 rfl
  have k1 : w1.cell? ⟨w.heap.size, 1, none⟩ = some (.slice Aw xs.length cap) := (HBX.out.only o1 (P.out.boxAway (Nat.le_refl _))).cell0 rfl
  have HBX1 := Lib.hid (HBX.out.only o1 (P.out.boxAway (Nat.le_refl _)))
  have HBR1 := Lib.hid (HBR.out.only o1 (P.out.boxAway (by omega)))
  have RF := Lib.hid (ref_at room Aw xs cap n P.out.r1 (P.out.rdAt HO.out o1) (Nat.le_trans P.out.ring.len P.out.ring.top))
  have R1 := Lib.hid r1
  have N1 := Lib.hid n1
  have O1 := Lib.hid o1
  clear r1 n1 o1
  go_wp2_with fail
  (with_reducible refine RF.out.mono ?_)
  rintro e w2 ⟨rfl, h5⟩
  have hRW := P.out.rdAt HO.out O1.out
  have c0 : w2.cell? ⟨w.heap.size, 0, none⟩ = some (.int .i64 room) := (HBX1.out.only h5 (by simp)).cell0 rfl
  have c1 : w2.cell? ⟨w.heap.size, 1, none⟩ = some (.slice Aw xs.length cap) := (HBX1.out.only h5 (by simp)).cell0 rfl
  have t0 : w2.cell? ⟨w.heap.size + 1 + 1, 0, none⟩ = some (.int .i64 0) := (HBR1.out.only h5 (by simp)).cell0 rfl
  have t1 : w2.cell? ⟨w.heap.size + 1 + 1, 1, none⟩ = some (.slice none 0 0) := (HBR1.out.only h5 (by simp)).cell0 rfl
  have u0 := (HBR1.out.only h5 (by simp)).free 0
  have u1 := (HBR1.out.only h5 (by simp)).free 1
  have HRW := Lib.hid (hRW.only h5 (by simp))
  have H5 := Lib.hid h5
  have hv1 : (atVal xs n == atVal xs n) = true := by simp
  have hv2 : (atErr xs n == atErr xs n) = true := by simp
  clear h5 hRW
  generalize atVal xs n = av at *
  generalize atErr xs n = ae at *
  go_wp2
  refine bodyPost_ret (v := .tuple #[.agg #[.int .i64 room, .slice Aw xs.length cap], .bool true]) (by simp [results, Try.results11, go_sem, t0, t1]) rfl ?_
  exact does_end2 P.out HO.out hsz R1.out N1.out O1.out H5.out HRW.out P.out.c1 P.out.c2 (fun bl off e => .inl ⟨e, rfl⟩) _ _

set_option maxRecDepth 100000 in
set_option maxHeartbeats 4000000 in
theorem does_none {w : World} {b : Nat} {A : Option Nat} {room : Nat} {xs : List Int} {Aw : Option Addr} {cap : Nat} (p : DoesPre w b A room xs Aw cap) (kind n : Int) (Al : Option Addr) (m capl : Nat) (hk : ¬ (1 ≤ kind ∧ kind ≤ 6)) :
    Calls Try.prog 11 #[.pointer (some ⟨b, 0, none⟩), .agg #[.int .i64 room, .slice Aw xs.length cap], .agg #[.int .i64 kind, .int .i64 n, .slice Al m capl]] w (DoesPost w b A room xs Aw) := by
  obtain ⟨bx, bo, br, o0, hsz⟩ := box3_facts w room Aw xs.length cap kind n Al m capl
  have P := Lib.hid p
  have e1 : (kind == 1) = false := by simp; omega
  have e2 : (kind == 2) = false := by simp; omega
  have e3 : (kind == 3) = false := by simp; omega
  have e4 : (kind == 4) = false := by simp; omega
  have e5 : (kind == 5) = false := by simp; omega
  have e6 : (kind == 6) = false := by simp; omega
  clear bx bo br o0 p hk hsz
  go_enter Try.func11, Try.ntmps11
  go_wp2
  refine bodyPost_ret (v := .tuple #[.agg #[.int .i64 room, .slice Aw xs.length cap], .bool true]) (by simp [results, Try.results11, go_sem]) rfl ?_
  exact does_same P.out (((Only.refl _ _).alloc _).alloc _ |>.alloc _)

end Go.Proofs.Yteebkgclopffbaa
