/- Two rings and their documents side by side. -/
import Derived.Test.YteebkgclopffbaaIs
namespace Go.Proofs.Yteebkgclopffbaa
open Go.RowKit

/-- A ring of the call's own and, in the variable W, the document's, alike. -/
structure Side (w0 wr : World) (b : Nat) (A : Option Nat) (room : Nat) (xs : List Int) (Aw : Option Addr) (cap W : Nat) : Prop where
  ring : Ring wr b A room xs
  rb : w0.heap.size ≤ b
  rA : ∀ g, A = some g → w0.heap.size ≤ g
  box : Bk wr W 29 #[.int .i64 room, .slice Aw xs.length cap]
  bW : w0.heap.size ≤ W
  rd : Rd wr Aw xs
  c1 : xs.length ≤ cap
  c2 : cap ≤ maxLen
  away : xs ≠ [] → ∀ bl off, Aw = some ⟨bl, off, none⟩ → bl ∉ W :: b :: A.toList

/-- Two sides share nothing. -/
structure Two (b : Nat) (A : Option Nat) (xs : List Int) (Aw : Option Addr) (W b2 : Nat) (A2 : Option Nat) (ys : List Int) (Av : Option Addr) (V : Nat) : Prop where
  f : ∀ k ∈ W :: b :: A.toList, k ∉ V :: b2 :: A2.toList
  a12 : xs ≠ [] → ∀ bl off, Aw = some ⟨bl, off, none⟩ → bl ∉ V :: b2 :: A2.toList
  a21 : ys ≠ [] → ∀ bl off, Av = some ⟨bl, off, none⟩ → bl ∉ W :: b :: A.toList
theorem Two.symm {b : Nat} {A : Option Nat} {xs : List Int} {Aw : Option Addr} {W b2 : Nat} {A2 : Option Nat} {ys : List Int} {Av : Option Addr} {V : Nat} (t : Two b A xs Aw W b2 A2 ys Av V) : Two b2 A2 ys Av V b A xs Aw W :=
  ⟨fun k h2 h1 => t.f k h1 h2, t.a21, t.a12⟩

theorem Ring.boxNot {w : World} {b : Nat} {A : Option Nat} {room : Nat} {xs : List Int} {W : Nat} {cs : Array Value} (r : Ring w b A room xs) (h : Bk w W 29 cs) : W ∉ b :: A.toList := by
  obtain ⟨L, hh, c, r, rfl⟩ := r
  obtain ⟨cells, _, hs⟩ := r.sl
  simp only [List.mem_cons, Option.mem_toList, not_or]
  refine ⟨h.apart r.blk (by decide), fun hm => ?_⟩
  exact h.apart (hs W (by simpa using hm)) (by decide) rfl

section
variable {w0 wr w1 w2 : World} {b : Nat} {A : Option Nat} {room : Nat} {xs : List Int} {Aw : Option Addr} {cap W : Nat}
theorem Side.pre (s : Side w0 wr b A room xs Aw cap W) (h1 : 1 ≤ room) : DoesPre wr b A room xs Aw cap := ⟨s.ring, h1, s.rd, s.c1, s.c2, fun hx bl off e hm => s.away hx bl off e (List.mem_cons_of_mem _ hm)⟩
theorem Side.quiet (s : Side w0 wr b A room xs Aw cap W) (o : Only [] wr w1) : Side w0 w1 b A room xs Aw cap W :=
  ⟨s.ring.only o (by simp) (by simp), s.rb, s.rA, s.box.only o (by simp), s.bW, s.rd.only o (by simp), s.c1, s.c2, s.away⟩
theorem Side.drew (s : Side w0 wr b A room xs Aw cap W) : Side w0 wr.drew b A room xs Aw cap W := s.quiet (Only.refl _ _).drew
theorem Side.keep {S : List Nat} (s : Side w0 wr b A room xs Aw cap W) (o : Only S wr w1) (h1 : ∀ k ∈ W :: b :: A.toList, k ∉ S) (h3 : xs ≠ [] → ∀ bl off, Aw = some ⟨bl, off, none⟩ → bl ∉ S) : Side w0 w1 b A room xs Aw cap W :=
  ⟨s.ring.only o (h1 b (by simp)) (fun g hg => h1 g (by simp [hg])), s.rb, s.rA, s.box.only o (h1 W (by simp)), s.bW, s.rd.only o h3, s.c1, s.c2, s.away⟩

/-- What a store into W's two cells leaves. -/
def put2 (w : World) (W room : Nat) (Aw : Option Addr) (n cap : Nat) : World := (w.setCell ⟨W, 0, none⟩ (.int .i64 room)).setCell ⟨W, 1, none⟩ (.slice Aw n cap)
theorem put2_only (w : World) (W room : Nat) (Aw : Option Addr) (n cap : Nat) : Only [W] w (put2 w W room Aw n cap) := ((Only.refl [W] w).set (.inl (by simp)) _).set (.inl (by simp)) _
theorem put2_box {w : World} {W room : Nat} {u v : Value} (h : Bk w W 29 #[u, v]) (Aw : Option Addr) (n cap : Nat) : Bk (put2 w W room Aw n cap) W 29 #[.int .i64 room, .slice Aw n cap] := by
  have := (h.set 0 (.int .i64 room)).set 1 (.slice Aw n cap)
  simpa [put2] using this

theorem Side.step {A' : Option Nat} {xs' : List Int} {Aw' : Option Addr} {cap' : Nat} (s : Side w0 wr b A room xs Aw cap W) (ho : w0.heap.size ≤ wr.heap.size) (r : Ring w1 b A' room xs') (n : NewA wr A A') (o : Only (b :: A.toList) wr w1) (rd : Rd w1 Aw' xs') (h1 : xs'.length ≤ cap') (h2 : cap' ≤ maxLen)
    (loc : xs' ≠ [] → ∀ bl off, Aw' = some ⟨bl, off, none⟩ → ((Aw = some ⟨bl, off, none⟩ ∧ xs ≠ []) ∨ wr.heap.size ≤ bl) ∧ bl ∉ b :: A'.toList) (o2 : Only [] w1 w2) : Side w0 (put2 w2 W room Aw' xs'.length cap') b A' room xs' Aw' cap' W := by
  have hbox := (s.box.only o (s.ring.boxNot s.box)).only o2 (by simp)
  have r2 := r.only o2 (by simp) (by simp)
  have hnot := r2.boxNot hbox
  simp only [List.mem_cons, Option.mem_toList, not_or] at hnot
  refine ⟨r2.only (put2_only w2 W room Aw' xs'.length cap') (by simp; exact fun e => hnot.1 e.symm) (fun g hg => by simp; rintro rfl; exact hnot.2 (by simpa using hg)), s.rb, ?_, put2_box hbox Aw' xs'.length cap', s.bW, ?_, h1, h2, ?_⟩
  · intro g hg
    rcases n with n | ⟨g', n, n2⟩
    · exact s.rA g (by rw [← n]; exact hg)
    · rw [n] at hg
      injection hg with hg
      omega
  · refine (rd.only o2 (by simp)).only (put2_only w2 W room Aw' xs'.length cap') (fun hx bl off e => ?_)
    simp only [List.mem_cons, List.not_mem_nil, or_false]
    rintro rfl
    rcases (loc hx bl off e).1 with ⟨h3, h4⟩ | h3
    · exact s.away h4 bl off h3 (by simp)
    · have := s.box.lt
      omega
  · intro hx bl off e hm
    rcases List.mem_cons.1 hm with rfl | hm
    · rcases (loc hx bl off e).1 with ⟨h3, h4⟩ | h3
      · exact s.away h4 bl off h3 (by simp)
      · have := s.box.lt
        omega
    · exact (loc hx bl off e).2 hm

/-- The other side stays; the two still share nothing. -/
theorem Side.other {b2 : Nat} {A2 : Option Nat} {ys : List Int} {Av : Option Addr} {capv V : Nat} {A' : Option Nat} {xs' : List Int} {Aw' : Option Addr} {cap' : Nat} (s : Side w0 wr b A room xs Aw cap W) (s2 : Side w0 wr b2 A2 room ys Av capv V) (t : Two b A xs Aw W b2 A2 ys Av V)
    (n : NewA wr A A') (o : Only (b :: A.toList) wr w1) (loc : xs' ≠ [] → ∀ bl off, Aw' = some ⟨bl, off, none⟩ → ((Aw = some ⟨bl, off, none⟩ ∧ xs ≠ []) ∨ wr.heap.size ≤ bl) ∧ bl ∉ b :: A'.toList) (o2 : Only [] w1 w2) :
    Side w0 (put2 w2 W room Aw' xs'.length cap') b2 A2 room ys Av capv V ∧ Two b A' xs' Aw' W b2 A2 ys Av V := by
  have hf2 : ∀ k ∈ V :: b2 :: A2.toList, k < wr.heap.size := by
    intro k hk
    simp only [List.mem_cons, Option.mem_toList] at hk
    rcases hk with rfl | rfl | hk
    · exact s2.box.lt
    · exact s2.ring.lt
    · exact s2.ring.ltA k (by simpa using hk)
  refine ⟨?_, ⟨?_, ?_, ?_⟩⟩
  · refine ((s2.keep o (fun k hk hm => t.f k (List.mem_cons_of_mem _ hm) hk) (fun hy bl off e hm => t.a21 hy bl off e (List.mem_cons_of_mem _ hm))).quiet o2).keep (put2_only w2 W room Aw' xs'.length cap') (fun k hk hm => ?_) (fun hy bl off e hm => ?_)
    · simp only [List.mem_cons, List.not_mem_nil, or_false] at hm
      subst hm
      exact t.f k (by simp) hk
    · simp only [List.mem_cons, List.not_mem_nil, or_false] at hm
      subst hm
      exact t.a21 hy bl off e (by simp)
  · intro k hk hm
    simp only [List.mem_cons, Option.mem_toList] at hk
    rcases hk with rfl | rfl | hk
    · exact t.f k (by simp) hm
    · exact t.f k (by simp) hm
    · rcases n with n | ⟨g, n, n2⟩
      · exact t.f k (by rw [← n]; simp only [List.mem_cons, Option.mem_toList]; exact .inr (.inr hk)) hm
      · rw [n] at hk
        have : k = g := by simpa using hk.symm
        have := hf2 k hm
        omega
  · intro hx bl off e hm
    rcases (loc hx bl off e).1 with ⟨h3, h4⟩ | h3
    · exact t.a12 h4 bl off h3 hm
    · have := hf2 bl hm
      omega
  · intro hy bl off e hm
    simp only [List.mem_cons, Option.mem_toList] at hm
    rcases hm with rfl | rfl | hm
    · exact t.a21 hy bl off e (by simp)
    · exact t.a21 hy bl off e (by simp)
    · rcases n with n | ⟨g, n, n2⟩
      · exact t.a21 hy bl off e (by rw [← n]; simp only [List.mem_cons, Option.mem_toList]; exact .inr (.inr hm))
      · rw [n] at hm
        have : bl = g := by simpa using hm.symm
        have := s2.rd.lt hy bl off e
        omega
end

end Go.Proofs.Yteebkgclopffbaa
