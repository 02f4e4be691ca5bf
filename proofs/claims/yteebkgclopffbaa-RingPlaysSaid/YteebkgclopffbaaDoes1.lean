/- does, call by call: the frame, and Push. -/
import Derived.Test.YteebkgclopffbaaSteps
namespace Go.Proofs.Yteebkgclopffbaa
open Go.RowKit

/-- What does hands back: both sides have gone on alike. -/
def DoesPost (w : World) (b : Nat) (A : Option Nat) (room : Nat) (xs0 : List Int) (Aw : Option Addr) (e : Ending) (w' : World) : Prop :=
  ∃ xs A' Aw' cap, e = .returned (.tuple #[.agg #[.int .i64 room, .slice Aw' xs.length cap], .bool true]) ∧ xs.length ≤ cap ∧ cap ≤ maxLen ∧ Ring w' b A' room xs ∧ NewA w A A' ∧ Only (b :: A.toList) w w' ∧ Rd w' Aw' xs ∧
    (xs ≠ [] → ∀ bl off, Aw' = some ⟨bl, off, none⟩ → ((Aw = some ⟨bl, off, none⟩ ∧ xs0 ≠ []) ∨ w.heap.size ≤ bl) ∧ bl ∉ b :: A'.toList)

/-- What does is given. -/
structure DoesPre (w : World) (b : Nat) (A : Option Nat) (room : Nat) (xs : List Int) (Aw : Option Addr) (cap : Nat) : Prop where
  ring : Ring w b A room xs
  r1 : 1 ≤ room
  rd : Rd w Aw xs
  c1 : xs.length ≤ cap
  c2 : cap ≤ maxLen
  away : xs ≠ [] → ∀ bl off, Aw = some ⟨bl, off, none⟩ → bl ∉ b :: A.toList

theorem Rd.lt {w : World} {A : Option Addr} {xs : List Int} (h : Rd w A xs) (hx : xs ≠ []) : ∀ bl off, A = some ⟨bl, off, none⟩ → bl < w.heap.size := by
  intro bl off e
  rcases h with h | ⟨bl', off', e', hb, _⟩
  · exact absurd h hx
  · rw [e] at e'
    injection e' with e'
    injection e' with e1
    subst e1
    exact hb

theorem DoesPre.loc {w : World} {b : Nat} {A : Option Nat} {room : Nat} {xs0 xs : List Int} {Aw Aw' : Option Addr} {cap s : Nat} (p : DoesPre w b A room xs0 Aw cap)
    (h : ∀ bl off, Aw' = some ⟨bl, off, none⟩ → (Aw = some ⟨bl, off, none⟩ ∧ xs = xs0) ∨ s ≤ bl) (hs : w.heap.size + 3 ≤ s) :
    xs ≠ [] → ∀ bl off, Aw' = some ⟨bl, off, none⟩ → (Aw = some ⟨bl, off, none⟩ ∧ bl ∉ b :: A.toList ∧ bl < w.heap.size ∧ xs0 ≠ []) ∨ w.heap.size + 3 ≤ bl := by
  intro hx bl off e
  rcases h bl off e with ⟨h1, h2⟩ | h1
  · subst h2
    exact .inl ⟨h1, p.away hx bl off h1, p.rd.lt hx bl off h1, hx⟩
  · exact .inr (by omega)

/-- Where the document's side went first: at w2 its list is there; then the ring turned. -/
theorem does_end {w w2 w3 : World} {b : Nat} {A A' : Option Nat} {room : Nat} {xs0 xs : List Int} {Aw Aw' : Option Addr} {cap : Nat} (hb : b < w.heap.size) (hA : ∀ g, A = some g → g < w.heap.size)
    (o2 : Only [] w w2) (r : Ring w3 b A' room xs) (n : NewA w2 A A') (o3 : Only (b :: A.toList) w2 w3) (rd : Rd w2 Aw' xs) (h1 : xs.length ≤ cap) (h2 : cap ≤ maxLen)
    (hl : xs ≠ [] → ∀ bl off, Aw' = some ⟨bl, off, none⟩ → (Aw = some ⟨bl, off, none⟩ ∧ bl ∉ b :: A.toList ∧ bl < w.heap.size ∧ xs0 ≠ []) ∨ w.heap.size + 3 ≤ bl) (hsz : w.heap.size + 3 ≤ w2.heap.size) (u v : Value) :
    DoesPost w b A room xs0 Aw (.returned (.tuple #[.agg #[.int .i64 room, .slice Aw' xs.length cap], .bool true])) ((w3.setCell ⟨w.heap.size + 2, 0, none⟩ u).setCell ⟨w.heap.size + 2, 1, none⟩ v) := by
  have os : Only [w.heap.size + 2] w3 ((w3.setCell ⟨w.heap.size + 2, 0, none⟩ u).setCell ⟨w.heap.size + 2, 1, none⟩ v) := ((Only.refl [w.heap.size + 2] w3).set (.inl (by simp)) _).set (.inl (by simp)) _
  have key : xs ≠ [] → ∀ bl off, Aw' = some ⟨bl, off, none⟩ → ((Aw = some ⟨bl, off, none⟩ ∧ xs0 ≠ []) ∨ w.heap.size ≤ bl) ∧ bl ∉ b :: A.toList ∧ bl ∉ b :: A'.toList ∧ bl ≠ w.heap.size + 2 := by
    intro hx bl off e
    have hlt := rd.lt hx bl off e
    have hA' : ∀ g, A' = some g → A = some g ∨ w2.heap.size ≤ g := by
      intro g hg
      rcases n with n | ⟨g', n, n2⟩
      · exact .inl (by rw [← n]; exact hg)
      · rw [n] at hg
        injection hg with hg
        subst hg
        exact .inr n2
    rcases hl hx bl off e with ⟨h3, h4, h5, h6⟩ | h3
    · refine ⟨.inl ⟨h3, h6⟩, h4, ?_, by omega⟩
      simp only [List.mem_cons, Option.mem_toList, not_or] at h4 ⊢
      refine ⟨h4.1, fun hm => ?_⟩
      rcases hA' bl (by simpa using hm) with h7 | h7
      · exact h4.2 (by simpa using h7)
      · omega
    · refine ⟨.inr (by omega), ?_, ?_, by omega⟩
      · simp only [List.mem_cons, Option.mem_toList, not_or]
        refine ⟨by omega, fun hm => ?_⟩
        have := hA bl (by simpa using hm)
        omega
      · simp only [List.mem_cons, Option.mem_toList, not_or]
        refine ⟨by omega, fun hm => ?_⟩
        rcases hA' bl (by simpa using hm) with h6 | h6
        · have := hA bl h6
          omega
        · omega
  refine ⟨xs, A', Aw', cap, rfl, h1, h2, r.only os ?_ ?_, ?_, ?_, ?_, fun hx bl off e => ⟨(key hx bl off e).1, (key hx bl off e).2.2.1⟩⟩
  · simp only [List.mem_cons, List.not_mem_nil, or_false]
    omega
  · intro g hg
    simp only [List.mem_cons, List.not_mem_nil, or_false]
    rcases n with n | ⟨g', n, n2⟩
    · have := hA g (by rw [← n]; exact hg)
      omega
    · rw [n] at hg
      injection hg with hg
      omega
  · rcases n with n | ⟨g', n, n2⟩
    · exact .inl n
    · exact .inr ⟨g', n, by omega⟩
  · exact ((o2.more (T := b :: A.toList) (by simp)).trans o3 (fun i hi => .inl hi)).trans os (by simp)
  · refine (rd.only o3 (fun hx bl off e => (key hx bl off e).2.1)).only os (fun hx bl off e => ?_)
    have := (key hx bl off e).2.2.2
    simp only [List.mem_cons, List.not_mem_nil, or_false]
    exact this

/-- The boxes of does. -/
def box3 (w : World) (room : Nat) (A : Option Addr) (n cap : Nat) (kind k : Int) (Al : Option Addr) (m capl : Nat) : World :=
  ((w.alloc (.cells #[.int .i64 room, .slice A n cap] 29)).alloc (.cells #[.int .i64 kind, .int .i64 k, .slice Al m capl] 36)).alloc (.cells #[.int .i64 0, .slice none 0 0] 29)
theorem box3_facts (w : World) (room : Nat) (A : Option Addr) (n cap : Nat) (kind k : Int) (Al : Option Addr) (m capl : Nat) :
    Bk (box3 w room A n cap kind k Al m capl) w.heap.size 29 #[.int .i64 room, .slice A n cap] ∧ Bk (box3 w room A n cap kind k Al m capl) (w.heap.size + 1) 36 #[.int .i64 kind, .int .i64 k, .slice Al m capl] ∧
      Bk (box3 w room A n cap kind k Al m capl) (w.heap.size + 2) 29 #[.int .i64 0, .slice none 0 0] ∧ Only [] w (box3 w room A n cap kind k Al m capl) ∧ w.heap.size + 3 ≤ (box3 w room A n cap kind k Al m capl).heap.size := by
  refine ⟨((Bk.made _ _ _).alloc _).alloc _, ?_, ?_, (((Only.refl _ _).alloc _).alloc _).alloc _, by simp [box3]⟩
  · have := (Bk.made (w.alloc (.cells #[.int .i64 room, .slice A n cap] 29)) 36 #[.int .i64 kind, .int .i64 k, .slice Al m capl]).alloc (.cells #[.int .i64 0, .slice none 0 0] 29)
    simpa [box3] using this
  · have := Bk.made ((w.alloc (.cells #[.int .i64 room, .slice A n cap] 29)).alloc (.cells #[.int .i64 kind, .int .i64 k, .slice Al m capl] 36)) 29 #[.int .i64 0, .slice none 0 0]
    simpa [box3] using this

set_option maxRecDepth 100000 in
set_option maxHeartbeats 4000000 in
theorem does_push {w : World} {b : Nat} {A : Option Nat} {room : Nat} {xs : List Int} {Aw : Option Addr} {cap : Nat} (p : DoesPre w b A room xs Aw cap) (n : Int) (Al : Option Addr) (m capl : Nat) :
    Calls Try.prog 11 #[.pointer (some ⟨b, 0, none⟩), .agg #[.int .i64 room, .slice Aw xs.length cap], .agg #[.int .i64 1, .int .i64 n, .slice Al m capl]] w (DoesPost w b A room xs Aw) := by
  obtain ⟨bx, bo, br, o0, hsz⟩ := box3_facts w room Aw xs.length cap 1 n Al m capl
  have P := Lib.hid p
  have RP := Lib.hid (ref_push (w := box3 w room Aw xs.length cap 1 n Al m capl) room Aw xs cap n p.r1 p.ring.top (p.rd.only o0 (by simp)) p.c1 p.c2 p.ring.len)
  have HBO := Lib.hid bo
  have HBR := Lib.hid br
  have HO := Lib.hid o0
  clear bx bo br o0 p
  unfold box3 at HBO HBR HO RP hsz
  go_enter Try.func11, Try.ntmps11
  go_wp2_with fail
  generalize (((w.alloc (.cells #[.int .i64 room, .slice Aw xs.length cap] 29)).alloc (.cells #[.int .i64 1, .int .i64 n, .slice Al m capl] 36)).alloc (.cells #[.int .i64 0, .slice none 0 0] 29)) = W0 at *
  (with_reducible refine RP.out.mono ?_)
  rintro e w1 ⟨v, rfl, Aw', cap', rfl, h1, h2, h3, h4, h5⟩
  have bw1 := Bk.made w1 29 #[.int .i64 room, .slice Aw' (pushList room xs n).length cap']
  have o2 : Only [] w (w1.alloc (.cells #[.int .i64 room, .slice Aw' (pushList room xs n).length cap'] 29)) := (HO.out.trans h5 (by simp)).alloc _
  have bo2 := (HBO.out.only h5 (by simp)).alloc (.cells #[.int .i64 room, .slice Aw' (pushList room xs n).length cap'] 29)
  have br2 := (HBR.out.only h5 (by simp)).alloc (.cells #[.int .i64 room, .slice Aw' (pushList room xs n).length cap'] 29)
  have rd2 := h3.only ((Only.refl [] w1).alloc (.cells #[.int .i64 room, .slice Aw' (pushList room xs n).length cap'] 29)) (by simp)
  have hG : w.heap.size + 3 ≤ w1.heap.size := Nat.le_trans hsz h5.size
  have HRD := Lib.hid rd2
  have HLOC := Lib.hid h4
  have HO2 := Lib.hid o2
  have HBO2 := Lib.hid bo2
  have HBR2 := Lib.hid br2
  have HBW := Lib.hid bw1
  have hsz2 : w1.heap.size < (w1.alloc (.cells #[.int .i64 room, .slice Aw' (pushList room xs n).length cap'] 29)).heap.size := by simp
  clear bw1 o2 bo2 br2 rd2 h3 h4 h5
  go_wp2_with fail
  generalize (w1.alloc (.cells #[.int .i64 room, .slice Aw' (pushList room xs n).length cap'] 29)) = w2 at *
  have r2 := (P.out.ring.only HO2.out (by simp) (by simp))
  have RG := Lib.hid (ring_push (w := w2.drew) (r2.drewN 1) n)
  have k0 := HBW.out.cell0 (i := 0) rfl
  have k1 := HBW.out.cell0 (i := 1) rfl
  have k2 := HBO2.out.cell0 (i := 1) rfl
  have hbeq : (pushErr room xs == pushErr room xs) = true := by simp
  have hbl := P.out.ring.lt
  have hAl := P.out.ring.ltA
  have HAL := Lib.hid hAl
  clear r2 hAl
  generalize pushErr room xs = pe at *
  generalize pushList room xs n = xs' at *
  have hnb : w1.heap.size ≠ b := by omega
  have hnA : w1.heap.size ∉ b :: A.toList := by
    simp only [List.mem_cons, Option.mem_toList, not_or]
    exact ⟨hnb, fun hm => by have := HAL.out _ (by simpa using hm); omega⟩
  have hnO : w.heap.size + 1 ∉ b :: A.toList := by
    simp only [List.mem_cons, Option.mem_toList, not_or]
    exact ⟨by omega, fun hm => by have := HAL.out _ (by simpa using hm); omega⟩
  have hnR : w.heap.size + 2 ∉ b :: A.toList := by
    simp only [List.mem_cons, Option.mem_toList, not_or]
    exact ⟨by omega, fun hm => by have := HAL.out _ (by simpa using hm); omega⟩
  have hne1 : w.heap.size + 1 + 1 ≠ w1.heap.size := by omega
  have HN1 := Lib.hid hnA
  have HN2 := Lib.hid hnO
  have HN3 := Lib.hid hnR
  clear hnA hnO hnR
  go_region_held3 (fun w' => w'.cell? ⟨w1.heap.size, 0, none⟩ = some (.int .i64 room) ∧ w'.cell? ⟨w1.heap.size, 1, none⟩ = some (.slice Aw' xs'.length cap') ∧ w'.cell? ⟨w.heap.size + 1, 1, none⟩ = some (.int .i64 n)) (first | exact ⟨by assumption, by assumption, by assumption⟩ | go_keep)
    (first
      | (go_at_call 18; (with_reducible refine RG.out.mono ?_); rintro e w3 ⟨rfl, A', r3, n3, o3⟩; have q0 : w3.cell? ⟨w1.heap.size, 0, none⟩ = some (.int .i64 room) := (HBW.out.drew.only o3 HN1.out).cell0 rfl; have q1 : w3.cell? ⟨w1.heap.size, 1, none⟩ = some (.slice Aw' xs'.length cap') := (HBW.out.drew.only o3 HN1.out).cell0 rfl; have q2 : w3.cell? ⟨w.heap.size + 1, 1, none⟩ = some (.int .i64 n) := (HBO2.out.drew.only o3 HN2.out).cell0 rfl; have HBR3 := Lib.hid (HBR2.out.drew.only o3 HN3.out); have s0 : w3.cell? ⟨w.heap.size + 2, 0, none⟩ = some (.int .i64 0) := HBR3.out.cell0 rfl; have s1 : w3.cell? ⟨w.heap.size + 2, 1, none⟩ = some (.slice none 0 0) := HBR3.out.cell0 rfl; have u0 := HBR3.out.free 0; have u1 := HBR3.out.free 1; have R3 := Lib.hid r3; have N3 := Lib.hid n3; have O3 := Lib.hid o3; clear r3 n3 o3))
  go_wp2
  refine bodyPost_ret (v := .tuple #[.agg #[.int .i64 room, .slice Aw' xs'.length cap'], .bool true]) (by simp [results, Try.results11, go_sem, s0, s1]) rfl ?_
  exact does_end hbl HAL.out (HO2.out.drew) R3.out N3.out O3.out (HRD.out.only ((Only.refl [] _).drew) (by simp)) h1 h2 (P.out.loc HLOC.out hsz) (by show _ ≤ w2.heap.size; omega) _ _

end Go.Proofs.Yteebkgclopffbaa
