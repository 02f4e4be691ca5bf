/- Cut and Join of rings. -/
import Derived.Test.YteebkgclopffbaaRing3
namespace Go.Proofs.Yteebkgclopffbaa
open Go.RowKit

/-- A slice's value at A reads as xs (where it has things at all). -/
def Rd (w : World) (A : Option Addr) (xs : List Int) : Prop :=
  xs = [] ∨ ∃ bl off, A = some ⟨bl, off, none⟩ ∧ bl < w.heap.size ∧ ∀ k x, xs[k]? = some x → w.cell? ⟨bl, off + k, none⟩ = some (.int .i64 x)
theorem Rd.only {w w' : World} {A : Option Addr} {xs : List Int} {S : List Nat} (h : Rd w A xs) (o : Only S w w') (hn : xs ≠ [] → ∀ bl off, A = some ⟨bl, off, none⟩ → bl ∉ S) : Rd w' A xs := by
  rcases h with rfl | ⟨bl, off, e, hb, hc⟩
  · exact .inl rfl
  · by_cases h0 : xs = []
    · exact .inl h0
    · exact .inr ⟨bl, off, e, Nat.lt_of_lt_of_le hb o.size, fun k x hx => (o.cell (p := ⟨bl, off + k, none⟩) hb (hn h0 bl off e)).trans (hc k x hx)⟩
theorem Rd.of_bk {w : World} {G : Nat} {xs : List Int} (h : Bk w G 3 (ics xs)) : Rd w (some ⟨G, 0, none⟩) xs :=
  .inr ⟨G, 0, rfl, h.lt, fun k x hx => by rw [Nat.zero_add]; exact h.cell0 (ics_at hx)⟩
theorem Rd.nil (w : World) (A : Option Addr) : Rd w A [] := .inl rfl

theorem erase_last {L M : List Int} {c : Nat} (hc : 0 < c) (e : M.take (c - 1) = (L.take c).eraseIdx (c - 1)) : M.take (c - 1) = L.take (c - 1) := by
  rw [e]
  apply List.ext_getElem?
  intro j
  rw [List.getElem?_eraseIdx, List.getElem?_take, List.getElem?_take, List.getElem?_take]
  by_cases h : j < c - 1
  · rw [if_pos h, if_pos (by omega), if_pos h]
  · rw [if_neg h, if_neg (by omega), if_neg h]

theorem cut_neg {w : World} {b : Nat} {A : Option Nat} {room : Nat} {xs : List Int} (hr : Ring w b A room xs) (n : Int) (hn : n < 0) :
    Calls Try.prog 23 #[.pointer (some ⟨b, 0, none⟩), .int .i64 n] w fun e w' => e = .returned (.tuple #[.slice none 0 0, .int .i64 1]) ∧ w = w' := by
  obtain ⟨L, h, c, r, rfl⟩ := hr
  have Y := Lib.hid (given_yes b w r.c0)
  clear r
  go_enter Try.func23, Try.ntmps23
  go_wp2_with ((go_at_call 35; (with_reducible refine Y.out.mono ?_); rintro e w' ⟨rfl, rfl⟩))
  go_ret2
  exact ⟨rfl, rfl⟩
theorem cut_none {w : World} {b : Nat} {A : Option Nat} {room : Nat} {xs : List Int} (hr : Ring w b A room xs) (n : Int) (hn : (xs.length : Int) < n) :
    Calls Try.prog 23 #[.pointer (some ⟨b, 0, none⟩), .int .i64 n] w fun e w' => e = .returned (.tuple #[.slice none 0 0, .int .i64 3]) ∧ w = w' := by
  obtain ⟨L, h, c, r, rfl⟩ := hr
  rw [take_len r.cnt] at hn
  have c4 := r.c4
  have hn0 : ¬ n < 0 := by omega
  have Y := Lib.hid (given_yes b w r.c0)
  clear r
  go_enter Try.func23, Try.ntmps23
  go_wp2_with ((go_at_call 35; (with_reducible refine Y.out.mono ?_); rintro e w' ⟨rfl, rfl⟩))
  go_ret2
  exact ⟨rfl, rfl⟩

/-- What holds at the head of Cut's loop. -/
def CutRel (w : World) (b room : Nat) (A : Option Nat) (L : List Int) (h c n : Nat) (v : Value) (wr : World) : Prop :=
  ∃ (j : Nat) (M : List Int), v = .int .i64 j ∧ j ≤ n ∧ RAt wr b room A M h (c - j) ∧ M.take (c - j) = L.take (c - j) ∧ Bk wr w.heap.size 3 (ics ((L.take c).drop (c - n))) ∧ Only (b :: A.toList) w wr

set_option maxHeartbeats 1000000 in
theorem cut_yes {w : World} {b : Nat} {A : Option Nat} {room : Nat} {xs : List Int} (hr : Ring w b A room xs) (n : Nat) (hn : n ≤ xs.length) :
    Calls Try.prog 23 #[.pointer (some ⟨b, 0, none⟩), .int .i64 n] w fun e w' => e = .returned (.tuple #[.slice (some ⟨w.heap.size, 0, none⟩) n n, .int .i64 0]) ∧
      Bk w' w.heap.size 3 (ics (xs.drop (xs.length - n))) ∧ Ring w' b A room (xs.take (xs.length - n)) ∧ Only (b :: A.toList) w w' := by
  obtain ⟨L, h, c, r, rfl⟩ := hr
  rw [take_len r.cnt] at hn ⊢
  have c4 := r.c4
  have hcl := r.cnt
  have hfit := r.fit
  have htop := r.top
  have hlt := r.lt
  have hlA : ∀ g, A = some g → g < w.heap.size := fun g hg => by subst hg; exact r.ltA
  have Y := Lib.hid (given_yes b w r.c0)
  have F := Lib.hid (from_at r (c - n) (by omega))
  rw [show ((c - n : Nat) : Int) = (c : Int) - (n : Int) from by omega, show c - (c - n) = n from by omega] at F
  have HL := Lib.hid hlA
  have R := Lib.hid r
  clear r hlA
  go_enter Try.func23, Try.ntmps23
  go_wp2_with (first
    | (go_at_call 35; (with_reducible refine Y.out.mono ?_); rintro e w' ⟨rfl, rfl⟩)
    | (go_at_call 36; (with_reducible refine F.out.mono ?_); rintro e w1 ⟨rfl, hb, ho⟩; have HB := Lib.hid hb; have HO := Lib.hid ho; clear hb ho))
  have R1 := Lib.hid (R.out.only HO.out (by simp) (by simp))
  go_loopw [29] (fun v wr => CutRel w b room A L h c n v wr) (fun v _ => n - (intOf v).toNat)
  case atStart => exact ⟨0, L, rfl, Nat.zero_le _, R1.out, rfl, HB.out, HO.out.more (by simp)⟩
  case round =>
    obtain ⟨j, M, rfl, hj, r, em, hb, o⟩ := hrel
    by_cases hjn : j < n
    · have hcm := r.cnt
      obtain ⟨g, rfl⟩ := r.some_ (by omega)
      have hg := HL.out g rfl
      have c4' := r.c4
      have T := Lib.hid (closeTail_at r (c - j - 1) (by omega))
      rw [show ((c - j - 1 : Nat) : Int) = ((c - j : Nat) : Int) - 1 from by omega] at T
      have N0 : ∀ w2 M', RAt w2 b room (some g) M' h (c - j - 1) → M'.take (c - j - 1) = (M.take (c - j)).eraseIdx (c - j - 1) → Only [b, g] wr w2 → CutRel w b room (some g) L h c n (.int .i64 ((j : Int) + 1)) w2 := by
        intro w2 M' r2 e2 o2
        refine ⟨j + 1, M', by go_num, by omega, by rw [show c - (j + 1) = c - j - 1 from by omega]; exact r2, ?_, hb.only o2 ?_, o.trans o2 (by simp)⟩
        · rw [show c - (j + 1) = c - j - 1 from by omega, erase_last (by omega) e2]
          have := congrArg (List.take (c - j - 1)) em
          rw [List.take_take, List.take_take, Nat.min_eq_left (by omega)] at this
          exact this
        · simp only [List.mem_cons, List.not_mem_nil, or_false, not_or]
          omega
      have HN := Lib.hid N0
      clear N0 r em hb o
      go_wp2_with ((go_at_call 39; (with_reducible refine T.out.mono ?_); rintro e w2 ⟨rfl, M', r2, e2, o2⟩; have N1 := Lib.hid (HN.out w2 M' r2 e2 o2); clear r2 e2 o2))
      go_roundw
      case rel => exact N1.out
      case measure => simp [intOf]; omega
    · obtain rfl : j = n := by omega
      have HR := Lib.hid r
      have HE := Lib.hid em
      have HB2 := Lib.hid hb
      have HO2 := Lib.hid o
      clear r em hb o
      go_wp2
      go_ret2
      exact ⟨rfl, HB2.out, ⟨M, h, c - j, HR.out, by rw [List.take_take, Nat.min_eq_left (by omega), HE.out]⟩, HO2.out⟩

theorem join_no {w : World} {b : Nat} {A : Option Nat} {room : Nat} {xs : List Int} (hr : Ring w b A room xs) (Al : Option Addr) (m cap : Nat) (hm : m ≤ 9223372036854775807) (hn : room < xs.length + m) :
    Calls Try.prog 22 #[.pointer (some ⟨b, 0, none⟩), .slice Al m cap] w fun e w' => e = .returned (.int .i64 2) ∧ ∃ k, w' = w.drewN k := by
  obtain ⟨L, h, c, r, rfl⟩ := hr
  rw [take_len r.cnt] at hn
  have c1 := r.c1
  have c4 := r.c4
  have hcl := r.cnt
  have hfit := r.fit
  have htop := r.top
  have e1 : IntKind.i64.wrap ((room : Int) - c) = (room : Int) - c := IntWalk.i64_in _ (by omega)
  have Y := Lib.hid (given_yes b w r.c0)
  clear r
  go_enter Try.func22, Try.ntmps22
  go_wp2_with ((go_at_call 35; (with_reducible refine Y.out.mono ?_); rintro e w' ⟨rfl, rfl⟩))
  go_quiet (fail)
  go_wp2
  go_ret
  exact ⟨rfl, _, rfl⟩

/-- What holds at the head of Join's loop. -/
def JoinRel (w1 : World) (b room : Nat) (A1 : Option Nat) (X : List Int) (h c : Nat) (l : List Int) (v : Value) (wr : World) : Prop :=
  ∃ (j : Nat) (M : List Int), v = .int .i64 j ∧ j ≤ l.length ∧ RAt wr b room A1 M h (c + j) ∧ M.take (c + j) = X ++ l.take j ∧ c + l.length ≤ M.length ∧ Only (b :: A1.toList) w1 wr
theorem JoinRel.step {w1 wr w2 : World} {b room g : Nat} {X M l : List Int} {h c j : Nat} (hj : j < l.length) (em : M.take (c + j) = X ++ l.take j) (hl : c + l.length ≤ M.length) (o : Only [b, g] w1 wr)
    (r2 : RAt w2 b room (some g) (M.set (c + j) (l.getD j 0)) h (c + j + 1)) (o2 : Only [b, g] wr w2) : JoinRel w1 b room (some g) X h c l (.int .i64 ((j : Int) + 1)) w2 := by
  refine ⟨j + 1, _, by go_num, by omega, r2, ?_, by simpa using hl, o.trans o2 (by intro i hi; exact .inl hi)⟩
  rw [show c + (j + 1) = (c + j) + 1 from by omega, take_set_snoc (by omega), em, List.append_assoc]
  congr 1
  rw [List.take_add_one, List.getElem?_eq_getElem hj]
  simp [List.getD, hj]

set_option maxHeartbeats 1000000 in
theorem join_yes {w : World} {b : Nat} {A : Option Nat} {room : Nat} {xs : List Int} (hr : Ring w b A room xs) (Al : Option Addr) (l : List Int) (cap : Nat) (hl : Rd w Al l)
    (hb : l ≠ [] → ∀ bl off, Al = some ⟨bl, off, none⟩ → bl ∉ b :: A.toList) (hn : xs.length + l.length ≤ room) :
    Calls Try.prog 22 #[.pointer (some ⟨b, 0, none⟩), .slice Al l.length cap] w fun e w' => e = .returned (.int .i64 0) ∧ Pushed w b A room (xs ++ l) w' := by
  obtain ⟨L, h, c, r, rfl⟩ := hr
  rw [take_len r.cnt] at hn
  have hX := take_len r.cnt
  have c1 := r.c1
  have c4 := r.c4
  have hcl := r.cnt
  have hfit := r.fit
  have htop := r.top
  have e1 : IntKind.i64.wrap ((room : Int) - c) = (room : Int) - c := IntWalk.i64_in _ (by omega)
  have Y := Lib.hid (given_yes b w r.c0)
  have G := Lib.hid (fun q => grow_at (r.drewN q) l.length (by omega))
  have HX := Lib.hid hX
  have HL := Lib.hid hl
  have HBL := Lib.hid hb
  clear r hX hl hb
  go_enter Try.func22, Try.ntmps22
  go_wp2_with ((go_at_call 35; (with_reducible refine Y.out.mono ?_); rintro e w' ⟨rfl, rfl⟩))
  go_quiet (fail)
  go_wp2_with ((go_at_call 37; (with_reducible refine (G.out _).mono ?_); rintro e w1 ⟨rfl, A1, M, h1, r1, e1, l1, o1, n1⟩; have O1 := Lib.hid o1.undrew; have E1 := Lib.hid e1; have R1 := Lib.hid r1; have N1 := Lib.hid n1; clear r1 o1 e1 n1))
  have HL1 := Lib.hid (HL.out.only O1.out (fun h0 bl off e hmem => HBL.out h0 bl off e (by simp only [List.mem_cons, List.not_mem_nil, or_false] at hmem; simp [hmem])))
  have hnew : ∀ bl off, Al = some ⟨bl, off, none⟩ → l ≠ [] → bl ∉ b :: A1.toList := by
    intro bl off e hne hmem
    simp only [List.mem_cons, Option.mem_toList] at hmem
    rcases hmem with h2 | h2
    · exact HBL.out hne bl off e (by simp [h2])
    · rcases N1.out with h3 | ⟨g, h3, h4⟩
      · exact HBL.out hne bl off e (by simp [← h3, h2])
      · rw [h3] at h2
        have h5 : g = bl := by simpa using h2
        subst h5
        rcases HL.out with h6 | ⟨bl', off', e', hb', _⟩
        · exact hne h6
        · rw [e] at e'
          injection e' with e'
          injection e' with e'
          have h7 : w.heap.size ≤ g := h4
          omega
  have HNEW := Lib.hid hnew
  clear hnew
  go_loopw [28] (fun v wr => JoinRel w1 b room A1 (L.take c) h1 c l v wr) (fun v _ => l.length - (intOf v).toNat)
  case atStart => exact ⟨0, M, rfl, Nat.zero_le _, R1.out, by rw [Nat.add_zero, E1.out]; simp, l1, Only.refl _ _⟩
  case round =>
    obtain ⟨j, M', rfl, hj, r, em, hl, o⟩ := hrel
    by_cases hjn : j < l.length
    · obtain ⟨g, rfl⟩ := r.some_ (by omega)
      have hne : l ≠ [] := by rintro rfl; simp at hjn
      have HR : Rd wr Al l := HL1.out.only o (fun _ bl off e => HNEW.out bl off e hne)
      rcases HR with h0 | ⟨bl, off, rfl, hbl, hc⟩
      · exact absurd h0 hne
      · have hcell : wr.cell? ⟨bl, off + j, none⟩ = some (.int .i64 (l.getD j 0)) := hc j _ (by simp [List.getD, hjn])
        have AD := Lib.hid (add_at r (l.getD j 0) (by omega))
        have N0 := fun w2 r2 o2 => JoinRel.step (w1 := w1) (w2 := w2) (room := room) (h := h1) hjn em hl o r2 o2
        have HN := Lib.hid N0
        clear N0 r em hl o hc hne
        generalize l.getD j 0 = x0 at *
        generalize l.length = n at *
        go_wp2_with ((go_at_call 38; (with_reducible refine AD.out.mono ?_); rintro e w2 ⟨rfl, r2, o2⟩; have N2 := Lib.hid (HN.out w2 r2 o2); clear r2 o2))
        go_roundw
        case rel => exact N2.out
        case measure => simp [intOf]; omega
    · obtain rfl : j = l.length := by omega
      have HR := Lib.hid r
      have HE := Lib.hid em
      have HO2 := Lib.hid o
      clear r em hl o
      go_wp2
      go_ret
      refine ⟨rfl, A1, ⟨M', h1, c + l.length, HR.out, ?_⟩, N1.out, (O1.out.more (T := b :: A.toList) (by simp)).trans HO2.out ?_⟩
      · rw [HE.out, List.take_length]
      · intro i hi
        simp only [List.mem_cons, Option.mem_toList] at hi
        rcases hi with rfl | hi
        · simp
        · rcases N1.out with h3 | ⟨g, h3, h4⟩
          · exact .inl (by simp [← h3, hi])
          · rw [h3] at hi
            have h5 : g = i := by simpa using hi
            subst h5
            exact .inr h4

end Go.Proofs.Yteebkgclopffbaa
