/- pattern: isZero, isLeaf, isKind, slices.Contains, isFree. pattern: walk.mayBe, by the pattern's kind. -/
import Derived.Test.YtlilfmpikampgaaGreatDoorPK1
import Derived.Test.YtlilfmpikampgaaGreatDoorPMe
import Derived.Deep.RegionHeld3
namespace Go.Proofs.YtlilfmpikampgaaGreatDoor
open Go.RowKit

set_option maxRecDepth 20000 in
set_option maxHeartbeats 1000000 in
theorem pzero_yes (w : World) : Calls Tryz.prog 48 #[.agg #[.int .i64 0, .int .i64 0, .complex .f64 0 0, .string ⟨#[]⟩, .int .i64 0, .int .i64 0, .slice none 0 0]] w fun e w' => e = .returned (.bool true) ∧ ∃ o, w' = w.alloc o := by
  have z0 := z64
  have e0 := eqPid 0 0 0 0
  go_enter Tryz.func48, Tryz.ntmps48
  go_wp2_with fail
  go_ret
  exact ⟨rfl, _, rfl⟩
set_option maxRecDepth 20000 in
set_option maxHeartbeats 1000000 in
theorem pzero_no (k n : Int) (x y : Nat) (S : ByteArray) (a b : Int) (w : World) (h : k ≠ 0) : Calls Tryz.prog 48 #[.agg #[.int .i64 k, .int .i64 n, .complex .f64 x y, .string S, .int .i64 a, .int .i64 b, .slice none 0 0]] w fun e w' => e = .returned (.bool false) ∧ ∃ o, w' = w.alloc o := by
  have e0 : (k == 0) = false := by simpa using h
  clear h
  go_enter Tryz.func48, Tryz.ntmps48
  go_wp2_with fail
  go_ret
  exact ⟨rfl, _, rfl⟩
set_option maxRecDepth 20000 in
set_option maxHeartbeats 1000000 in
theorem isLeaf_yes (t : T) (hg : t.Good) (hl : ∀ k l, t ≠ .tup k l) (h8 : t.k ≠ 8) (h9 : t.k ≠ 9) (hc : chk t = 0) (w : World) : Calls Tryz.prog 50 #[.agg #[.int .i64 t.k, .int .i64 t.n, .complex .f64 t.x t.y, .string t.S, .int .i64 t.a, .int .i64 t.b, .slice none 0 0]] w fun e w' => e = .returned (.bool true) ∧ Only [] w w' := by
  have rs := store_com
  have HC := Lib.hid (fun w => check_any t hg (.slice none 0 0) (fun _ => False) w ((TV.leaf hl).2 rfl) (fun _ h => h.elim))
  rw [hc] at HC
  have e1 : (t.k != 8) = true := by simpa using h8
  have e2 : (t.k != 9) = true := by simpa using h9
  clear h8 h9 hc hg
  go_enter Tryz.func50, Tryz.ntmps50
  go_wp2_with fail
  (with_reducible refine (HC.out _).mono ?_)
  rintro e w1 ⟨rfl, o1⟩
  have O1 := Lib.hid (((Only.refl [] w).alloc (.cells #[.int .i64 t.k, .int .i64 t.n, .complex .f64 t.x t.y, .string t.S, .int .i64 t.a, .int .i64 t.b, .slice none 0 0] 27)).trans o1 (by simp))
  clear o1
  go_wp2_with fail
  go_ret
  exact ⟨rfl, O1.out⟩
set_option maxHeartbeats 1000000 in
theorem tkind_yes (j : Nat) (w : World) (h1 : 1 ≤ j) (h2 : j < 10) (hk : KN w) : Calls Tryz.prog 71 #[.int .i64 (j : Int)] w fun e w' => e = .returned (.tuple #[.string (kn j), .int .i64 0]) ∧ w = w' := by
  have c := hk j h2
  have p1 : ¬ (j : Int) < 1 := by omega
  have p2 : ¬ 9 < (j : Int) := by omega
  have p3 : (j : Int) < 10 := by omega
  have p4 : 0 ≤ (j : Int) := by omega
  go_enter Tryz.func71, Tryz.ntmps71
  go_wp2_with fail
  exact bodyPost_ret (v := .tuple #[.string (kn j), .int .i64 0]) (by simp [results, Tryz.results71, go_sem]) rfl ⟨rfl, rfl⟩
theorem isKind_yes (n : Int) (w : World) (h : 1 ≤ n ∧ n ≤ 9) (hk : KN w) : Calls Tryz.prog 51 #[.int .i64 n] w fun e w' => e = .returned (.bool true) ∧ w = w' := by
  obtain ⟨j, rfl⟩ : ∃ j : Nat, n = (j : Int) := ⟨n.toNat, by omega⟩
  have HK := Lib.hid (tkind_yes j w (by omega) (by omega) hk)
  clear h hk
  go_enter Tryz.func51, Tryz.ntmps51
  go_wp2_with fail
  (with_reducible refine (HK.out).mono ?_)
  rintro e w1 ⟨rfl, rfl⟩
  go_wp2_with fail
  go_ret
  exact ⟨rfl, rfl⟩
/-- Numbers that lie in a slice. -/
def Lies (w : World) (A : Option Addr) (bs : List Int) : Prop := ∀ k z, bs[k]? = some z → ∃ g, A = some ⟨g, 0, none⟩ ∧ w.cell? ⟨g, k, none⟩ = some (.int .i64 z) ∧ ∃ cs, Bk w g 3 cs
def IRel (w : World) (bs : List Int) (n : Int) (v : Value) (wr : World) : Prop := ∃ k : Nat, v = .int .i64 (k : Int) ∧ k ≤ bs.length ∧ (∀ j z, j < k → bs[j]? = some z → z ≠ n) ∧ w = wr
def IEnd (bs : List Int) (n : Int) (e : Ending) : Prop := ∃ r : Int, e = .returned (.int .i64 r) ∧ ((n ∈ bs ∧ 0 ≤ r) ∨ (n ∉ bs ∧ r = -1))
set_option maxRecDepth 20000 in
set_option maxHeartbeats 1000000 in
theorem index_any (A : Option Addr) (cap : Nat) (bs : List Int) (n : Int) (w : World) (h : Lies w A bs) (hl : bs.length ≤ 1024) : Calls Tryz.prog 87 #[.slice A bs.length cap, .int .i64 n] w fun e w' => IEnd bs n e ∧ w = w' := by
  have H := Lib.hid h
  clear h
  go_enter Tryz.func87, Tryz.ntmps87
  go_wp2_with fail
  go_loopw [8] (fun v wr => IRel w bs n v wr) (fun v _ => bs.length - (intOf v).toNat)
  case atStart => exact ⟨0, rfl, Nat.zero_le _, fun j z hj _ => absurd hj (Nat.not_lt_zero _), rfl⟩
  case round =>
    obtain ⟨k, rfl, hk, hn, rfl⟩ := hrel
    by_cases hk3 : k < bs.length
    · obtain ⟨z, hz⟩ : ∃ z, bs[k]? = some z := ⟨_, List.getElem?_eq_getElem hk3⟩
      obtain ⟨g, rfl, c, _⟩ := H.out k z hz
      have c' : w.cell? ⟨g, 0 + k, none⟩ = some (.int .i64 z) := by rw [Nat.zero_add]; exact c
      have p1 : (k : Int) < (bs.length : Int) := by omega
      have p2 : 0 ≤ (k : Int) := by omega
      by_cases he : n = z
      · subst he
        go_wp2_with fail
        go_ret
        exact ⟨⟨_, rfl, .inl ⟨List.mem_of_getElem? hz, p2⟩⟩, rfl⟩
      · have e1 : (n == z) = false := by simpa using he
        have HR := Lib.hid (show IRel w bs n (.int .i64 ((k : Int) + 1)) w from ⟨k + 1, by go_num, by omega, fun j y hj hy => by
          rcases Nat.lt_succ_iff_lt_or_eq.1 hj with hj | rfl
          · exact hn j y hj hy
          · rw [hz] at hy
            injection hy with hy
            rw [← hy]; exact fun e => he e.symm, rfl⟩)
        have q1 : IntKind.i64.wrap ((k : Int) + 1) = (k : Int) + 1 := IntWalk.i64_in _ (by omega)
        clear hn hz he
        go_wp2_with fail
        go_roundw
        case rel => exact HR.out
        case measure => simp [intOf]; omega
    · have p1 : ¬ (k : Int) < (bs.length : Int) := by omega
      have HN := Lib.hid (show n ∉ bs from fun hm => by
        obtain ⟨j, hj, e⟩ := List.getElem_of_mem hm
        exact hn j n (by omega) (by rw [List.getElem?_eq_getElem hj, e]) rfl)
      clear hn
      go_wp2_with fail
      go_ret
      exact ⟨⟨_, rfl, .inr ⟨HN.out, rfl⟩⟩, rfl⟩
set_option maxHeartbeats 1000000 in
theorem contains_any (A : Option Addr) (cap : Nat) (bs : List Int) (n : Int) (b : Bool) (w : World) (h : Lies w A bs) (hl : bs.length ≤ 1024) (hb : decide (n ∈ bs) = b) : Calls Tryz.prog 70 #[.slice A bs.length cap, .int .i64 n] w fun e w' => e = .returned (.bool b) ∧ w = w' := by
  have HI := Lib.hid (index_any A cap bs n w h hl)
  clear h
  go_enter Tryz.func70, Tryz.ntmps70
  go_wp2_with fail
  (with_reducible refine (HI.out).mono ?_)
  rintro e w1 ⟨⟨r, rfl, hr⟩, rfl⟩
  have e1 : decide ((0 : Int) ≤ r) = b := by
    rw [← hb]
    rcases hr with ⟨h1, h2⟩ | ⟨h1, h2⟩
    · rw [decide_eq_true h1, decide_eq_true h2]
    · rw [decide_eq_false h1, decide_eq_false (by omega)]
  clear hr hb
  go_wp2_with fail
  go_ret
  exact ⟨rfl, rfl⟩
set_option maxHeartbeats 1000000 in
theorem isFree_any (wb : Nat) (met : Int) (A : Option Addr) (cap : Nat) (bs : List Int) (n : Int) (b : Bool) (w : World) (hb : Bk w wb 60 #[.int .i64 32, .int .i64 met, .slice A bs.length cap]) (h : Lies w A bs) (hl : bs.length ≤ 1024) (h0 : 0 ≤ n) (h1 : n < 32) (hd : decide (n ∈ bs) = b) :
    Calls Tryz.prog 49 #[.pointer (some ⟨wb, 0, none⟩), .int .i64 n] w fun e w' => e = .returned (.bool (!b)) ∧ w = w' := by
  have HC := Lib.hid (contains_any A cap bs n b w h hl hd)
  have c0 := hb.cell0 (i := 0) rfl
  have c2 := hb.cell0 (i := 2) rfl
  clear h hd hb
  go_enter Tryz.func49, Tryz.ntmps49
  go_wp2_with fail
  (with_reducible refine (HC.out).mono ?_)
  rintro e w1 ⟨rfl, rfl⟩
  go_wp2_with fail
  go_ret
  exact ⟨rfl, rfl⟩
end Go.Proofs.YtlilfmpikampgaaGreatDoor

namespace Go.Proofs.YtlilfmpikampgaaGreatDoor
open Go.RowKit

theorem Bk.elevenH {w : World} {b : Nat} {t : TypeId} {v0 v1 v2 v3 v4 v5 v6 v7 v8 v9 v10 : Value} (h : Bk w b t #[v0, v1, v2, v3, v4, v5, v6, v7, v8, v9, v10]) :
    w.cell? ⟨b, 0, none⟩ = some v0 ∧ w.cell? ⟨b, 1, none⟩ = some v1 ∧ w.cell? ⟨b, 2, none⟩ = some v2 ∧ w.cell? ⟨b, 3, none⟩ = some v3 ∧ w.cell? ⟨b, 4, none⟩ = some v4 ∧ w.cell? ⟨b, 5, none⟩ = some v5 ∧ w.cell? ⟨b, 6, none⟩ = some v6 ∧ w.cell? ⟨b, 7, none⟩ = some v7 ∧ w.cell? ⟨b, 8, none⟩ = some v8 ∧ w.cell? ⟨b, 9, none⟩ = some v9 ∧ w.cell? ⟨b, 10, none⟩ = some v10 :=
  ⟨h.cell0 rfl, h.cell0 rfl, h.cell0 rfl, h.cell0 rfl, h.cell0 rfl, h.cell0 rfl, h.cell0 rfl, h.cell0 rfl, h.cell0 rfl, h.cell0 rfl, h.cell0 rfl⟩
theorem Lies.same {w w' : World} {A : Option Addr} {bs : List Int} (h : Lies w A bs) (o : Only [] w w') : Lies w' A bs := fun k z hz => by
  obtain ⟨g, h1, h2, cs, h3⟩ := h k z hz
  exact ⟨g, h1, (o.cell (p := ⟨g, k, none⟩) h3.lt (by simp)).trans h2, cs, h3.only o (by simp)⟩
set_option maxRecDepth 20000 in
set_option maxHeartbeats 4000000 in
theorem qmay_any (wb : Nat)  (w : World)  : Calls Tryz.prog 36 #[.pointer (some ⟨wb, 0, none⟩), .agg #[.int .i64 1, .int .i64 0, .int .i64 0, .int .i64 0, .complex .f64 0 0, .string ⟨#[]⟩, .int .i64 0, .int .i64 0, .slice none 0 0, .slice none 0 0, .slice none 0 0]] w fun e w' => e = .returned (.bool true) ∧ Only [] w w' := by
  have rs := store_com
  have HZ := Lib.hid (fun w => pzero_yes w)
  have BI := Lib.hid (Bk.made w 30 #[.int .i64 1, .int .i64 0, .int .i64 0, .int .i64 0, .complex .f64 0 0, .string ⟨#[]⟩, .int .i64 0, .int .i64 0, .slice none 0 0, .slice none 0 0, .slice none 0 0])
  have O0 := Lib.hid ((Only.refl [] w).alloc (.cells #[.int .i64 1, .int .i64 0, .int .i64 0, .int .i64 0, .complex .f64 0 0, .string ⟨#[]⟩, .int .i64 0, .int .i64 0, .slice none 0 0, .slice none 0 0, .slice none 0 0] 30))
  obtain ⟨c0, c1, c2, c3, c4, c5, c6, c7, c8, c9, c10⟩ := BI.out.elevenH
  go_enter Tryz.func36, Tryz.ntmps36
  go_wp2_with fail
  go_region_held3 (fun w' => w'.cell? ⟨w.heap.size, 1, none⟩ = some (.int .i64 0) ∧ w'.cell? ⟨w.heap.size, 2, none⟩ = some (.int .i64 0) ∧ w'.cell? ⟨w.heap.size, 3, none⟩ = some (.int .i64 0) ∧ w'.cell? ⟨w.heap.size, 4, none⟩ = some (.complex .f64 0 0) ∧ w'.cell? ⟨w.heap.size, 5, none⟩ = some (.string ⟨#[]⟩) ∧ w'.cell? ⟨w.heap.size, 6, none⟩ = some (.int .i64 0) ∧ w'.cell? ⟨w.heap.size, 7, none⟩ = some (.int .i64 0) ∧ w'.cell? ⟨w.heap.size, 8, none⟩ = some (.slice none 0 0) ∧ w'.cell? ⟨w.heap.size, 9, none⟩ = some (.slice none 0 0) ∧ w'.cell? ⟨w.heap.size, 10, none⟩ = some (.slice none 0 0)) (first | exact ⟨by assumption, by assumption, by assumption, by assumption, by assumption, by assumption, by assumption, by assumption, by assumption, by assumption⟩ | go_keep)
    (first
      | (go_at_call 48; (with_reducible refine (HZ.out _).mono ?_); rintro e w2 ⟨rfl, o, rfl⟩; obtain ⟨d0, d1, d2, d3, d4, d5, d6, d7, d8, d9, d10⟩ := (BI.out.drew.alloc o).elevenH))
  have OA := Lib.hid (O0.out.alloc o).drew
  have BA := Lib.hid (BI.out.alloc o).drew
  go_wp2_with fail
  go_ret
  exact ⟨rfl, OA.out⟩
set_option maxRecDepth 20000 in
set_option maxHeartbeats 4000000 in
theorem qmay_var (wb : Nat) (met n : Int) (A : Option Addr) (cap : Nat) (bs : List Int) (b : Bool) (w : World) (hb : Bk w wb 60 #[.int .i64 32, .int .i64 met, .slice A bs.length cap]) (h : Lies w A bs) (hl : bs.length ≤ 1024) (h0 : 0 ≤ n) (h1 : n < 32) (hd : decide (n ∈ bs) = b) : Calls Tryz.prog 36 #[.pointer (some ⟨wb, 0, none⟩), .agg #[.int .i64 2, .int .i64 n, .int .i64 0, .int .i64 0, .complex .f64 0 0, .string ⟨#[]⟩, .int .i64 0, .int .i64 0, .slice none 0 0, .slice none 0 0, .slice none 0 0]] w fun e w' => e = .returned (.bool (!b)) ∧ Only [] w w' := by
  have rs := store_com
  have HZ := Lib.hid (fun w => pzero_yes w)
  have HF := Lib.hid (fun w1 (o1 : Only [] w w1) => isFree_any wb met A cap bs n b w1 (hb.only o1 (by simp)) (h.same o1) hl h0 h1 hd)
  clear hb h hl h0 h1 hd
  cases b
  all_goals
    simp only [Bool.not_true, Bool.not_false] at HF ⊢
    have BI := Lib.hid (Bk.made w 30 #[.int .i64 2, .int .i64 n, .int .i64 0, .int .i64 0, .complex .f64 0 0, .string ⟨#[]⟩, .int .i64 0, .int .i64 0, .slice none 0 0, .slice none 0 0, .slice none 0 0])
    have O0 := Lib.hid ((Only.refl [] w).alloc (.cells #[.int .i64 2, .int .i64 n, .int .i64 0, .int .i64 0, .complex .f64 0 0, .string ⟨#[]⟩, .int .i64 0, .int .i64 0, .slice none 0 0, .slice none 0 0, .slice none 0 0] 30))
    obtain ⟨c0, c1, c2, c3, c4, c5, c6, c7, c8, c9, c10⟩ := BI.out.elevenH
    go_enter Tryz.func36, Tryz.ntmps36
    go_wp2_with fail
    go_region_held3 (fun w' => w'.cell? ⟨w.heap.size, 1, none⟩ = some (.int .i64 n) ∧ w'.cell? ⟨w.heap.size, 2, none⟩ = some (.int .i64 0) ∧ w'.cell? ⟨w.heap.size, 3, none⟩ = some (.int .i64 0) ∧ w'.cell? ⟨w.heap.size, 4, none⟩ = some (.complex .f64 0 0) ∧ w'.cell? ⟨w.heap.size, 5, none⟩ = some (.string ⟨#[]⟩) ∧ w'.cell? ⟨w.heap.size, 6, none⟩ = some (.int .i64 0) ∧ w'.cell? ⟨w.heap.size, 7, none⟩ = some (.int .i64 0) ∧ w'.cell? ⟨w.heap.size, 8, none⟩ = some (.slice none 0 0) ∧ w'.cell? ⟨w.heap.size, 9, none⟩ = some (.slice none 0 0) ∧ w'.cell? ⟨w.heap.size, 10, none⟩ = some (.slice none 0 0)) (first | exact ⟨by assumption, by assumption, by assumption, by assumption, by assumption, by assumption, by assumption, by assumption, by assumption, by assumption⟩ | go_keep)
      (first
        | (go_at_call 48; (with_reducible refine (HZ.out _).mono ?_); rintro e w2 ⟨rfl, o, rfl⟩; obtain ⟨d0, d1, d2, d3, d4, d5, d6, d7, d8, d9, d10⟩ := (BI.out.drew.alloc o).elevenH))
    have OA := Lib.hid (O0.out.alloc o).drew
    have BA := Lib.hid (BI.out.alloc o).drew
    go_wp2_with fail
    (with_reducible refine (HF.out _ OA.out).mono ?_)
    rintro e w3 ⟨rfl, rfl⟩
    have k0 := BA.out.cell0 (i := 0) rfl
    go_wp2_with fail
    go_ret
    exact ⟨rfl, OA.out⟩
set_option maxRecDepth 20000 in
set_option maxHeartbeats 4000000 in
theorem qmay_term (wb : Nat) (t : T) (w : World) (hg : t.Good) (hl : ∀ k l, t ≠ .tup k l) (h0 : t.k ≠ 0) (h8 : t.k ≠ 8) (h9 : t.k ≠ 9) (hc : chk t = 0) : Calls Tryz.prog 36 #[.pointer (some ⟨wb, 0, none⟩), .agg #[.int .i64 3, .int .i64 0, .int .i64 t.k, .int .i64 t.n, .complex .f64 t.x t.y, .string t.S, .int .i64 t.a, .int .i64 t.b, .slice none 0 0, .slice none 0 0, .slice none 0 0]] w fun e w' => e = .returned (.bool true) ∧ Only [] w w' := by
  have rs := store_com
  have HZ := Lib.hid (fun w => pzero_no t.k t.n t.x t.y t.S t.a t.b w h0)
  have HF := Lib.hid (fun w => isLeaf_yes t hg hl h8 h9 hc w)
  clear hg hl h0 h8 h9 hc
  have BI := Lib.hid (Bk.made w 30 #[.int .i64 3, .int .i64 0, .int .i64 t.k, .int .i64 t.n, .complex .f64 t.x t.y, .string t.S, .int .i64 t.a, .int .i64 t.b, .slice none 0 0, .slice none 0 0, .slice none 0 0])
  have O0 := Lib.hid ((Only.refl [] w).alloc (.cells #[.int .i64 3, .int .i64 0, .int .i64 t.k, .int .i64 t.n, .complex .f64 t.x t.y, .string t.S, .int .i64 t.a, .int .i64 t.b, .slice none 0 0, .slice none 0 0, .slice none 0 0] 30))
  obtain ⟨c0, c1, c2, c3, c4, c5, c6, c7, c8, c9, c10⟩ := BI.out.elevenH
  go_enter Tryz.func36, Tryz.ntmps36
  go_wp2_with fail
  go_region_held3 (fun w' => w'.cell? ⟨w.heap.size, 1, none⟩ = some (.int .i64 0) ∧ w'.cell? ⟨w.heap.size, 2, none⟩ = some (.int .i64 t.k) ∧ w'.cell? ⟨w.heap.size, 3, none⟩ = some (.int .i64 t.n) ∧ w'.cell? ⟨w.heap.size, 4, none⟩ = some (.complex .f64 t.x t.y) ∧ w'.cell? ⟨w.heap.size, 5, none⟩ = some (.string t.S) ∧ w'.cell? ⟨w.heap.size, 6, none⟩ = some (.int .i64 t.a) ∧ w'.cell? ⟨w.heap.size, 7, none⟩ = some (.int .i64 t.b) ∧ w'.cell? ⟨w.heap.size, 8, none⟩ = some (.slice none 0 0) ∧ w'.cell? ⟨w.heap.size, 9, none⟩ = some (.slice none 0 0) ∧ w'.cell? ⟨w.heap.size, 10, none⟩ = some (.slice none 0 0)) (first | exact ⟨by assumption, by assumption, by assumption, by assumption, by assumption, by assumption, by assumption, by assumption, by assumption, by assumption⟩ | go_keep)
    (first
      | (go_at_call 48; (with_reducible refine (HZ.out _).mono ?_); rintro e w2 ⟨rfl, o, rfl⟩; obtain ⟨d0, d1, d2, d3, d4, d5, d6, d7, d8, d9, d10⟩ := (BI.out.drew.alloc o).elevenH))
  have OA := Lib.hid (O0.out.alloc o).drew
  have BA := Lib.hid (BI.out.alloc o).drew
  go_wp2_with fail
  (with_reducible refine (HF.out _).mono ?_)
  rintro e w3 ⟨rfl, o3⟩
  have O3 := Lib.hid (OA.out.trans o3 (by simp))
  clear o3
  go_wp2_with fail
  go_ret
  exact ⟨rfl, O3.out⟩
set_option maxRecDepth 20000 in
set_option maxHeartbeats 4000000 in
theorem qmay_kind (wb : Nat) (n : Int) (w : World) (h : 1 ≤ n ∧ n ≤ 9) (hk : KN w) (hg : 0 < w.heap.size) : Calls Tryz.prog 36 #[.pointer (some ⟨wb, 0, none⟩), .agg #[.int .i64 4, .int .i64 n, .int .i64 0, .int .i64 0, .complex .f64 0 0, .string ⟨#[]⟩, .int .i64 0, .int .i64 0, .slice none 0 0, .slice none 0 0, .slice none 0 0]] w fun e w' => e = .returned (.bool true) ∧ Only [] w w' := by
  have rs := store_com
  have HZ := Lib.hid (fun w => pzero_yes w)
  have HF := Lib.hid (fun w1 (o1 : Only [] w w1) => isKind_yes n w1 h (hk.only hg o1 (by simp)))
  clear h hk
  have BI := Lib.hid (Bk.made w 30 #[.int .i64 4, .int .i64 n, .int .i64 0, .int .i64 0, .complex .f64 0 0, .string ⟨#[]⟩, .int .i64 0, .int .i64 0, .slice none 0 0, .slice none 0 0, .slice none 0 0])
  have O0 := Lib.hid ((Only.refl [] w).alloc (.cells #[.int .i64 4, .int .i64 n, .int .i64 0, .int .i64 0, .complex .f64 0 0, .string ⟨#[]⟩, .int .i64 0, .int .i64 0, .slice none 0 0, .slice none 0 0, .slice none 0 0] 30))
  obtain ⟨c0, c1, c2, c3, c4, c5, c6, c7, c8, c9, c10⟩ := BI.out.elevenH
  go_enter Tryz.func36, Tryz.ntmps36
  go_wp2_with fail
  go_region_held3 (fun w' => w'.cell? ⟨w.heap.size, 1, none⟩ = some (.int .i64 n) ∧ w'.cell? ⟨w.heap.size, 2, none⟩ = some (.int .i64 0) ∧ w'.cell? ⟨w.heap.size, 3, none⟩ = some (.int .i64 0) ∧ w'.cell? ⟨w.heap.size, 4, none⟩ = some (.complex .f64 0 0) ∧ w'.cell? ⟨w.heap.size, 5, none⟩ = some (.string ⟨#[]⟩) ∧ w'.cell? ⟨w.heap.size, 6, none⟩ = some (.int .i64 0) ∧ w'.cell? ⟨w.heap.size, 7, none⟩ = some (.int .i64 0) ∧ w'.cell? ⟨w.heap.size, 8, none⟩ = some (.slice none 0 0) ∧ w'.cell? ⟨w.heap.size, 9, none⟩ = some (.slice none 0 0) ∧ w'.cell? ⟨w.heap.size, 10, none⟩ = some (.slice none 0 0)) (first | exact ⟨by assumption, by assumption, by assumption, by assumption, by assumption, by assumption, by assumption, by assumption, by assumption, by assumption⟩ | go_keep)
    (first
      | (go_at_call 48; (with_reducible refine (HZ.out _).mono ?_); rintro e w2 ⟨rfl, o, rfl⟩; obtain ⟨d0, d1, d2, d3, d4, d5, d6, d7, d8, d9, d10⟩ := (BI.out.drew.alloc o).elevenH))
  have OA := Lib.hid (O0.out.alloc o).drew
  have BA := Lib.hid (BI.out.alloc o).drew
  go_wp2_with fail
  (with_reducible refine (HF.out _ OA.out).mono ?_)
  rintro e w3 ⟨rfl, rfl⟩
  go_wp2_with fail
  go_ret
  exact ⟨rfl, OA.out⟩
set_option maxRecDepth 20000 in
set_option maxHeartbeats 4000000 in
theorem qmay_tup (wb : Nat) (A B : Option Addr) (m c c' : Nat) (w : World)  : Calls Tryz.prog 36 #[.pointer (some ⟨wb, 0, none⟩), .agg #[.int .i64 5, .int .i64 0, .int .i64 0, .int .i64 0, .complex .f64 0 0, .string ⟨#[]⟩, .int .i64 0, .int .i64 0, .slice none 0 0, .slice A m c, .slice B 0 c']] w fun e w' => e = .returned (.bool true) ∧ Only [] w w' := by
  have rs := store_com
  have HZ := Lib.hid (fun w => pzero_yes w)
  have BI := Lib.hid (Bk.made w 30 #[.int .i64 5, .int .i64 0, .int .i64 0, .int .i64 0, .complex .f64 0 0, .string ⟨#[]⟩, .int .i64 0, .int .i64 0, .slice none 0 0, .slice A m c, .slice B 0 c'])
  have O0 := Lib.hid ((Only.refl [] w).alloc (.cells #[.int .i64 5, .int .i64 0, .int .i64 0, .int .i64 0, .complex .f64 0 0, .string ⟨#[]⟩, .int .i64 0, .int .i64 0, .slice none 0 0, .slice A m c, .slice B 0 c'] 30))
  obtain ⟨c0, c1, c2, c3, c4, c5, c6, c7, c8, c9, c10⟩ := BI.out.elevenH
  go_enter Tryz.func36, Tryz.ntmps36
  go_wp2_with fail
  go_region_held3 (fun w' => w'.cell? ⟨w.heap.size, 1, none⟩ = some (.int .i64 0) ∧ w'.cell? ⟨w.heap.size, 2, none⟩ = some (.int .i64 0) ∧ w'.cell? ⟨w.heap.size, 3, none⟩ = some (.int .i64 0) ∧ w'.cell? ⟨w.heap.size, 4, none⟩ = some (.complex .f64 0 0) ∧ w'.cell? ⟨w.heap.size, 5, none⟩ = some (.string ⟨#[]⟩) ∧ w'.cell? ⟨w.heap.size, 6, none⟩ = some (.int .i64 0) ∧ w'.cell? ⟨w.heap.size, 7, none⟩ = some (.int .i64 0) ∧ w'.cell? ⟨w.heap.size, 8, none⟩ = some (.slice none 0 0) ∧ w'.cell? ⟨w.heap.size, 9, none⟩ = some (.slice A m c) ∧ w'.cell? ⟨w.heap.size, 10, none⟩ = some (.slice B 0 c')) (first | exact ⟨by assumption, by assumption, by assumption, by assumption, by assumption, by assumption, by assumption, by assumption, by assumption, by assumption⟩ | go_keep)
    (first
      | (go_at_call 48; (with_reducible refine (HZ.out _).mono ?_); rintro e w2 ⟨rfl, o, rfl⟩; obtain ⟨d0, d1, d2, d3, d4, d5, d6, d7, d8, d9, d10⟩ := (BI.out.drew.alloc o).elevenH))
  have OA := Lib.hid (O0.out.alloc o).drew
  have BA := Lib.hid (BI.out.alloc o).drew
  go_wp2_with fail
  go_ret
  exact ⟨rfl, OA.out⟩
set_option maxRecDepth 20000 in
set_option maxHeartbeats 4000000 in
theorem qmay_list (wb : Nat) (A B : Option Addr) (m c m' c' : Nat) (w : World) (h : m' ≤ 1) : Calls Tryz.prog 36 #[.pointer (some ⟨wb, 0, none⟩), .agg #[.int .i64 6, .int .i64 0, .int .i64 0, .int .i64 0, .complex .f64 0 0, .string ⟨#[]⟩, .int .i64 0, .int .i64 0, .slice none 0 0, .slice A m c, .slice B m' c']] w fun e w' => e = .returned (.bool true) ∧ Only [] w w' := by
  have rs := store_com
  have HZ := Lib.hid (fun w => pzero_yes w)
  have p1 : (m' : Int) ≤ 1 := by omega
  clear h
  have BI := Lib.hid (Bk.made w 30 #[.int .i64 6, .int .i64 0, .int .i64 0, .int .i64 0, .complex .f64 0 0, .string ⟨#[]⟩, .int .i64 0, .int .i64 0, .slice none 0 0, .slice A m c, .slice B m' c'])
  have O0 := Lib.hid ((Only.refl [] w).alloc (.cells #[.int .i64 6, .int .i64 0, .int .i64 0, .int .i64 0, .complex .f64 0 0, .string ⟨#[]⟩, .int .i64 0, .int .i64 0, .slice none 0 0, .slice A m c, .slice B m' c'] 30))
  obtain ⟨c0, c1, c2, c3, c4, c5, c6, c7, c8, c9, c10⟩ := BI.out.elevenH
  go_enter Tryz.func36, Tryz.ntmps36
  go_wp2_with fail
  go_region_held3 (fun w' => w'.cell? ⟨w.heap.size, 1, none⟩ = some (.int .i64 0) ∧ w'.cell? ⟨w.heap.size, 2, none⟩ = some (.int .i64 0) ∧ w'.cell? ⟨w.heap.size, 3, none⟩ = some (.int .i64 0) ∧ w'.cell? ⟨w.heap.size, 4, none⟩ = some (.complex .f64 0 0) ∧ w'.cell? ⟨w.heap.size, 5, none⟩ = some (.string ⟨#[]⟩) ∧ w'.cell? ⟨w.heap.size, 6, none⟩ = some (.int .i64 0) ∧ w'.cell? ⟨w.heap.size, 7, none⟩ = some (.int .i64 0) ∧ w'.cell? ⟨w.heap.size, 8, none⟩ = some (.slice none 0 0) ∧ w'.cell? ⟨w.heap.size, 9, none⟩ = some (.slice A m c) ∧ w'.cell? ⟨w.heap.size, 10, none⟩ = some (.slice B m' c')) (first | exact ⟨by assumption, by assumption, by assumption, by assumption, by assumption, by assumption, by assumption, by assumption, by assumption, by assumption⟩ | go_keep)
    (first
      | (go_at_call 48; (with_reducible refine (HZ.out _).mono ?_); rintro e w2 ⟨rfl, o, rfl⟩; obtain ⟨d0, d1, d2, d3, d4, d5, d6, d7, d8, d9, d10⟩ := (BI.out.drew.alloc o).elevenH))
  have OA := Lib.hid (O0.out.alloc o).drew
  have BA := Lib.hid (BI.out.alloc o).drew
  go_wp2_with fail
  have k10 := BA.out.cell0 (i := 10) rfl
  go_quiet (fail)
  go_wp2_with fail
  go_ret
  exact ⟨rfl, (O0.out.alloc o).drewN _⟩
end Go.Proofs.YtlilfmpikampgaaGreatDoor
