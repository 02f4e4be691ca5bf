/- The law TablePlays: any script over three tables. -/
import Derived.Test.YtlidnlcmnkagaaaWd
import Derived.Test.YtlidnlcmnkagaaaJB
import Derived.Test.YtlidnlcmnkagaaaGShell
namespace Go.Proofs.Ytlidnlcmnkagaaa
open Go.RowKit
set_option maxRecDepth 20000

theorem step_any {W w : World} {pb : Nat} {C : Cl} {D : Nat → Gh} {L : List Pd} (P : PR W pb C D L w) (o : Ox) (hos : o.s.size ≤ 140737488351232) (hL : (L.length + 1) * 16 ≤ 140737488355328) :
    Calls Try.prog 7 #[ptA pb, .agg o.cs] w (OneE W pb L) := by
  have side : ∃ v, ∀ i, i < 3 → ((i : Nat) : Int) = wrap64 ((IntKind.u64.wrap o.on).tmod 3) → C.h i = v := by
    obtain ⟨i, -, ei⟩ := uint_mod 3 (by omega) (by omega) o.on
    have ei' : wrap64 ((IntKind.u64.wrap o.on).tmod 3) = (i : Int) := ei
    refine ⟨C.h i, fun i' _ e => ?_⟩
    rw [ei'] at e
    rw [show i' = i by omega]
  obtain ⟨v, hv⟩ := side
  by_cases h1 : o.kd = 1
  · by_cases hn : 1 ≤ o.n ∧ o.n ≤ 256
    · exact step_new_yes P o h1 hos hL hn
    · exact step_new_no P o h1 hos hL hn
  by_cases h2 : o.kd = 2
  · exact step_one2 P o h2 hos hL
  by_cases h3 : o.kd = 3
  · exact step_one3 P o h3 hos hL
  by_cases h4 : o.kd = 4
  · exact step_one4 P o h4 hos hL
  by_cases h5 : o.kd = 5
  · exact step_one5 P o h5 hos hL
  by_cases h6 : o.kd = 6
  · cases v with
    | false => exact step_copy_no P o h6 hos hL hv
    | true => exact step_copy_yes P o h6 hos hL hv
  by_cases h7 : o.kd = 7
  · cases v with
    | false => exact step_load_no P o h7 hos hL hv
    | true => exact step_load_yes P o h7 hos hL hv
  by_cases h8 : o.kd = 8
  · exact step_told P o h8 hos hL
  exact step_none P o ⟨h1, h2, h3, h4, h5, h6, h7, h8⟩ hos hL

def encO (o : Ox) : List Value := [.int .i64 o.kd, .int .i64 o.on, .int .i64 o.at_, .int .i64 o.n, .int .i64 o.late, .int .i64 o.p.n, .int .i64 o.p.g, .string o.s]
def kO : List Kd := [.i, .i, .i, .i, .i, .i, .i, .s]
def Ox.ok (o : Ox) : Prop := o.s.size ≤ 140737488351232
theorem decO {w : World} (cs : List Value) (h : Oks w kO cs) : ∃ a : Ox, a.ok ∧ cs = encO a := by
  simp only [kO, Oks, Kd.ok] at h
  obtain ⟨_, _, rfl, ⟨a1, rfl, -⟩, _, _, rfl, ⟨a2, rfl, -⟩, _, _, rfl, ⟨a3, rfl, -⟩, _, _, rfl, ⟨a4, rfl, -⟩, _, _, rfl, ⟨a5, rfl, -⟩, _, _, rfl, ⟨a6, rfl, -⟩, _, _, rfl, ⟨a7, rfl, -⟩, _, _, rfl, ⟨s, rfl, hs⟩, rfl⟩ := h
  exact ⟨⟨a1, a2, a3, a4, a5, ⟨a6, a7⟩, s⟩, hs, rfl⟩
noncomputable def KO : Sk Ox where
  e := tyO
  t := 22
  k := 8
  by' := 72
  i := (Try.prog.info? tyO).getD default
  z := .agg #[.int .i64 0, .int .i64 0, .int .i64 0, .int .i64 0, .int .i64 0, .int .i64 0, .int .i64 0, .string E0b]
  enc := encO
  ht := Try.underlying22
  hi := by kernel_rfl
  hz := by kernel_rfl
  hk := by kernel_rfl
  hb := by kernel_rfl
  hzs := rfl
  h0 := by decide
  hb0 := by decide
  henc := fun _ => rfl
  hone := fun a u hu => by
    simp only [encO, List.mem_cons, List.not_mem_nil, or_false] at hu
    rcases hu with rfl | rfl | rfl | rfl | rfl | rfl | rfl | rfl <;> rfl
theorem RdO.at8 {w : World} {A : Option Addr} {xs : List Ox} (h : RdS KO w A xs) (h0 : 0 < xs.length) : ∃ bl off, A = some ⟨bl, off, none⟩ ∧ bl < w.heap.size ∧ ∀ (i : Nat) (x : Ox), xs[i]? = some x →
    w.cell? ⟨bl, off + i * 8, none⟩ = some (.int .i64 x.kd) ∧ w.cell? ⟨bl, off + i * 8 + 1, none⟩ = some (.int .i64 x.on) ∧ w.cell? ⟨bl, off + i * 8 + 2, none⟩ = some (.int .i64 x.at_) ∧ w.cell? ⟨bl, off + i * 8 + 3, none⟩ = some (.int .i64 x.n) ∧
    w.cell? ⟨bl, off + i * 8 + 4, none⟩ = some (.int .i64 x.late) ∧ w.cell? ⟨bl, off + i * 8 + 5, none⟩ = some (.int .i64 x.p.n) ∧ w.cell? ⟨bl, off + i * 8 + 6, none⟩ = some (.int .i64 x.p.g) ∧ w.cell? ⟨bl, off + i * 8 + 7, none⟩ = some (.string x.s) := by
  obtain ⟨bl, off, e, hb, hc⟩ := h.form h0
  exact ⟨bl, off, e, hb, fun i x hx => ⟨hc i x hx 0 _ rfl, hc i x hx 1 _ rfl, hc i x hx 2 _ rfl, hc i x hx 3 _ rfl, hc i x hx 4 _ rfl, hc i x hx 5 _ rfl, hc i x hx 6 _ rfl, hc i x hx 7 _ rfl⟩⟩

/-- The play as it begins. -/
def C00 : Cl := ⟨fun _ => .pointer none, fun _ => 0, fun _ => .slice none 0 0, fun _ => .slice none 0 0, fun _ => .slice none 0 0, fun _ => false, .slice none 0 0⟩
theorem PR.start (w : World) : PR w w.heap.size C00 (fun _ => ⟨[], 0, 0, 0, 0⟩) [] (w.alloc (.cells (playC C00) tyP)) where
  blk := Bk.made w _ _
  sd := fun _ _ => SdOk.no _ _
  ap := fun _ _ _ _ _ h => by cases h
  lo := fun _ _ h => by cases h
  giv := OwnS.nil _ _ _
  pbl := Nat.le_refl _
  o := (Only.refl [] w).alloc _
set_option maxHeartbeats 16000000 in
theorem plays_any {A : Option Addr} {xs : List Ox} (cap : Nat) (w : World) (h : RdS KO w A xs) (hl : xs.length * 72 ≤ 140737488355328) (hok : ∀ x ∈ xs, x.ok) :
    Calls Try.prog 3 #[.slice A xs.length cap] w fun e w' => e = .returned (.bool true) ∧ Only [] w w' := by
  have H := Lib.hid h
  have HOK := Lib.hid hok
  have P1 := Lib.hid (PR.start w)
  clear h hok
  go_enter Try.func3, Try.ntmps3
  go_wp2_with fail
  go_loopw [4] (fun kv wr => ∃ (k : Nat) (C : Cl) (D : Nat → Gh) (L : List Pd), kv = .int .i64 k ∧ k ≤ xs.length ∧ PR w w.heap.size C D L wr ∧ L.length ≤ k) (fun kv _ => xs.length - (intOf kv).toNat)
  case atStart => exact ⟨0, _, _, _, rfl, Nat.zero_le _, P1.out, Nat.le_refl _⟩
  case round =>
    clear P1
    obtain ⟨k, C, D, L, rfl, hk, p, hL⟩ := hrel
    have P := Lib.hid p
    by_cases hlt : k < xs.length
    · obtain ⟨bl, off, rfl, hb, hc⟩ := RdO.at8 (H.out.only0 p.o) (by omega)
      obtain ⟨x, hx⟩ := some_at hlt
      obtain ⟨x0, x1, x2, x3, x4, x5, x6, x7⟩ := hc k x hx
      have K1 := Lib.hid (step_any p x (HOK.out x (List.mem_of_getElem? hx)) (by omega))
      have HK := Lib.hid (show k + 1 ≤ xs.length ∧ L.length ≤ k from ⟨hlt, hL⟩)
      obtain ⟨kd, on, at_, n, late, ⟨pn, pg⟩, s⟩ := x
      dsimp only at x0 x1 x2 x3 x4 x5 x6 x7
      have pk : (k : Int) < (xs.length : Int) := by omega
      clear hb hc hx p hlt hL hk
      go_wp2_with fail
      (with_reducible refine K1.out.mono ?_)
      rintro e w4 ⟨rfl, C', D', L', p4, hL'⟩
      have P4 := Lib.hid p4
      have HL4 := Lib.hid hL'
      clear p4 hL' K1 x0 x1 x2 x3 x4 x5 x6 x7
      go_wp2_with fail
      go_roundw
      case rel => exact ⟨k + 1, _, _, _, by go_num, HK.out.1, P4.out, by have h1 := HL4.out; have h2 := HK.out.2; omega⟩
      case measure => have := HK.out.1; simp [intOf]; omega
    · have e : k = xs.length := by omega
      subst e
      have K0 := told_any p (i := 0) (by omega)
      rw [show ((0 : Nat) : Int) = 0 from rfl] at K0
      have K0 := Lib.hid K0
      clear p
      go_wp2_with fail
      (with_reducible refine K0.out.mono ?_)
      rintro e w4 ⟨rfl, p4⟩
      have K1 := told_any p4 (i := 1) (by omega)
      rw [show ((1 : Nat) : Int) = 1 from rfl] at K1
      have K1 := Lib.hid K1
      clear p4
      go_wp2_with fail
      (with_reducible refine K1.out.mono ?_)
      rintro e w5 ⟨rfl, p5⟩
      have K2 := told_any p5 (i := 2) (by omega)
      rw [show ((2 : Nat) : Int) = 2 from rfl] at K2
      have K2 := Lib.hid K2
      clear p5
      go_wp2_with fail
      (with_reducible refine K2.out.mono ?_)
      rintro e w6 ⟨rfl, p6⟩
      have K3 := told_any p6 (i := 0) (by omega)
      rw [show ((0 : Nat) : Int) = 0 from rfl] at K3
      have K3 := Lib.hid K3
      clear p6
      go_wp2_with fail
      (with_reducible refine K3.out.mono ?_)
      rintro e w7 ⟨rfl, p7⟩
      have K4 := Lib.hid (awake_any w7)
      have O7 := Lib.hid p7.o
      clear p7
      go_wp2_with fail
      (with_reducible refine K4.out.mono ?_)
      rintro e w8 ⟨rfl, o8⟩
      have O8 := Lib.hid (O7.out.trans o8 (by simp))
      clear o8
      go_wp2_with fail
      go_ret
      exact ⟨rfl, O8.out⟩
theorem plays_in {W : World} {v : Value} (h : Kd.ok W (.l kO 72) v) : Calls Try.prog 3 #[v] W fun e w' => e = .returned (.bool true) ∧ Only [] W w' := by
  obtain ⟨A, xs, cap, rfl, _, _, hb, hr, hg⟩ := RdS.of_ok KO rfl decO h
  exact plays_any cap W hr (by rw [show KO.by' = 72 from rfl] at hb; omega) hg
end Go.Proofs.Ytlidnlcmnkagaaa
