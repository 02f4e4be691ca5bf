/- Which terms may be, the terms in them aside: term.mayBe.. Which atoms may be, by the document.. Which terms may be, the terms in them aside: term.mayBe.. Which terms may be, the terms in them aside: term.mayBe.. -/
import Derived.Test.YtcdefnbehlcgeaaGreatDoorWb
import Derived.IntWalk
import Derived.Laws.ComplexArith
set_option maxHeartbeats 4000000
namespace Go.Proofs.YtcdefnbehlcgeaaGreatDoor
open Go.RowKit
def isDig (b : UInt8) : Bool := decide (48 ≤ b.toNat) && decide (b.toNat ≤ 57)
def isSm (b : UInt8) : Bool := decide (97 ≤ b.toNat) && decide (b.toNat ≤ 122)
def isCap (b : UInt8) : Bool := decide (65 ≤ b.toNat) && decide (b.toNat ≤ 90)
def isWd (b : UInt8) : Bool := isSm b || isDig b || isCap b || decide (b.toNat = 95)
theorem sm_wd {b : UInt8} (h : isSm b = true) : isWd b = true := by simp [isWd, h]
def OkI (n : Int) : Bool := decide (-4611686018427387903 ≤ n) && decide (n ≤ 4611686018427387903)
def atomOk (l : List UInt8) : Bool := !(decide (l = [])) && !(decide (l = [110, 105, 108])) && !(decide (l = [116, 114, 117, 101])) && !(decide (l = [102, 97, 108, 115, 101])) && decide (l.length ≤ 64) && (l.head?.map isSm).getD false && l.all isWd
def okPid (n g : Int) : Bool := decide (0 ≤ n) && decide (n < 256) && (decide (1 ≤ g) && decide (g ≤ 4611686018427387903))
def okCnt (n : Int) : Bool := decide (1 ≤ n) && decide (n ≤ 4611686018427387903)
def okPart (n : Int) : Bool := decide (-1073741824 ≤ n) && decide (n ≤ 1073741824)
def okBool (n : Int) : Bool := decide (n = 0 ∨ n = 1)
theorem lst_at {s : ByteArray} {j : Nat} (h : j < s.size) : (lst s)[j]? = some (s[j]'h) := by
 rw [List.getElem?_eq_getElem (by rw [lst_len]; exact h)]
 rfl
theorem toList_lst (s : ByteArray) : s.toList = lst s := ByteArray.toList_eq s
def AllP (p : UInt8 → Bool) (s : ByteArray) (pos : Nat) : Prop := ∀ j b, j < pos → (lst s)[j]? = some b → p b = true
theorem allP_next {p : UInt8 → Bool} {s : ByteArray} {pos : Nat} (h : pos < s.size) (ha : AllP p s pos) (hp : p (s[pos]'h) = true) : AllP p s (pos + 1) := by
 intro j b hj hb
 by_cases e : j = pos
 ·subst e
  rw [lst_at h] at hb
  injection hb with hb
  rw [← hb]; exact hp
 ·exact ha j b (by omega) hb
def T.k : T → Int
 | .zero => 0 | .nil => 1 | .bool _ => 2 | .int _ => 3 | .com _ _ => 4 | .atom _ => 5 | .pid _ _ => 6 | .ref _ => 7 | .tup k _ => k
def T.n : T → Int
 | .bool n => n | .int n => n | .ref n => n | _ => 0
def T.x : T → Nat
 | .com a _ => floatOfInt .f64 a | _ => 0
def T.y : T → Nat
 | .com _ b => floatOfInt .f64 b | _ => 0
def T.S : T → ByteArray
 | .atom s => s | _ => ⟨#[]⟩
def T.a : T → Int
 | .pid n _ => n | _ => 0
def T.b : T → Int
 | .pid _ g => g | _ => 0
abbrev tcs (k n : Int) (x y : Nat) (S : ByteArray) (a b : Int) (sl : Value) : Array Value := #[.int .i64 k, .int .i64 n, .complex .f64 x y, .string S, .int .i64 a, .int .i64 b, sl]
def T.cs (t : T) (sl : Value) : Array Value := tcs t.k t.n t.x t.y t.S t.a t.b sl
def okT : T → Bool
 | .zero => false | .nil => true | .bool n => okBool n | .int n => OkI n | .com a b => okPart a && okPart b | .atom s => atomOk (lst s) | .pid n g => okPid n g | .ref n => okCnt n | .tup _ _ => true
def T.isLeaf : T → Bool
 | .zero => false | .tup _ _ => false | .com a b => okPart a && okPart b | .atom s => decide (s.size ≤ 262144) | _ => true
/-! ### Atoms -/
theorem is_small8 (b : UInt8) (w : World) : Calls Tryz.prog 122 #[.int .u8 b.toNat] w fun e w' => e = .returned (.bool (isSm b)) ∧ w = w' := by
 go_enter Tryz.func122, Tryz.ntmps122
 go_wp2_with fail
 all_goals
  go_ret
  exact ⟨ret_bool (by rw [Bool.eq_iff_iff]; simp [isSm]; omega), rfl⟩
theorem allP_all {p : UInt8 → Bool} {s : ByteArray} (h : AllP p s s.size) : (lst s).all p = true := by
 rw [List.all_eq_true]
 intro b hb
 obtain ⟨j, hj, e⟩ := List.getElem_of_mem hb
 exact h j b (by rw [← lst_len]; exact hj) (by rw [List.getElem?_eq_getElem hj, e])
theorem allP_not {p : UInt8 → Bool} {s : ByteArray} {pos : Nat} (h : pos < s.size) (hp : p (s[pos]'h) = false) : (lst s).all p = false := by
 rw [List.all_eq_false]
 refine ⟨s[pos]'h, ?_, by simp [hp]⟩
 rw [List.mem_iff_getElem?]
 exact ⟨pos, lst_at h⟩
theorem eq_list {s : ByteArray} {l : List UInt8} : (s.toList == l) = decide (lst s = l) := by rw [toList_lst, Bool.eq_iff_iff]; simp
theorem atomOk_eq (l : List UInt8) (h0 : l ≠ []) (h1 : l ≠ [110, 105, 108]) (h2 : l ≠ [116, 114, 117, 101]) (h3 : l ≠ [102, 97, 108, 115, 101]) : atomOk l = (decide (l.length ≤ 64) && (l.head?.map isSm).getD false && l.all isWd) := by
 unfold atomOk
 simp [h0, h1, h2, h3]
theorem wd_of (b : UInt8) : isWd b = true ↔ ((97 ≤ b.toNat ∧ b.toNat ≤ 122) ∨ (48 ≤ b.toNat ∧ b.toNat ≤ 57) ∨ (65 ≤ b.toNat ∧ b.toNat ≤ 90) ∨ b.toNat = 95) := by
 simp only [isWd, isSm, isDig, isCap, Bool.or_eq_true, Bool.and_eq_true, decide_eq_true_eq]
 omega
theorem at0 {s : ByteArray} (h : 0 < s.size) : (lst s).head? = some (s[0]'h) := by rw [List.head?_eq_getElem?]; exact lst_at h
theorem is_atom (s : ByteArray) (w : World) (hs : s.size ≤ 262144) : Calls Tryz.prog 105 #[.string s] w fun e w' => e = .returned (.bool (atomOk (lst s))) ∧ Only [] w w' := by
 have hsl : s.toList = lst s := toList_lst s
 by_cases h0 : lst s = []
 ·have e0 : s.toList.isEmpty = true := by rw [hsl, h0]; rfl
  have A : Hid (atomOk (lst s) = false) := Lib.hid (by rw [h0]; rfl)
  clear hsl h0
  go_enter Tryz.func105, Tryz.ntmps105
  go_wp2_with fail
  go_ret
  exact ⟨ret_bool A.out.symm, Only.refl _ _⟩
 have e0 : s.toList.isEmpty = false := by
  rw [hsl]
  cases hl : lst s with
  | nil => exact absurd hl h0
  | cons a l => rfl
 by_cases h1 : lst s = [110, 105, 108]
 ·have e1 : (s.toList == [110, 105, 108]) = true := by rw [eq_list]; simp [h1]
  have A : Hid (atomOk (lst s) = false) := Lib.hid (by rw [h1]; rfl)
  clear hsl h0 h1
  go_enter Tryz.func105, Tryz.ntmps105
  go_wp2_with fail
  go_ret
  exact ⟨ret_bool A.out.symm, Only.refl _ _⟩
 have e1 : (s.toList == [110, 105, 108]) = false := by rw [eq_list]; simp [h1]
 by_cases h2 : lst s = [116, 114, 117, 101]
 ·have e2 : (s.toList == [116, 114, 117, 101]) = true := by rw [eq_list]; simp [h2]
  have A : Hid (atomOk (lst s) = false) := Lib.hid (by rw [h2]; rfl)
  clear hsl h0 h1 h2
  go_enter Tryz.func105, Tryz.ntmps105
  go_wp2_with fail
  go_ret
  exact ⟨ret_bool A.out.symm, Only.refl _ _⟩
 have e2 : (s.toList == [116, 114, 117, 101]) = false := by rw [eq_list]; simp [h2]
 by_cases h3 : lst s = [102, 97, 108, 115, 101]
 ·have e3 : (s.toList == [102, 97, 108, 115, 101]) = true := by rw [eq_list]; simp [h3]
  have A : Hid (atomOk (lst s) = false) := Lib.hid (by rw [h3]; rfl)
  clear hsl h0 h1 h2 h3
  go_enter Tryz.func105, Tryz.ntmps105
  go_wp2_with fail
  go_ret
  exact ⟨ret_bool A.out.symm, Only.refl _ _⟩
 have e3 : (s.toList == [102, 97, 108, 115, 101]) = false := by rw [eq_list]; simp [h3]
 have A := Lib.hid (atomOk_eq (lst s) h0 h1 h2 h3)
 have hpos : 0 < s.size := by
  rw [← lst_len]
  exact List.length_pos_iff.2 h0
 clear hsl h0 h1 h2 h3
 by_cases h64 : s.size ≤ 64
 ·have A0 := Lib.hid (at0 hpos)
  cases hsm : isSm (s[0]'hpos) with
  | false =>
   have HS := Lib.hid hsm
   go_enter Tryz.func105, Tryz.ntmps105
   go_wp2_with fail
   (with_reducible refine (is_small8 _ _).mono ?_)
   rintro e w' ⟨rfl, rfl⟩
   go_wp2_with fail
   go_ret
   exact ⟨ret_bool (by rw [A.out, A0.out]; simp [HS.out]), Only.refl _ _⟩
  | true =>
   have HS := Lib.hid hsm
   go_enter Tryz.func105, Tryz.ntmps105
   go_wp2_with fail
   (with_reducible refine (is_small8 _ _).mono ?_)
   rintro e w' ⟨rfl, rfl⟩
   go_wp2_with fail
   go_loop [22] (fun i => ∃ k : Nat, k ≤ s.size ∧ i = .int .i64 k ∧ AllP isWd s k) (fun i => s.size - (intOf i).toNat)
   case atStart => exact ⟨0, Nat.zero_le _, rfl, fun j b hj => by omega⟩
   case round =>
    obtain ⟨k, hk, rfl, hall⟩ := hrel
    by_cases hlt : k < s.size
    ·cases hb : isSm (s[k]'hlt) with
     | true =>
      have hn := Lib.hid (allP_next hlt hall (sm_wd hb))
      have HB := Lib.hid hb
      go_wp2_with fail
      (with_reducible refine (is_small8 _ _).mono ?_)
      rintro e w' ⟨rfl, rfl⟩
      go_wp2_with fail
      go_round
      case rel => exact ⟨k + 1, by omega, by go_num, hn.out⟩
      case measure => simp [intOf]; omega
     | false =>
      have hnn : ¬ (97 ≤ (s[k]'hlt).toNat ∧ (s[k]'hlt).toNat ≤ 122) := by simpa [isSm] using hb
      have HN := Lib.hid hnn
      have HB := Lib.hid hb
      clear hnn
      cases c1 : decide ((65 : Int) ≤ ((s[k]'hlt).toNat : Int)) <;> cases c2 : decide (((s[k]'hlt).toNat : Int) ≤ 90) <;> cases c3 : decide ((48 : Int) ≤ ((s[k]'hlt).toNat : Int)) <;> cases c4 : decide (((s[k]'hlt).toNat : Int) ≤ 57) <;> cases c5 : (((s[k]'hlt).toNat : Int) != 95)
      all_goals
       have d1 := c1
       have d2 := c2
       have d3 := c3
       have d4 := c4
       have d5 := c5
       simp only [decide_eq_true_eq, decide_eq_false_iff_not, bne_iff_ne, bne_eq_false_iff_eq, ne_eq] at d1 d2 d3 d4 d5
       first
       | (exfalso; omega)
       | (have hw : isWd (s[k]'hlt) = true := by rw [wd_of]; omega
          have hn := Lib.hid (allP_next hlt hall hw)
          clear hw d1 d2 d3 d4 d5
          go_wp2_with fail
          (with_reducible refine (is_small8 _ _).mono ?_)
          rintro e w' ⟨rfl, rfl⟩
          go_wp2_with fail
          go_round
          case rel => exact ⟨k + 1, by omega, by go_num, hn.out⟩
          case measure => simp [intOf]; omega)
       | (have hw : isWd (s[k]'hlt) = false := by
           rw [Bool.eq_false_iff, ne_eq, wd_of]
           have := HN.out
           omega
          have hn := Lib.hid (allP_not hlt hw)
          clear hw d1 d2 d3 d4 d5
          go_wp2_with fail
          (with_reducible refine (is_small8 _ _).mono ?_)
          rintro e w' ⟨rfl, rfl⟩
          go_wp2_with fail
          go_ret
          exact ⟨ret_bool (by rw [A.out, hn.out]; simp), Only.refl _ _⟩)
    ·have he : k = s.size := by omega
     subst he
     have hall2 := Lib.hid (allP_all hall)
     go_wp2_with fail
     go_ret
     exact ⟨ret_bool (by rw [A.out, A0.out, hall2.out, lst_len]; simp [HS.out, h64]), Only.refl _ _⟩
 ·go_enter Tryz.func105, Tryz.ntmps105
  go_wp2_with fail
  go_ret
  exact ⟨ret_bool (by rw [A.out, lst_len]; simp [h64]), Only.refl _ _⟩
open Go.RowKit
theorem rlower (b : UInt8) (w : World) : Calls Tryz.prog 126 #[.int .u8 b.toNat] w fun e w' => e = .returned (.bool (isSm b)) ∧ w = w' := by
 go_enter Tryz.func126, Tryz.ntmps126
 go_wp2_with fail
 all_goals
  go_ret
  exact ⟨ret_bool (by rw [Bool.eq_iff_iff]; simp [isSm]; omega), rfl⟩
theorem ratom (s : ByteArray) (w : World) (hs : s.size ≤ 262144) : Calls Tryz.prog 114 #[.string s] w fun e w' => e = .returned (.bool (atomOk (lst s))) ∧ w = w' := by
 by_cases hpos : 0 < s.size
 ·have hp1 : (1 : Int) ≤ (s.size : Int) := by omega
  have hne : lst s ≠ [] := by
   intro e
   have := lst_len s
   rw [e] at this
   simp at this
   omega
  by_cases h64 : s.size ≤ 64
  ·have h64' : (s.size : Int) ≤ 64 := by omega
   have A0 := Lib.hid (at0 hpos)
   cases hsm : isSm (s[0]'hpos) with
   | false =>
    have HS := Lib.hid hsm
    have B : Hid (atomOk (lst s) = false) := Lib.hid (by unfold atomOk; rw [A0.out]; simp [HS.out])
    clear hne
    go_enter Tryz.func114, Tryz.ntmps114
    go_wp2_with fail
    (with_reducible refine (rlower _ _).mono ?_)
    rintro e w' ⟨rfl, rfl⟩
    go_wp2_with fail
    go_ret
    exact ⟨ret_bool B.out.symm, rfl⟩
   | true =>
    have HS := Lib.hid hsm
    by_cases h1 : lst s = [110, 105, 108]
    ·have e1 : (s.toList == [110, 105, 108]) = true := by rw [eq_list]; simp [h1]
     have B : Hid (atomOk (lst s) = false) := Lib.hid (by rw [h1]; rfl)
     clear hne h1
     go_enter Tryz.func114, Tryz.ntmps114
     go_wp2_with fail
     (with_reducible refine (rlower _ _).mono ?_)
     rintro e w' ⟨rfl, rfl⟩
     go_wp2_with fail
     go_ret
     exact ⟨ret_bool B.out.symm, rfl⟩
    have e1 : (s.toList == [110, 105, 108]) = false := by rw [eq_list]; simp [h1]
    by_cases h2 : lst s = [116, 114, 117, 101]
    ·have e2 : (s.toList == [116, 114, 117, 101]) = true := by rw [eq_list]; simp [h2]
     have B : Hid (atomOk (lst s) = false) := Lib.hid (by rw [h2]; rfl)
     clear hne h1 h2
     go_enter Tryz.func114, Tryz.ntmps114
     go_wp2_with fail
     (with_reducible refine (rlower _ _).mono ?_)
     rintro e w' ⟨rfl, rfl⟩
     go_wp2_with fail
     go_ret
     exact ⟨ret_bool B.out.symm, rfl⟩
    have e2 : (s.toList == [116, 114, 117, 101]) = false := by rw [eq_list]; simp [h2]
    by_cases h3 : lst s = [102, 97, 108, 115, 101]
    ·have e3 : (s.toList == [102, 97, 108, 115, 101]) = true := by rw [eq_list]; simp [h3]
     have B : Hid (atomOk (lst s) = false) := Lib.hid (by rw [h3]; rfl)
     clear hne h1 h2 h3
     go_enter Tryz.func114, Tryz.ntmps114
     go_wp2_with fail
     (with_reducible refine (rlower _ _).mono ?_)
     rintro e w' ⟨rfl, rfl⟩
     go_wp2_with fail
     go_ret
     exact ⟨ret_bool B.out.symm, rfl⟩
    have e3 : (s.toList == [102, 97, 108, 115, 101]) = false := by rw [eq_list]; simp [h3]
    have A := Lib.hid (atomOk_eq (lst s) hne h1 h2 h3)
    clear hne h1 h2 h3
    go_enter Tryz.func114, Tryz.ntmps114
    go_wp2_with fail
    (with_reducible refine (rlower _ _).mono ?_)
    rintro e w' ⟨rfl, rfl⟩
    go_wp2_with fail
    go_loop [3] (fun i => ∃ k : Nat, k ≤ s.size ∧ i = .int .i64 k ∧ AllP isWd s k) (fun i => s.size - (intOf i).toNat)
    case atStart => exact ⟨0, Nat.zero_le _, rfl, fun j b hj => by omega⟩
    case round =>
     obtain ⟨k, hk, rfl, hall⟩ := hrel
     by_cases hlt : k < s.size
     ·cases hb : isSm (s[k]'hlt) with
      | true =>
       have hn := Lib.hid (allP_next hlt hall (sm_wd hb))
       go_wp2_with fail
       (with_reducible refine (rlower _ _).mono ?_)
       rintro e w' ⟨rfl, rfl⟩
       go_wp2_with fail
       go_round
       case rel => exact ⟨k + 1, by omega, by go_num, hn.out⟩
       case measure => simp [intOf]; omega
      | false =>
       have hnn : ¬ (97 ≤ (s[k]'hlt).toNat ∧ (s[k]'hlt).toNat ≤ 122) := by simpa [isSm] using hb
       have HN := Lib.hid hnn
       have HB := Lib.hid hb
       clear hnn
       cases c1 : decide ((65 : Int) ≤ ((s[k]'hlt).toNat : Int)) <;> cases c2 : decide (((s[k]'hlt).toNat : Int) ≤ 90) <;> cases c3 : decide ((48 : Int) ≤ ((s[k]'hlt).toNat : Int)) <;> cases c4 : decide (((s[k]'hlt).toNat : Int) ≤ 57) <;> cases c5 : (((s[k]'hlt).toNat : Int) != 95)
       all_goals
        have d1 := c1
        have d2 := c2
        have d3 := c3
        have d4 := c4
        have d5 := c5
        simp only [decide_eq_true_eq, decide_eq_false_iff_not, bne_iff_ne, bne_eq_false_iff_eq, ne_eq] at d1 d2 d3 d4 d5
        first
        | (exfalso; omega)
        | (have hw : isWd (s[k]'hlt) = true := by rw [wd_of]; omega
           have hn := Lib.hid (allP_next hlt hall hw)
           clear hw d1 d2 d3 d4 d5
           go_wp2_with fail
           (with_reducible refine (rlower _ _).mono ?_)
           rintro e w' ⟨rfl, rfl⟩
           go_wp2_with fail
           go_round
           case rel => exact ⟨k + 1, by omega, by go_num, hn.out⟩
           case measure => simp [intOf]; omega)
        | (have hw : isWd (s[k]'hlt) = false := by
            rw [Bool.eq_false_iff, ne_eq, wd_of]
            have := HN.out
            omega
           have hn := Lib.hid (allP_not hlt hw)
           clear hw d1 d2 d3 d4 d5
           go_wp2_with fail
           (with_reducible refine (rlower _ _).mono ?_)
           rintro e w' ⟨rfl, rfl⟩
           go_wp2_with fail
           go_ret
           exact ⟨ret_bool (by rw [A.out, hn.out]; simp), rfl⟩)
     ·have he : k = s.size := by omega
      subst he
      have hall2 := Lib.hid (allP_all hall)
      go_wp2_with fail
      go_ret
      exact ⟨ret_bool (by rw [A.out, A0.out, hall2.out, lst_len]; simp [HS.out, h64]), rfl⟩
  ·have h64' : ¬ (s.size : Int) ≤ 64 := by omega
   have B : Hid (atomOk (lst s) = false) := Lib.hid (by unfold atomOk; rw [lst_len]; simp [h64])
   clear hne
   go_enter Tryz.func114, Tryz.ntmps114
   go_wp2_with fail
   go_ret
   exact ⟨ret_bool B.out.symm, rfl⟩
 ·have hp1 : ¬ (1 : Int) ≤ (s.size : Int) := by omega
  have hz : lst s = [] := List.eq_nil_of_length_eq_zero (by rw [lst_len]; omega)
  have B : Hid (atomOk (lst s) = false) := Lib.hid (by rw [hz]; rfl)
  clear hz
  go_enter Tryz.func114, Tryz.ntmps114
  go_wp2_with fail
  go_ret
  exact ⟨ret_bool B.out.symm, rfl⟩
open Go.RowKit
theorem eqPid (a b c d : Int) (w : World) : (Op.equalIn 10000 49 (.agg #[.int .i64 a, .int .i64 b]) (.agg #[.int .i64 c, .int .i64 d])).run Tryz.prog w = .ok (a == c && b == d) w := by
 have u3 := Tryz.underlying3
 have a3 := Tryz.isAgg3
 have z3 := Tryz.sizeOf3
 rw [show (10000 : Nat) = 9999 + 1 from rfl, Op.equalIn]
 simp only [Sem.run_bind, run_underlying Tryz.underlying49, Result.andThen_ok]
 go_simp
 by_cases h1 : a = c <;> by_cases h2 : b = d <;> simp [h1, h2]
theorem okPart_bd {n : Int} (h : okPart n = true) : -1073741824 ≤ n ∧ n ≤ 1073741824 := by simpa [okPart] using h
theorem isW_lo : IsW 13965662444475908096 (-1073741824) := by rw [← fl_lo]; exact isW_fl _ (by decide)
theorem isW_hi : IsW 4742290407621132288 1073741824 := by rw [← fl_hi]; exact isW_fl _ (by decide)
theorem isW_z : IsW 0 0 := by have := isW_fl 0 (by decide); rwa [fl_0] at this
theorem part_w {n : Int} (h : okPart n = true) : IsW (floatOfInt .f64 n) n := isW_fl n (by have := okPart_bd h; omega)
theorem part_me {n : Int} (h : okPart n = true) : FloatKind.f64.format.order (floatOfInt .f64 n) (floatOfInt .f64 n) = some .eq := by
 rw [order_w (part_w h) (part_w h)]
 simp
theorem part_lo {n : Int} (h : okPart n = true) : FloatKind.f64.format.order (floatOfInt .f64 n) 13965662444475908096 = some .gt ∨ FloatKind.f64.format.order (floatOfInt .f64 n) 13965662444475908096 = some .eq := by
 rw [order_w (part_w h) isW_lo]
 have := okPart_bd h
 rcases Int.lt_trichotomy n (-1073741824) with h1 | h1 | h1
 ·omega
 ·right; rw [h1]; decide
 ·left; congr 1; exact Int.compare_eq_gt.2 h1
theorem part_hi {n : Int} (h : okPart n = true) : FloatKind.f64.format.order (floatOfInt .f64 n) 4742290407621132288 = some .lt ∨ FloatKind.f64.format.order (floatOfInt .f64 n) 4742290407621132288 = some .eq := by
 rw [order_w (part_w h) isW_hi]
 have := okPart_bd h
 rcases Int.lt_trichotomy n 1073741824 with h1 | h1 | h1
 ·left; congr 1; exact Int.compare_eq_lt.2 h1
 ·right; rw [h1]; decide
 ·omega
theorem part_no {n : Int} (h : okPart n = true) (h0 : n ≠ 0) : FloatKind.f64.format.order (floatOfInt .f64 n) 0 = some .gt ∨ FloatKind.f64.format.order (floatOfInt .f64 n) 0 = some .lt := by
 rw [order_w (part_w h) isW_z]
 rcases Int.lt_trichotomy n 0 with h1 | h1 | h1
 ·right; congr 1; exact Int.compare_eq_lt.2 h1
 ·exact absurd h1 h0
 ·left; congr 1; exact Int.compare_eq_gt.2 h1
theorem call_trunc (x : Nat) (w : World) (h : ∀ w, (Extern.MathFloor.toIntegral "math.archTrunc" .zero #[.float .f64 x]).run Tryz.prog w = .ok (.float .f64 x) w) :
 (callFunc 127 #[.float .f64 x]).run Tryz.prog w = .ok (.value (.float .f64 x)) w := by
 rw [run_callFunc_extern (e := Extern.MathFloor.toIntegral "math.archTrunc" .zero) Tryz.func127 (by kernel_rfl) (by kernel_rfl) (by kernel_rfl) (by kernel_rfl), h]
 rfl
theorem trunc_any (n : Int) (w : World) (h : okPart n = true) : Calls Tryz.prog 120 #[.float .f64 (floatOfInt .f64 n)] w fun e w' => e = .returned (.float .f64 (floatOfInt .f64 n)) ∧ w = w' := by
 have hb := okPart_bd h
 have hc := fun w => call_trunc (floatOfInt .f64 n) w (fun w => trunc_fl Tryz.prog n (by omega) w)
 clear h hb
 generalize floatOfInt .f64 n = x at hc ⊢
 go_enter Tryz.func120, Tryz.ntmps120
 go_wp2_with fail
 go_ret
 exact ⟨rfl, rfl⟩
theorem signbit_0 (w : World) : Calls Tryz.prog 121 #[.float .f64 0] w fun e w' => e = .returned (.bool false) ∧ w = w' := by
 have hc : ∀ w, (callFunc 129 #[.float .f64 0]).run Tryz.prog w = .ok (.value (.int .u64 0)) w := fun w => by kernel_rfl
 go_enter Tryz.func121, Tryz.ntmps121
 go_wp2_with fail
 go_ret
 exact ⟨rfl, rfl⟩
theorem is_part (n : Int) (w : World) (h : okPart n = true) : Calls Tryz.prog 104 #[.float .f64 (floatOfInt .f64 n)] w fun e w' => e = .returned (.bool true) ∧ w = w' := by
 have H := Lib.hid h
 have e1 := part_me h
 by_cases h0 : n = 0
 ·subst h0
  have T0 := fun w => trunc_any 0 w h
  have z0 : FloatKind.f64.format.order 0 0 = some .eq := by decide
  have z1 : FloatKind.f64.format.order 0 13965662444475908096 = some .gt := by decide
  have z2 : FloatKind.f64.format.order 0 4742290407621132288 = some .lt := by decide
  rw [fl_0] at T0 ⊢
  have T := Lib.hid T0
  clear h e1 H T0
  go_enter Tryz.func104, Tryz.ntmps104
  go_wp2_with fail
  (with_reducible refine (T.out _).mono ?_)
  rintro e w' ⟨rfl, rfl⟩
  go_wp2_with fail
  (with_reducible refine (signbit_0 _).mono ?_)
  rintro e w' ⟨rfl, rfl⟩
  go_wp2_with fail
  go_ret
  exact ⟨rfl, rfl⟩
 ·have h2 := part_lo h
  have h3 := part_hi h
  have h4 := part_no h h0
  have T := Lib.hid (fun w => trunc_any n w h)
  clear h h0 H
  generalize floatOfInt .f64 n = x at T e1 h2 h3 h4 ⊢
  rcases h2 with h2 | h2 <;> rcases h3 with h3 | h3 <;> rcases h4 with h4 | h4
  all_goals
   go_enter Tryz.func104, Tryz.ntmps104
   go_wp2_with fail
   (with_reducible refine (T.out _).mono ?_)
   rintro e w' ⟨rfl, rfl⟩
   go_wp2_with fail
   go_ret
   exact ⟨rfl, rfl⟩
open Go.RowKit
theorem is_int (n : Int) (w : World) : Calls Tryz.prog 103 #[.int .i64 n] w fun e w' => e = .returned (.bool (OkI n)) ∧ w = w' := by
 go_enter Tryz.func103, Tryz.ntmps103
 go_wp2_with fail
 all_goals
  go_ret
  exact ⟨ret_bool (by rw [Bool.eq_iff_iff]; simp [OkI]; omega), rfl⟩
theorem is_count (n : Int) (w : World) : Calls Tryz.prog 106 #[.int .i64 n] w fun e w' => e = .returned (.bool (okCnt n)) ∧ w = w' := by
 go_enter Tryz.func106, Tryz.ntmps106
 go_wp2_with fail
 all_goals
  go_ret
  exact ⟨ret_bool (by rw [Bool.eq_iff_iff]; simp [okCnt]; omega), rfl⟩
theorem z64 : FloatKind.f64.format.order 0 0 = some .eq := by decide
theorem bt (b : Bool) : (b = true) ∨ (b = false) := by cases b <;> simp
theorem may_nil (w : World) : Calls Tryz.prog 91 #[.agg (tcs 1 0 0 0 ⟨#[]⟩ 0 0 (.slice none 0 0))] w fun e w' => e = .returned (.bool true) ∧ Only [] w w' := by
 have z0 := z64
 have e0 := eqPid 0 0 0 0
 go_enter Tryz.func91, Tryz.ntmps91
 go_wp2_with fail
 go_quiet (fail)
 go_wp2_with fail
 go_ret
 exact ⟨rfl, ((Only.refl _ _).alloc _).drewN _⟩
theorem may_bool1 (n : Int) (w : World) (hn : n = 0 ∨ n = 1) : Calls Tryz.prog 91 #[.agg (tcs 2 n 0 0 ⟨#[]⟩ 0 0 (.slice none 0 0))] w fun e w' => e = .returned (.bool true) ∧ Only [] w w' := by
 have z0 := z64
 have e0 := eqPid 0 0 0 0
 rcases hn with rfl | rfl
 all_goals
  go_enter Tryz.func91, Tryz.ntmps91
  go_wp2_with fail
  go_quiet (fail)
  go_wp2_with fail
  go_ret
  exact ⟨rfl, ((Only.refl _ _).alloc _).drewN _⟩
theorem may_bool (n : Int) (r : Bool) (w : World) (hr : okBool n = r) : Calls Tryz.prog 91 #[.agg (tcs 2 n 0 0 ⟨#[]⟩ 0 0 (.slice none 0 0))] w fun e w' => e = .returned (.bool r) ∧ Only [] w w' := by
 by_cases hn : n = 0 ∨ n = 1
 ·rw [← hr, show okBool n = true from decide_eq_true hn]
  exact may_bool1 n w hn
 ·rw [← hr, show okBool n = false from decide_eq_false hn]
  have z0 := z64
  have e0 := eqPid 0 0 0 0
  have n0 : ¬ n = 0 := fun h => hn (.inl h)
  have n1 : ¬ n = 1 := fun h => hn (.inr h)
  have d0 : (n == 0) = false := by simp [n0]
  have d1 : (n == 1) = false := by simp [n1]
  clear hn hr
  go_enter Tryz.func91, Tryz.ntmps91
  go_wp2_with fail
  go_quiet (fail)
  go_wp2_with fail
  go_ret
  exact ⟨rfl, ((Only.refl _ _).alloc _).drewN _⟩
theorem may_int (n : Int) (r : Bool) (w : World) (hr : OkI n = r) : Calls Tryz.prog 91 #[.agg (tcs 3 n 0 0 ⟨#[]⟩ 0 0 (.slice none 0 0))] w fun e w' => e = .returned (.bool r) ∧ Only [] w w' := by
 have z0 := z64
 have e0 := eqPid 0 0 0 0
 have H := Lib.hid (fun w => is_int n w)
 subst hr
 rcases bt (OkI n) with hb | hb
 all_goals
  rw [hb] at H ⊢
  clear hb
  go_enter Tryz.func91, Tryz.ntmps91
  go_wp2_with fail
  go_quiet (fail)
  go_wp2_with fail
  (with_reducible refine (H.out _).mono ?_)
  rintro e w' ⟨rfl, rfl⟩
  go_wp2_with fail
  go_ret
  exact ⟨rfl, ((Only.refl _ _).alloc _).drewN _⟩
theorem may_ref (n : Int) (r : Bool) (w : World) (hr : okCnt n = r) : Calls Tryz.prog 91 #[.agg (tcs 7 n 0 0 ⟨#[]⟩ 0 0 (.slice none 0 0))] w fun e w' => e = .returned (.bool r) ∧ Only [] w w' := by
 have z0 := z64
 have e0 := eqPid 0 0 0 0
 have H := Lib.hid (fun w => is_count n w)
 subst hr
 rcases bt (okCnt n) with hb | hb
 all_goals
  rw [hb] at H ⊢
  clear hb
  go_enter Tryz.func91, Tryz.ntmps91
  go_wp2_with fail
  go_quiet (fail)
  go_wp2_with fail
  (with_reducible refine (H.out _).mono ?_)
  rintro e w' ⟨rfl, rfl⟩
  go_wp2_with fail
  go_ret
  exact ⟨rfl, ((Only.refl _ _).alloc _).drewN _⟩
theorem may_atom (s : ByteArray) (r : Bool) (w : World) (hs : s.size ≤ 262144) (hr : atomOk (lst s) = r) : Calls Tryz.prog 91 #[.agg (tcs 5 0 0 0 s 0 0 (.slice none 0 0))] w fun e w' => e = .returned (.bool r) ∧ Only [] w w' := by
 have z0 := z64
 have e0 := eqPid 0 0 0 0
 have H := Lib.hid (fun w => is_atom s w hs)
 subst hr
 rcases bt (atomOk (lst s)) with hb | hb
 all_goals
  rw [hb] at H ⊢
  clear hb
  go_enter Tryz.func91, Tryz.ntmps91
  go_wp2_with fail
  go_quiet (fail)
  go_wp2_with fail
  (with_reducible refine (H.out _).mono ?_)
  rintro e w' ⟨rfl, o1⟩
  have O1 := Lib.hid ((((Only.refl [] w).alloc _).drewN _).trans o1 (by simp))
  clear o1
  go_wp2_with fail
  go_ret
  exact ⟨rfl, O1.out⟩
theorem may_com (a b : Int) (w : World) (ha : okPart a = true) (hb : okPart b = true) : Calls Tryz.prog 91 #[.agg (tcs 4 0 (floatOfInt .f64 a) (floatOfInt .f64 b) ⟨#[]⟩ 0 0 (.slice none 0 0))] w fun e w' => e = .returned (.bool true) ∧ Only [] w w' := by
 have e0 := eqPid 0 0 0 0
 have HA := Lib.hid (fun w => is_part a w ha)
 have HB := Lib.hid (fun w => is_part b w hb)
 clear ha hb
 generalize floatOfInt .f64 a = x at HA ⊢
 generalize floatOfInt .f64 b = y at HB ⊢
 go_enter Tryz.func91, Tryz.ntmps91
 go_wp2_with fail
 go_quiet (fail)
 go_wp2_with fail
 (with_reducible refine (HA.out _).mono ?_)
 rintro e w' ⟨rfl, rfl⟩
 go_wp2_with fail
 (with_reducible refine (HB.out _).mono ?_)
 rintro e w' ⟨rfl, rfl⟩
 go_wp2_with fail
 go_ret
 exact ⟨rfl, ((Only.refl _ _).alloc _).drewN _⟩
theorem may_pid (a b : Int) (r : Bool) (w : World) (hr : okPid a b = r) : Calls Tryz.prog 91 #[.agg (tcs 6 0 0 0 ⟨#[]⟩ a b (.slice none 0 0))] w fun e w' => e = .returned (.bool r) ∧ Only [] w w' := by
 have z0 := z64
 have e0 := eqPid a b 0 0
 have H := Lib.hid (fun w => is_count b w)
 subst hr
 cases h1 : decide (0 ≤ a) with
 | false =>
  have R := Lib.hid (show okPid a b = false by simp only [okPid, h1]; rfl)
  go_enter Tryz.func91, Tryz.ntmps91
  go_wp2_with fail
  go_quiet (fail)
  go_wp2_with fail
  go_ret
  exact ⟨ret_bool R.out.symm, ((Only.refl _ _).alloc _).drewN _⟩
 | true =>
  cases h2 : decide (a < 256) with
  | false =>
   have R := Lib.hid (show okPid a b = false by simp only [okPid, h1, h2]; rfl)
   go_enter Tryz.func91, Tryz.ntmps91
   go_wp2_with fail
   go_quiet (fail)
   go_wp2_with fail
   go_ret
   exact ⟨ret_bool R.out.symm, ((Only.refl _ _).alloc _).drewN _⟩
  | true =>
   have R := Lib.hid (show okPid a b = okCnt b by simp only [okPid, h1, h2, okCnt]; rfl)
   rcases bt (okCnt b) with hb | hb
   all_goals
    rw [hb] at H R
    clear hb
    go_enter Tryz.func91, Tryz.ntmps91
    go_wp2_with fail
    go_quiet (fail)
    go_wp2_with fail
    (with_reducible refine (H.out _).mono ?_)
    rintro e w' ⟨rfl, rfl⟩
    go_wp2_with fail
    go_ret
    exact ⟨ret_bool R.out.symm, ((Only.refl _ _).alloc _).drewN _⟩
theorem may_tup (k : Int) (hk : k = 8 ∨ k = 9) (A : Option Addr) (n c : Nat) (w : World) : Calls Tryz.prog 91 #[.agg (tcs k 0 0 0 ⟨#[]⟩ 0 0 (.slice A n c))] w fun e w' => e = .returned (.bool true) ∧ Only [] w w' := by
 have z0 := z64
 have e0 := eqPid 0 0 0 0
 rcases hk with rfl | rfl
 all_goals
  go_enter Tryz.func91, Tryz.ntmps91
  go_wp2_with fail
  go_quiet (fail)
  go_wp2_with fail
  go_ret
  exact ⟨rfl, ((Only.refl _ _).alloc _).drewN _⟩
end Go.Proofs.YtcdefnbehlcgeaaGreatDoor
