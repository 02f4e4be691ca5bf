/- text: what the reader holds, as a state of the machine; reader.put, reader.end. text: reader.take: which of the reader's methods a token asks for. text: reader.take as a step of the machine. text: reader.take, by a token of the text, is a step of the machine. What every state of the machine keeps: how big it is, which trees it holds. -/
import Derived.Test.YtlilfmpikampgaaGreatDoorPY4
namespace Go.Proofs.YtlilfmpikampgaaGreatDoor
open Go.RowKit

/-- The reader's block holds a state of the machine. -/
def Holds (w : World) (base rb : Nat) : MS → Prop
  | .go stk md => md ≤ 2 ∧ ∃ (F : Nat → Prop) (bv : Value) (ps : List (Opn × Value)) (u0 u1 u2 u3 u4 u5 u6 : Value), stk = ps.map (·.1) ∧ Bk w rb 123 (rcs md bv u0 u1 u2 u3 u4 u5 u6) ∧ Rdr w base F bv ps
  | .whole t => ∃ (F : Nat → Prop) (A : Option Addr) (n cap : Nat) (sl : Value), Bk w rb 123 (rcs 3 (.slice A n cap) (.int .i64 t.k) (.int .i64 t.n) (.complex .f64 t.x t.y) (.string t.S) (.int .i64 t.a) (.int .i64 t.b) sl) ∧ TV w F t sl ∧ (∀ b, F b → base ≤ b ∧ b < w.heap.size)
theorem put_any (w : World) (base rb : Nat) (F : Nat → Prop) (st : Int) (bv sl : Value) (ps : List (Opn × Value)) (u0 u1 u2 u3 u4 u5 u6 : Value) (t : T)
    (hb : Bk w rb 123 (rcs st bv u0 u1 u2 u3 u4 u5 u6)) (hr : Rdr w base F bv ps) (ht : TV w F t sl)
    (hl : ∀ p ∈ ps, p.1.items.length ≤ 262144) (hl2 : ps.length ≤ 262144) (hrb : rb < base) :
    Calls Tryz.prog 102 #[.pointer (some ⟨rb, 0, none⟩), .agg (tcs t.k t.n t.x t.y t.S t.a t.b sl)] w fun e w' => e = .returned (.tuple #[]) ∧ Low base rb w w' ∧ Holds w' base rb (put (ps.map (·.1)) t) := by
  obtain ⟨B, m', c', rfl⟩ := ht.slice
  cases ps with
  | nil =>
    obtain ⟨A, cap, rfl⟩ : ∃ A cap, bv = .slice A 0 cap := by
      rcases hr.row.2 with ⟨h, _⟩ | ⟨g, cap, cur, h, _⟩
      · exact ⟨none, 0, h⟩
      · exact ⟨_, _, h⟩
    refine (put_whole w rb st A B cap m' c' u0 u1 u2 u3 u4 u5 u6 _ _ _ _ _ _ _ hb).mono ?_
    rintro e w' ⟨rfl, o1, b1⟩
    exact ⟨rfl, Low.of hb o1, F, _, _, _, _, b1, TV.only o1 (fun b hb hf => by
      have := (hr.fr b hf).1
      have := List.mem_singleton.1 hb
      omega) (fun _ h => h) t _ ht, fun b hb => ⟨(hr.fr b hb).1, Nat.lt_of_lt_of_le (hr.fr b hb).2 o1.size⟩⟩
  | cons p ps =>
    obtain ⟨o, sl⟩ := p
    obtain ⟨bg, cap, rfl⟩ : ∃ bg cap, bv = .slice (some ⟨bg, 0, none⟩) (ps.length + 1) cap := by
      rcases hr.row.2 with ⟨_, h⟩ | ⟨g, cap, cur, h, _⟩
      · simp at h
      · exact ⟨_, _, h⟩
    refine (put_top w base rb F st bg cap o sl B m' c' ps u0 u1 u2 u3 u4 u5 u6 t hb hr ht (hl (o, sl) (by simp)) (by simp at hl2; omega) hrb).mono ?_
    rintro e w' ⟨rfl, o1, b1, sl', r1⟩
    exact ⟨rfl, o1, by omega, F, _, _, _, _, _, _, _, _, _, rfl, b1, r1⟩

set_option maxHeartbeats 2000000 in
theorem end_no (w : World) (rb : Nat) (k st : Int) (A : Option Addr) (n cap : Nat) (u0 u1 u2 u3 u4 u5 u6 : Value) (hb : Bk w rb 123 (rcs st (.slice A n cap) u0 u1 u2 u3 u4 u5 u6)) (h1 : st ≠ 1) (h2 : st ≠ 2) :
    Calls Tryz.prog 99 #[.pointer (some ⟨rb, 0, none⟩), .int .i64 k] w fun e w' => e = .returned (.bool false) ∧ Only [rb] w w' := by
  obtain ⟨c0, c1, c2, c3, c4, c5, c6, c7, c8⟩ := hb.nine
  clear hb
  have e1 : (st == 1) = false := by simpa using h1
  have e2 : (st == 2) = false := by simpa using h2
  go_enter Tryz.func99, Tryz.ntmps99
  go_wp2_with fail
  go_ret
  exact ⟨rfl, Only.refl _ _⟩
set_option maxHeartbeats 2000000 in
theorem end_kind (w : World) (base rb : Nat) (F : Nat → Prop) (k st : Int) (bg cap : Nat) (o : Opn) (sl : Value) (ps : List (Opn × Value)) (u0 u1 u2 u3 u4 u5 u6 : Value) (hb : Bk w rb 123 (rcs st (.slice (some ⟨bg, 0, none⟩) (ps.length + 1) cap) u0 u1 u2 u3 u4 u5 u6)) (hr : Rdr w base F (.slice (some ⟨bg, 0, none⟩) (ps.length + 1) cap) ((o, sl) :: ps))
    (h1 : st = 1 ∨ st = 2) (hk : o.k ≠ k) (hl2 : ps.length ≤ 262144) :
    Calls Tryz.prog 99 #[.pointer (some ⟨rb, 0, none⟩), .int .i64 k] w fun e w' => e = .returned (.bool false) ∧ Only [rb] w w' := by
  obtain ⟨c0, c1, c2, c3, c4, c5, c6, c7, c8⟩ := hb.nine
  have K0 : w.cell? ⟨bg, ps.length * 7, none⟩ = some (.int .i64 o.k) := Row.cell hr.row (ps.length * 7) _ (by
    show (ocs ps ++ (tcs o.k 0 0 0 ⟨#[]⟩ 0 0 sl).toList)[ps.length * 7]? = _
    rw [List.getElem?_append_right (by rw [ocs_len]; omega), ocs_len, Nat.sub_self]
    rfl)
  have q2 : ((ps.length : Int) < (ps.length : Int) + 1) := by omega
  have q3 : wrap64 (ps.length : Int) = (ps.length : Int) := wrap64_in (by omega) (by omega)
  have ek : (o.k == k) = false := by simpa using hk
  clear hb hr
  rcases h1 with rfl | rfl
  all_goals
    go_enter Tryz.func99, Tryz.ntmps99
    go_wp2_with fail
    go_ret
    exact ⟨rfl, Only.refl _ _⟩
set_option maxHeartbeats 2000000 in
theorem end_yes (w : World) (base rb : Nat) (F : Nat → Prop) (k st : Int) (bg cap : Nat) (o : Opn) (sl : Value) (ps : List (Opn × Value)) (u0 u1 u2 u3 u4 u5 u6 : Value) (hb : Bk w rb 123 (rcs st (.slice (some ⟨bg, 0, none⟩) (ps.length + 1) cap) u0 u1 u2 u3 u4 u5 u6)) (hr : Rdr w base F (.slice (some ⟨bg, 0, none⟩) (ps.length + 1) cap) ((o, sl) :: ps))
    (h1 : st = 1 ∨ st = 2) (hk : o.k = k) (hl : ∀ p ∈ ps, p.1.items.length ≤ 262144) (hl2 : ps.length ≤ 262144) (hrb : rb < base) :
    Calls Tryz.prog 99 #[.pointer (some ⟨rb, 0, none⟩), .int .i64 k] w fun e w' => e = .returned (.bool true) ∧ Low base rb w w' ∧ Holds w' base rb (put (ps.map (·.1)) (.tup o.k o.items)) := by
  subst hk
  have rs := store_com
  obtain ⟨F', hF, hr2, ht2⟩ := hr.shut
  obtain ⟨B, m', c', rfl⟩ := ht2.slice
  obtain ⟨c0, c1, c2, c3, c4, c5, c6, c7, c8⟩ := hb.nine
  have cf := hb.free
  have KK : ∀ j u, (tcs o.k 0 0 0 ⟨#[]⟩ 0 0 (.slice B m' c')).toList[j]? = some u → w.cell? ⟨bg, ps.length * 7 + j, none⟩ = some u := fun j u hj => Row.cell hr.row (ps.length * 7 + j) _ (by
    show (ocs ps ++ (tcs o.k 0 0 0 ⟨#[]⟩ 0 0 (.slice B m' c')).toList)[ps.length * 7 + j]? = _
    rw [List.getElem?_append_right (by rw [ocs_len]; omega), ocs_len, Nat.add_sub_cancel_left]
    exact hj)
  have K0 : w.cell? ⟨bg, ps.length * 7, none⟩ = some (.int .i64 o.k) := KK 0 _ rfl
  have K1 := KK 1 _ rfl
  have K2 := KK 2 _ rfl
  have K3 := KK 3 _ rfl
  have K4 := KK 4 _ rfl
  have K5 := KK 5 _ rfl
  have K6 := KK 6 _ rfl
  have q2 : ((ps.length : Int) < (ps.length : Int) + 1) := by omega
  have q3 : wrap64 (ps.length : Int) = (ps.length : Int) := wrap64_in (by omega) (by omega)
  have hlt := hb.lt
  have hlt2 := (Row.block hr.row (g := bg) rfl).2
  have hcap : ps.length ≤ cap := by
    rcases hr2.row.2 with ⟨h, _⟩ | ⟨g, cap', cur, h, _, _, h3, _⟩
    · cases h
    · injection h with _ _ h; omega
  have O2 : ∀ o1, Only [rb] w ((w.setCell ⟨rb, 1, none⟩ (.slice (some ⟨bg, 0, none⟩) ps.length cap)).alloc o1) := fun o1 => ((Only.refl [rb] w).set (p := ⟨rb, 1, none⟩) (.inl (by simp)) _).alloc o1
  have hS : ∀ b ∈ [rb], b < base := by simpa using hrb
  have C := Lib.hid (show ∀ o1, Calls Tryz.prog 102 #[.pointer (some ⟨rb, 0, none⟩), .agg #[.int .i64 o.k, .int .i64 0, .complex .f64 0 0, .string ⟨#[]⟩, .int .i64 0, .int .i64 0, .slice B m' c']] ((w.setCell ⟨rb, 1, none⟩ (.slice (some ⟨bg, 0, none⟩) ps.length cap)).alloc o1) fun e w' => e = .returned (.tuple #[]) ∧ Low base rb w w' ∧ Holds w' base rb (put (ps.map (·.1)) (.tup o.k o.items)) from fun o1 =>
    (put_any _ base rb F' st _ (.slice B m' c') ps u0 u1 u2 u3 u4 u5 u6 (.tup o.k o.items) ((hb.setTo 1 _ (rcs st (.slice (some ⟨bg, 0, none⟩) ps.length cap) u0 u1 u2 u3 u4 u5 u6) rfl).alloc o1) (hr2.only (O2 o1) hS) (TV.only (O2 o1) (fun b hb hf => by have := hS b hb; have := (hr2.fr b hf).1; omega) (fun _ h => h) _ _ ht2) hl hl2 hrb).mono
      fun _ _ ⟨h1, h2, h3⟩ => ⟨h1, (Low.of hb (O2 o1)).trans h2, h3⟩)
  clear hb hr hr2 ht2 O2 KK hS
  rcases h1 with rfl | rfl
  all_goals
    go_enter Tryz.func99, Tryz.ntmps99
    go_wp2_with fail
    (with_reducible refine (C.out _).mono ?_)
    rintro e w' ⟨rfl, o1, b1⟩
    go_wp2_with fail
    go_ret
    exact ⟨rfl, o1, b1⟩
end Go.Proofs.YtlilfmpikampgaaGreatDoor

namespace Go.Proofs.YtlilfmpikampgaaGreatDoor
open Go.RowKit

theorem lit_no {q : ByteArray} {l m : List UInt8} (h : lst q = l) (hne : l ≠ m) : (q.toList == m) = false := by rw [eq_list, h]; simpa using hne
theorem lit_yes {q : ByteArray} {l : List UInt8} (h : lst q = l) : (q.toList == l) = true := by rw [eq_list, h]; simp
set_option maxHeartbeats 1000000 in
theorem take_123 (q : ByteArray) (w : World) (r : Value) (R : Bool → World → Prop) (h : lst q = [123]) (C : Calls Tryz.prog 98 #[r, .int .i64 8] w fun e w' => ∃ b, e = .returned (.bool b) ∧ R b w') :
    Calls Tryz.prog 85 #[r, .string q] w fun e w' => ∃ b, e = .returned (.bool b) ∧ R b w' := by
  have e1 := lit_yes h
  have C := Lib.hid C
  clear h
  go_enter Tryz.func85, Tryz.ntmps85
  go_wp2_with fail
  (with_reducible refine C.out.mono ?_)
  rintro e w' ⟨b, rfl, hR⟩
  go_wp2_with fail
  go_ret
  exact ⟨b, rfl, hR⟩
set_option maxHeartbeats 1000000 in
theorem take_91 (q : ByteArray) (w : World) (r : Value) (R : Bool → World → Prop) (h : lst q = [91]) (C : Calls Tryz.prog 98 #[r, .int .i64 9] w fun e w' => ∃ b, e = .returned (.bool b) ∧ R b w') :
    Calls Tryz.prog 85 #[r, .string q] w fun e w' => ∃ b, e = .returned (.bool b) ∧ R b w' := by
  have e1 := lit_no h (m := [123]) (by decide)
  have e2 := lit_yes h
  have C := Lib.hid C
  clear h
  go_enter Tryz.func85, Tryz.ntmps85
  go_wp2_with fail
  (with_reducible refine C.out.mono ?_)
  rintro e w' ⟨b, rfl, hR⟩
  go_wp2_with fail
  go_ret
  exact ⟨b, rfl, hR⟩
set_option maxHeartbeats 1000000 in
theorem take_125 (q : ByteArray) (w : World) (r : Value) (R : Bool → World → Prop) (h : lst q = [125]) (C : Calls Tryz.prog 99 #[r, .int .i64 8] w fun e w' => ∃ b, e = .returned (.bool b) ∧ R b w') :
    Calls Tryz.prog 85 #[r, .string q] w fun e w' => ∃ b, e = .returned (.bool b) ∧ R b w' := by
  have e1 := lit_no h (m := [123]) (by decide)
  have e2 := lit_no h (m := [91]) (by decide)
  have e3 := lit_yes h
  have C := Lib.hid C
  clear h
  go_enter Tryz.func85, Tryz.ntmps85
  go_wp2_with fail
  (with_reducible refine C.out.mono ?_)
  rintro e w' ⟨b, rfl, hR⟩
  go_wp2_with fail
  go_ret
  exact ⟨b, rfl, hR⟩
set_option maxHeartbeats 1000000 in
theorem take_93 (q : ByteArray) (w : World) (r : Value) (R : Bool → World → Prop) (h : lst q = [93]) (C : Calls Tryz.prog 99 #[r, .int .i64 9] w fun e w' => ∃ b, e = .returned (.bool b) ∧ R b w') :
    Calls Tryz.prog 85 #[r, .string q] w fun e w' => ∃ b, e = .returned (.bool b) ∧ R b w' := by
  have e1 := lit_no h (m := [123]) (by decide)
  have e2 := lit_no h (m := [91]) (by decide)
  have e3 := lit_no h (m := [125]) (by decide)
  have e4 := lit_yes h
  have C := Lib.hid C
  clear h
  go_enter Tryz.func85, Tryz.ntmps85
  go_wp2_with fail
  (with_reducible refine C.out.mono ?_)
  rintro e w' ⟨b, rfl, hR⟩
  go_wp2_with fail
  go_ret
  exact ⟨b, rfl, hR⟩
set_option maxHeartbeats 1000000 in
theorem take_44 (q : ByteArray) (w : World) (r : Value) (R : Bool → World → Prop) (h : lst q = [44]) (C : Calls Tryz.prog 100 #[r] w fun e w' => ∃ b, e = .returned (.bool b) ∧ R b w') :
    Calls Tryz.prog 85 #[r, .string q] w fun e w' => ∃ b, e = .returned (.bool b) ∧ R b w' := by
  have e1 := lit_no h (m := [123]) (by decide)
  have e2 := lit_no h (m := [91]) (by decide)
  have e3 := lit_no h (m := [125]) (by decide)
  have e4 := lit_no h (m := [93]) (by decide)
  have e5 := lit_yes h
  have C := Lib.hid C
  clear h
  go_enter Tryz.func85, Tryz.ntmps85
  go_wp2_with fail
  (with_reducible refine C.out.mono ?_)
  rintro e w' ⟨b, rfl, hR⟩
  go_wp2_with fail
  go_ret
  exact ⟨b, rfl, hR⟩
/-- No sign. -/
def Plain (q : ByteArray) : Prop := lst q ≠ [123] ∧ lst q ≠ [91] ∧ lst q ≠ [125] ∧ lst q ≠ [93] ∧ lst q ≠ [44]
set_option maxHeartbeats 1000000 in
theorem take_late (q : ByteArray) (w : World) (rb : Nat) (st : Int) (h : Plain q) (hc : w.cell? ⟨rb, 0, none⟩ = some (.int .i64 st)) (hst : 1 < st) :
    Calls Tryz.prog 85 #[.pointer (some ⟨rb, 0, none⟩), .string q] w fun e w' => e = .returned (.bool false) ∧ Only [rb] w w' := by
  obtain ⟨h1, h2, h3, h4, h5⟩ := h
  have e1 := lit_no rfl h1
  have e2 := lit_no rfl h2
  have e3 := lit_no rfl h3
  have e4 := lit_no rfl h4
  have e5 := lit_no rfl h5
  have e6 : decide (1 < st) = true := by simpa using hst
  clear h1 h2 h3 h4 h5
  go_enter Tryz.func85, Tryz.ntmps85
  go_wp2_with fail
  go_ret
  exact ⟨rfl, Only.refl _ _⟩
set_option maxHeartbeats 2000000 in
theorem take_leaf (q : ByteArray) (w : World) (base rb : Nat) (st : Int) (R : T → World → Prop) (h : Plain q) (hb : ∃ cs, Bk w rb 123 cs ∧ cs[0]? = some (.int .i64 st)) (hst : st ≤ 1) (hT : TokOk q) (hv : Vars w)
    (hP : ∀ t, lf q = some t → ∀ w1, Only [] w w1 → Calls Tryz.prog 102 #[.pointer (some ⟨rb, 0, none⟩), .agg (tcs t.k t.n t.x t.y t.S t.a t.b (.slice none 0 0))] w1 fun e w' => e = .returned (.tuple #[]) ∧ Low base rb w1 w' ∧ R t w') :
    Calls Tryz.prog 85 #[.pointer (some ⟨rb, 0, none⟩), .string q] w fun e w' => ∃ b, e = .returned (.bool b) ∧ Low base rb w w' ∧ (b = true → ∃ t, lf q = some t ∧ R t w') ∧ (b = false → lf q = none) := by
  obtain ⟨h1, h2, h3, h4, h5⟩ := h
  obtain ⟨cs, hb, hcs⟩ := hb
  have c0 := hb.cell0 hcs
  have rs := store_com
  have e1 := lit_no rfl h1
  have e2 := lit_no rfl h2
  have e3 := lit_no rfl h3
  have e4 := lit_no rfl h4
  have e5 := lit_no rfl h5
  have e6 : decide (1 < st) = false := by simp; omega
  have L := Lib.hid (fun w hv => leaf_any q w hT hv)
  have HP := Lib.hid hP
  have HV := Lib.hid hv
  clear h1 h2 h3 h4 h5 hb hT hP hv
  go_enter Tryz.func85, Tryz.ntmps85
  go_wp2_with fail
  (with_reducible refine (L.out _ HV.out).mono ?_)
  rintro e w1 ⟨⟨k, n, x, y, S, a, b, ok, rfl, hy, hno⟩, o1⟩
  cases hr : lf q with
  | none =>
    have h1 : ok = false := hno hr
    subst h1
    have O1 := Lib.hid (fun o2 => Low.of0 (base := base) (rb := rb) (o1.alloc o2))
    have HR := Lib.hid hr
    clear hy hno hr o1
    go_wp2_with fail
    go_ret
    exact ⟨false, rfl, O1.out _, by simp, fun _ => HR.out⟩
  | some t =>
    obtain ⟨h1, h2⟩ := hy t hr
    subst h1
    have hk : k = t.k := by have := congrArg (·[0]?) h2; simpa [T.cs] using this
    have hn : n = t.n := by have := congrArg (·[1]?) h2; simpa [T.cs] using this
    have hx : x = t.x ∧ y = t.y := by have := congrArg (·[2]?) h2; simpa [T.cs] using this
    have hS : S = t.S := by have := congrArg (·[3]?) h2; simpa [T.cs] using this
    have ha : a = t.a := by have := congrArg (·[4]?) h2; simpa [T.cs] using this
    have hb : b = t.b := by have := congrArg (·[5]?) h2; simpa [T.cs] using this
    obtain ⟨hx, hy2⟩ := hx
    subst hk hn hx hy2 hS ha hb
    have O1 := Lib.hid (fun o2 => (o1.alloc o2))
    have HR := Lib.hid hr
    have O2 := Lib.hid (fun o2 => Low.of0 (base := base) (rb := rb) (o1.alloc o2))
    clear hno hr o1 h2 hy
    go_wp2_with fail
    (with_reducible refine (HP.out t HR.out _ (O1.out _)).mono ?_)
    rintro e w2 ⟨rfl, l2, r2⟩
    go_wp2_with fail
    go_ret
    exact ⟨true, rfl, (O2.out _).trans l2, fun _ => ⟨t, HR.out, r2⟩, by simp⟩
end Go.Proofs.YtlilfmpikampgaaGreatDoor

namespace Go.Proofs.YtlilfmpikampgaaGreatDoor
open Go.RowKit

/-- How big a state of the machine can be in a text. -/
def Small : MS → Prop
  | .go stk md => stk.length ≤ 262144 ∧ (∀ o ∈ stk, o.items.length ≤ 262144) ∧ (md ≠ 0 → stk ≠ [])
  | .whole _ => True
theorem Rdr.slice {w : World} {base : Nat} {F : Nat → Prop} {bv : Value} {ps : List (Opn × Value)} (h : Rdr w base F bv ps) : ∃ A cap, bv = .slice A ps.length cap := by
  rcases h.row.2 with ⟨h, h0⟩ | ⟨g, cap, cur, h, _⟩
  · exact ⟨none, 0, by rw [h, h0]⟩
  · exact ⟨_, _, h⟩
theorem begin_any (w : World) (base rb : Nat) (k : Int) (σ : MS) (hh : Holds w base rb σ) (hrb : rb < base) (hs : Small σ) :
    Calls Tryz.prog 98 #[.pointer (some ⟨rb, 0, none⟩), .int .i64 k] w fun e w' => ∃ b, e = .returned (.bool b) ∧ Low base rb w w' ∧ (b = true → ∃ stk md, σ = .go stk md ∧ md ≠ 2 ∧ Holds w' base rb (.go (⟨k, []⟩ :: stk) 1)) ∧ (b = false → ∀ stk md, σ = .go stk md → md = 2) := by
  cases σ with
  | whole t =>
    obtain ⟨F, A, n, cap, sl, hb, _⟩ := hh
    refine (begin_no w rb k 3 _ _ _ _ _ _ _ _ hb (by omega)).mono ?_
    rintro e w' ⟨rfl, o1⟩
    exact ⟨false, rfl, Low.of hb o1, by simp, fun _ stk md e => by cases e⟩
  | go stk md =>
    obtain ⟨hm, F, bv, ps, u0, u1, u2, u3, u4, u5, u6, rfl, hb, hr⟩ := hh
    by_cases h2 : md = 2
    · subst h2
      refine (begin_no w rb k 2 bv _ _ _ _ _ _ _ hb (by omega)).mono ?_
      rintro e w' ⟨rfl, o1⟩
      exact ⟨false, rfl, Low.of hb o1, by simp, fun _ stk md e => by injection e with _ e; exact e.symm⟩
    · refine (begin_yes w base rb F k md bv _ _ _ _ _ _ _ ps hb (by omega) hr (by have := hs.1; simpa using this) hrb).mono ?_
      rintro e w' ⟨rfl, o1, bv', b1, r1⟩
      exact ⟨true, rfl, o1, fun _ => ⟨_, _, rfl, h2, by omega, F, bv', _, _, _, _, _, _, _, _, rfl, b1, r1⟩, by simp⟩
theorem comma_step (w : World) (base rb : Nat) (σ : MS) (hh : Holds w base rb σ) (hrb : rb < base) :
    Calls Tryz.prog 100 #[.pointer (some ⟨rb, 0, none⟩)] w fun e w' => ∃ b, e = .returned (.bool b) ∧ Low base rb w w' ∧ (b = true → ∃ stk, σ = .go stk 2 ∧ Holds w' base rb (.go stk 0)) ∧ (b = false → ∀ stk md, σ = .go stk md → md ≠ 2) := by
  cases σ with
  | whole t =>
    obtain ⟨F, A, n, cap, sl, hb, _⟩ := hh
    refine (comma_any w rb 3 _ _ _ _ _ _ _ _ hb).mono ?_
    rintro e w' ⟨rfl, o1, _⟩
    exact ⟨false, rfl, Low.of hb o1, by simp, fun _ stk md e => by cases e⟩
  | go stk md =>
    obtain ⟨hm, F, bv, ps, u0, u1, u2, u3, u4, u5, u6, rfl, hb, hr⟩ := hh
    refine (comma_any w rb md bv _ _ _ _ _ _ _ hb).mono ?_
    rintro e w' ⟨rfl, o1, h1⟩
    refine ⟨_, rfl, Low.of hb o1, fun h => ?_, fun h stk' md' e => ?_⟩
    · have h2 : md = 2 := by have := of_decide_eq_true h; omega
      subst h2
      exact ⟨_, rfl, by omega, F, bv, ps, u0, u1, u2, u3, u4, u5, u6, rfl, h1 rfl, hr.only o1 (by simpa using hrb)⟩
    · injection e with _ e
      have := of_decide_eq_false h
      omega
theorem end_any (w : World) (base rb : Nat) (k : Int) (σ : MS) (hh : Holds w base rb σ) (hrb : rb < base) (hs : Small σ) :
    Calls Tryz.prog 99 #[.pointer (some ⟨rb, 0, none⟩), .int .i64 k] w fun e w' => ∃ b, e = .returned (.bool b) ∧ Low base rb w w' ∧ (b = true → ∃ o r md, σ = .go (o :: r) md ∧ md ≠ 0 ∧ o.k = k ∧ Holds w' base rb (put r (.tup o.k o.items))) ∧ (b = false → ∀ o r md, σ = .go (o :: r) md → md ≠ 0 → o.k ≠ k) := by
  cases σ with
  | whole t =>
    obtain ⟨F, A, n, cap, sl, hb, _⟩ := hh
    refine (end_no w rb k 3 _ _ _ _ _ _ _ _ _ _ hb (by omega) (by omega)).mono ?_
    rintro e w' ⟨rfl, o1⟩
    exact ⟨false, rfl, Low.of hb o1, by simp, fun _ o r md e => by cases e⟩
  | go stk md =>
    obtain ⟨hm, F, bv, ps, u0, u1, u2, u3, u4, u5, u6, rfl, hb, hr⟩ := hh
    obtain ⟨hs1, hs2, hs3⟩ := hs
    by_cases h0 : md = 0
    · subst h0
      obtain ⟨A, cap, rfl⟩ := hr.slice
      refine (end_no w rb k 0 _ _ _ _ _ _ _ _ _ _ hb (by omega) (by omega)).mono ?_
      rintro e w' ⟨rfl, o1⟩
      exact ⟨false, rfl, Low.of hb o1, by simp, fun _ o r md e h => by injection e with _ e; exact absurd e.symm h⟩
    · cases ps with
      | nil => exact absurd rfl (hs3 h0)
      | cons p ps =>
        obtain ⟨o, sl⟩ := p
        obtain ⟨bg, cap, rfl⟩ : ∃ bg cap, bv = .slice (some ⟨bg, 0, none⟩) (ps.length + 1) cap := by
          rcases hr.row.2 with ⟨_, h⟩ | ⟨g, cap, cur, h, _⟩
          · simp at h
          · exact ⟨_, _, h⟩
        have h12 : (md : Int) = 1 ∨ (md : Int) = 2 := by omega
        have hl2 : ps.length ≤ 262144 := by simp at hs1; omega
        by_cases hk : o.k = k
        · refine (end_yes w base rb F k md bg cap o sl ps _ _ _ _ _ _ _ hb hr h12 hk (fun p hp => hs2 p.1 (List.mem_map_of_mem (by simp [hp]))) hl2 hrb).mono ?_
          rintro e w' ⟨rfl, o1, b1⟩
          exact ⟨true, rfl, o1, fun _ => ⟨o, _, md, rfl, h0, hk, b1⟩, by simp⟩
        · refine (end_kind w base rb F k md bg cap o sl ps _ _ _ _ _ _ _ hb hr h12 hk hl2).mono ?_
          rintro e w' ⟨rfl, o1⟩
          exact ⟨false, rfl, Low.of hb o1, by simp, fun _ o' r md' e _ => by injection e with e _; injection e with e _; rw [← e]; exact hk⟩
end Go.Proofs.YtlilfmpikampgaaGreatDoor

namespace Go.Proofs.YtlilfmpikampgaaGreatDoor
open Go.RowKit

theorem tok_lst {s : ByteArray} {j : Nat} (hj : j < s.size) : ∃ t, (lst s).drop j = s[j]'hj :: t ∧ lst (s.extract j (fin s j)) = (s[j]'hj :: t).take (wid (s[j]'hj :: t)) := by
  refine ⟨(lst s).drop (j + 1), ?_, ?_⟩
  · rw [List.drop_eq_getElem_cons (by rw [lst_len]; exact hj)]
    rfl
  · have e : (lst s).drop j = s[j]'hj :: (lst s).drop (j + 1) := by
      rw [List.drop_eq_getElem_cons (by rw [lst_len]; exact hj)]
      rfl
    rw [ext_lst, ← e]
    congr 1
    unfold fin; omega
theorem sg_tok {s : ByteArray} {j : Nat} (hj : j < s.size) (h : isSg (s[j]'hj) = true) : lst (s.extract j (fin s j)) = [s[j]'hj] := by
  obtain ⟨t, _, h2⟩ := tok_lst hj
  rw [h2]
  generalize s[j]'hj = b at h ⊢
  have hb : b.toNat = 123 ∨ b.toNat = 125 ∨ b.toNat = 91 ∨ b.toNat = 93 ∨ b.toNat = 44 := by
    simp only [isSg, Bool.or_eq_true, decide_eq_true_eq] at h
    omega
  have h1 : isSm b = false := by simp [isSm]; omega
  have h2 : isDig b = false := by
    cases h : isDig b with
    | false => rfl
    | true => have := isDig_bd h; omega
  rw [wid_rest h1 h2 (by omega), if_neg (by omega), if_neg (by omega)]
  rfl
theorem plain_tok {s : ByteArray} {j : Nat} (hj : j < s.size) (h : isSg (s[j]'hj) = false) : Plain (s.extract j (fin s j)) := by
  obtain ⟨t, _, h2⟩ := tok_lst hj
  have hw := wid_bd (r := s[j]'hj :: t) (by simp)
  obtain ⟨n, hn⟩ : ∃ n, wid (s[j]'hj :: t) = n + 1 := ⟨wid (s[j]'hj :: t) - 1, by omega⟩
  rw [hn, List.take_succ_cons] at h2
  generalize s[j]'hj = b at h h2
  unfold Plain
  rw [h2]
  refine ⟨?_, ?_, ?_, ?_, ?_⟩
  all_goals
    intro e
    injection e with e _
    rw [e] at h
    exact absurd h (by decide)
theorem tk_sign {s : ByteArray} {j : Nat} (hj : j < s.size) (h : isSg (s[j]'hj) = true) : tkAt s j = .sign (s[j]'hj) := by
  unfold tkAt
  rw [lst_at hj]
  simp only [h, if_true]
theorem tk_plain {s : ByteArray} {j : Nat} (hj : j < s.size) (h : isSg (s[j]'hj) = false) : tkAt s j = match lf (s.extract j (fin s j)) with | some t => .term t | none => .bad := by
  unfold tkAt
  rw [lst_at hj]
  simp only [h]
  rfl
/-- A leaf that may be. -/
theorem lf_good {s : ByteArray} {t : T} (hs : s.size ≤ 262144) (h : lf s = some t) : t.Good ∧ ∀ k l, t ≠ .tup k l := by
  rw [lf_raw] at h
  cases hr : rawL s with
  | none => rw [hr] at h; cases h
  | some u =>
    rw [hr] at h
    have : u = t := by
      change (if okT u = true then some u else none) = some t at h
      split at h
      · injection h
      · cases h
    rw [← this]
    exact raw_good hs hr
/-- What a step of the reader leaves. -/
def After (s : ByteArray) (j base rb : Nat) (σ : MS) (w : World) (b : Bool) (w' : World) : Prop := Low base rb w w' ∧ (b = true → ∃ σ', mstep σ (tkAt s j) = some σ' ∧ Holds w' base rb σ') ∧ (b = false → mstep σ (tkAt s j) = none)
theorem take_any (s : ByteArray) (j : Nat) (hs : s.size ≤ 262144) (hj : j < s.size) (w : World) (base rb : Nat) (σ : MS) (hh : Holds w base rb σ) (hv : Vars w) (hrb : rb < base) (hsm : Small σ) :
    Calls Tryz.prog 85 #[.pointer (some ⟨rb, 0, none⟩), .string (s.extract j (fin s j))] w fun e w' => ∃ b, e = .returned (.bool b) ∧ After s j base rb σ w b w' := by
  cases hsg : isSg (s[j]'hj) with
  | true =>
    have hq := sg_tok hj hsg
    have ht := tk_sign hj hsg
    have hb : s[j]'hj = 123 ∨ s[j]'hj = 125 ∨ s[j]'hj = 91 ∨ s[j]'hj = 93 ∨ s[j]'hj = 44 := by
      simp only [isSg, Bool.or_eq_true, decide_eq_true_eq] at hsg
      rcases hsg with (((h | h) | h) | h) | h
      · exact .inl (UInt8.toNat_inj.1 h)
      · exact .inr (.inl (UInt8.toNat_inj.1 h))
      · exact .inr (.inr (.inl (UInt8.toNat_inj.1 h)))
      · exact .inr (.inr (.inr (.inl (UInt8.toNat_inj.1 h))))
      · exact .inr (.inr (.inr (.inr (UInt8.toNat_inj.1 h))))
    unfold After
    rw [ht]
    clear ht hsg
    have hop : ∀ (b : UInt8) (k : Int), (b = 123 ∧ k = 8) ∨ (b = 91 ∧ k = 9) → ∀ σ : MS, (∀ stk md, σ = .go stk md → md ≠ 2 → mstep σ (.sign b) = some (.go (⟨k, []⟩ :: stk) 1)) ∧ ((∀ stk md, σ = .go stk md → md = 2) → mstep σ (.sign b) = none) := by
      intro b k hbk σ
      refine ⟨fun stk md e h => ?_, fun h => ?_⟩
      · subst e
        rcases hbk with ⟨rfl, rfl⟩ | ⟨rfl, rfl⟩ <;> simp [mstep, h, kOf]
      · cases σ with
        | whole t => rfl
        | go stk md =>
          have := h stk md rfl
          subst this
          rcases hbk with ⟨rfl, rfl⟩ | ⟨rfl, rfl⟩ <;> simp [mstep]
    have hcl : ∀ (b : UInt8) (k : Int), (b = 125 ∧ k = 8) ∨ (b = 93 ∧ k = 9) → ∀ σ : MS, (∀ o r md, σ = .go (o :: r) md → md ≠ 0 → o.k = k → mstep σ (.sign b) = some (put r (.tup o.k o.items))) ∧ ((∀ o r md, σ = .go (o :: r) md → md ≠ 0 → o.k ≠ k) → mstep σ (.sign b) = none) := by
      intro b k hbk σ
      refine ⟨fun o r md e h hk => ?_, fun h => ?_⟩
      · subst e
        rcases hbk with ⟨rfl, rfl⟩ | ⟨rfl, rfl⟩ <;> simp [mstep, h, kOf, hk]
      · cases σ with
        | whole t => rfl
        | go stk md =>
          by_cases h0 : md = 0
          · subst h0
            rcases hbk with ⟨rfl, rfl⟩ | ⟨rfl, rfl⟩ <;> simp [mstep]
          · cases stk with
            | nil => rcases hbk with ⟨rfl, rfl⟩ | ⟨rfl, rfl⟩ <;> simp [mstep]
            | cons o r =>
              have := h o r md rfl h0
              rcases hbk with ⟨rfl, rfl⟩ | ⟨rfl, rfl⟩ <;> simp [mstep, h0, kOf, this]
    generalize s[j]'hj = c at hq hb ⊢
    rcases hb with rfl | rfl | rfl | rfl | rfl
    · refine take_123 _ w _ _ hq ((begin_any w base rb 8 σ hh hrb hsm).mono ?_)
      rintro e w' ⟨b, rfl, l1, h1, h2⟩
      refine ⟨b, rfl, l1, fun h => ?_, fun h => ((hop 123 8 (.inl ⟨rfl, rfl⟩) σ).2 (h2 h))⟩
      obtain ⟨stk, md, e, h3, h4⟩ := h1 h
      exact ⟨_, (hop 123 8 (.inl ⟨rfl, rfl⟩) σ).1 stk md e h3, h4⟩
    · refine take_125 _ w _ _ hq ((end_any w base rb 8 σ hh hrb hsm).mono ?_)
      rintro e w' ⟨b, rfl, l1, h1, h2⟩
      refine ⟨b, rfl, l1, fun h => ?_, fun h => ((hcl 125 8 (.inl ⟨rfl, rfl⟩) σ).2 (h2 h))⟩
      obtain ⟨o, r, md, e, h3, h4, h5⟩ := h1 h
      exact ⟨_, (hcl 125 8 (.inl ⟨rfl, rfl⟩) σ).1 o r md e h3 h4, h5⟩
    · refine take_91 _ w _ _ hq ((begin_any w base rb 9 σ hh hrb hsm).mono ?_)
      rintro e w' ⟨b, rfl, l1, h1, h2⟩
      refine ⟨b, rfl, l1, fun h => ?_, fun h => ((hop 91 9 (.inr ⟨rfl, rfl⟩) σ).2 (h2 h))⟩
      obtain ⟨stk, md, e, h3, h4⟩ := h1 h
      exact ⟨_, (hop 91 9 (.inr ⟨rfl, rfl⟩) σ).1 stk md e h3, h4⟩
    · refine take_93 _ w _ _ hq ((end_any w base rb 9 σ hh hrb hsm).mono ?_)
      rintro e w' ⟨b, rfl, l1, h1, h2⟩
      refine ⟨b, rfl, l1, fun h => ?_, fun h => ((hcl 93 9 (.inr ⟨rfl, rfl⟩) σ).2 (h2 h))⟩
      obtain ⟨o, r, md, e, h3, h4, h5⟩ := h1 h
      exact ⟨_, (hcl 93 9 (.inr ⟨rfl, rfl⟩) σ).1 o r md e h3 h4, h5⟩
    · refine take_44 _ w _ _ hq ((comma_step w base rb σ hh hrb).mono ?_)
      rintro e w' ⟨b, rfl, l1, h1, h2⟩
      refine ⟨b, rfl, l1, fun h => ?_, fun h => ?_⟩
      · obtain ⟨stk, e, h3⟩ := h1 h
        subst e
        exact ⟨_, by simp [mstep], h3⟩
      · cases σ with
        | whole t => rfl
        | go stk md =>
          have := h2 h stk md rfl
          simp [mstep, this]
  | false =>
    have hp := plain_tok hj hsg
    have ht := tk_plain hj hsg
    have hT := tok_ok hs hj
    unfold After
    rw [ht]
    generalize s.extract j (fin s j) = q at hp hT ⊢
    cases σ with
    | whole t =>
      obtain ⟨F, A, n, cap, sl, hb, _⟩ := hh
      refine (take_late q w rb 3 hp (hb.cell0 rfl) (by omega)).mono ?_
      rintro e w' ⟨rfl, o1⟩
      exact ⟨false, rfl, Low.of hb o1, by simp, fun _ => by cases lf q <;> rfl⟩
    | go stk md =>
      obtain ⟨hm, F, bv, ps, u0, u1, u2, u3, u4, u5, u6, rfl, hb, hr⟩ := hh
      obtain ⟨hs1, hs2, hs3⟩ := hsm
      by_cases h2 : md = 2
      · subst h2
        refine (take_late q w rb 2 hp (hb.cell0 rfl) (by omega)).mono ?_
        rintro e w' ⟨rfl, o1⟩
        exact ⟨false, rfl, Low.of hb o1, by simp, fun _ => by cases lf q <;> simp [mstep]⟩
      · refine (take_leaf q w base rb md (fun t w' => Holds w' base rb (put (ps.map (·.1)) t)) hp ⟨_, hb, rfl⟩ (by omega) hT hv fun t ht w1 o1 => ?_).mono ?_
        · exact put_any w1 base rb F md bv (.slice none 0 0) ps _ _ _ _ _ _ _ t (hb.only o1 (by simp)) (hr.only o1 (by simp)) ((TV.leaf (lf_good hT.le ht).2).2 rfl) (fun p hp => hs2 p.1 (List.mem_map_of_mem hp)) (by simpa using hs1) hrb
        · rintro e w' ⟨b, rfl, l1, h1, h3⟩
          refine ⟨b, rfl, l1, fun h => ?_, fun h => by rw [h3 h]; rfl⟩
          obtain ⟨t, h4, h5⟩ := h1 h
          rw [h4]
          exact ⟨_, by simp [mstep, h2], h5⟩
end Go.Proofs.YtlilfmpikampgaaGreatDoor

namespace Go.Proofs.YtlilfmpikampgaaGreatDoor
open Go.RowKit

def MInv (n : Nat) : MS → Prop
  | .go stk md => stk.length ≤ n ∧ (∀ o ∈ stk, o.items.length ≤ n ∧ (o.k = 8 ∨ o.k = 9) ∧ Goods o.items) ∧ (md ≠ 0 → stk ≠ [])
  | .whole t => t.Good
theorem Goods.snoc {l : List T} {t : T} (h : Goods l) (ht : t.Good) : Goods (l ++ [t]) := by
  rw [Goods.iff] at h ⊢
  intro u hu
  rcases List.mem_append.1 hu with hu | hu
  · exact h u hu
  · rw [List.mem_singleton.1 hu]; exact ht
theorem MInv.put {n : Nat} {stk : List Opn} {t : T} (h1 : stk.length ≤ n + 1) (h2 : ∀ o ∈ stk, o.items.length ≤ n ∧ (o.k = 8 ∨ o.k = 9) ∧ Goods o.items) (ht : t.Good) : MInv (n + 1) (put stk t) := by
  cases stk with
  | nil => exact ht
  | cons o r =>
    refine ⟨h1, fun p hp => ?_, fun _ => by simp⟩
    rcases List.mem_cons.1 hp with rfl | hp
    · obtain ⟨h3, h4, h5⟩ := h2 o (by simp)
      exact ⟨by simp; omega, h4, h5.snoc ht⟩
    · obtain ⟨h3, h4, h5⟩ := h2 p (by simp [hp])
      exact ⟨by omega, h4, h5⟩
theorem kOf_ok {b : UInt8} : kOf b = 8 ∨ kOf b = 9 := by
  unfold kOf
  split
  · exact .inl rfl
  · exact .inr rfl
theorem MInv.step {s : ByteArray} {j n : Nat} {σ σ' : MS} (hs : s.size ≤ 262144) (h : MInv n σ) (hm : mstep σ (tkAt s j) = some σ') : MInv (n + 1) σ' := by
  cases σ with
  | whole t => simp [mstep] at hm
  | go stk md =>
    obtain ⟨h1, h2, h3⟩ := h
    have hup : ∀ o ∈ stk, o.items.length ≤ n + 1 ∧ (o.k = 8 ∨ o.k = 9) ∧ Goods o.items := fun o ho => ⟨by have := (h2 o ho).1; omega, (h2 o ho).2⟩
    cases ht : tkAt s j with
    | bad => rw [ht] at hm; simp [mstep] at hm
    | term t =>
      have hg : t.Good := by
        unfold tkAt at ht
        split at ht
        · cases ht
        · split at ht
          · cases ht
          · split at ht
            · rename_i u hu
              injection ht with ht
              subst ht
              refine (lf_good ?_ hu).1
              rw [← lst_len, ext_lst, List.length_take, List.length_drop, lst_len]; omega
            · cases ht
      rw [ht] at hm
      simp only [mstep] at hm
      split at hm
      · cases hm
      · injection hm with hm
        subst hm
        exact MInv.put (by omega) h2 hg
    | sign b =>
      rw [ht] at hm
      simp only [mstep] at hm
      split at hm
      · split at hm
        · cases hm
        · injection hm with hm
          subst hm
          refine ⟨by simp; omega, fun o ho => ?_, fun _ => by simp⟩
          rcases List.mem_cons.1 ho with rfl | ho
          · exact ⟨by simp, kOf_ok, trivial⟩
          · exact hup o ho
      · split at hm
        · split at hm
          · injection hm with hm
            subst hm
            exact ⟨by omega, hup, fun h => absurd rfl h⟩
          · cases hm
        · split at hm
          · cases hm
          · cases stk with
            | nil => simp at hm
            | cons o r =>
              simp only at hm
              split at hm
              · injection hm with hm
                subst hm
                have ho := h2 o (by simp)
                exact MInv.put (by simp at h1; omega) (fun p hp => h2 p (by simp [hp])) ⟨ho.2.1, ho.2.2⟩
              · cases hm
theorem MInv.steps {s : ByteArray} (hs : s.size ≤ 262144) : ∀ (l : List Nat) (n : Nat) (σ σ' : MS), MInv n σ → steps s σ l = some σ' → MInv (n + l.length) σ'
  | [], n, σ, σ', h, e => by simp only [Go.Proofs.YtlilfmpikampgaaGreatDoor.steps] at e; injection e with e; rw [← e]; exact h
  | j :: l, n, σ, σ', h, e => by
    simp only [Go.Proofs.YtlilfmpikampgaaGreatDoor.steps] at e
    cases hm : mstep σ (tkAt s j) with
    | none => rw [hm] at e; cases e
    | some σ1 =>
      rw [hm] at e
      have := MInv.steps hs l (n + 1) σ1 σ' (h.step hs hm) e
      rw [List.length_cons, show n + (l.length + 1) = n + 1 + l.length by omega]
      exact this
theorem MInv.small {n : Nat} {σ : MS} (h : MInv n σ) (hn : n ≤ 262144) : Small σ := by
  cases σ with
  | whole t => trivial
  | go stk md => exact ⟨by have := h.1; omega, fun o ho => by have := (h.2.1 o ho).1; omega, h.2.2⟩
theorem MInv.init : MInv 0 (.go [] 0) := ⟨Nat.le_refl _, by simp, fun h => absurd rfl h⟩
end Go.Proofs.YtlilfmpikampgaaGreatDoor
