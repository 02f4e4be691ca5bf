/- What is taken of the library's variables, and the library's contracts over frames. text: runes, runs of them. text: how wide a token is. The document's reader: which bytes are blank, which are letters. -/
import Derived.Test.YtlilfmpikampgaaGreatDoorPBa
import Derived.Test.YtlilfmpikampgaaGreatDoorPMa
import Derived.Test.YtlilfmpikampgaaGreatDoorShelf
import Derived.Lib.OthersKept
import Derived.IntWalk
namespace Go.Proofs.YtlilfmpikampgaaGreatDoor
open Go.RowKit

/-- The library's variables that are read hold what they are laid as. -/
structure Vars (w : World) : Prop where
  len : ∃ m, w.var? Tryz.prog "internal/bytealg.MaxLen" = some #[.int .i64 m]
  syn : ∃ tp p, w.var? Tryz.prog "strconv.ErrSyntax" = some #[.iface tp p]
  rng : ∃ tp p, w.var? Tryz.prog "strconv.ErrRange" = some #[.iface tp p]
  tab : Lib.TabIs Tryz.prog w "internal/strconv.uint64pow10" .u64 Lib.pow10Tab
  big : 9 ≤ w.heap.size
theorem g_len : Tryz.prog.globalNamed "internal/bytealg.MaxLen" = some 2 := by kernel_rfl
theorem g_syn : Tryz.prog.globalNamed "strconv.ErrSyntax" = some 3 := by kernel_rfl
theorem g_rng : Tryz.prog.globalNamed "strconv.ErrRange" = some 4 := by kernel_rfl
theorem g_tab : Tryz.prog.globalNamed "internal/strconv.uint64pow10" = some 5 := by kernel_rfl
theorem var_only {S : List Nat} {w w' : World} {n : String} {g : Nat} (hg : Tryz.prog.globalNamed n = some g) (h9 : g < 9) (hb : 9 ≤ w.heap.size) (o : Only S w w') (hS : ∀ b ∈ S, 9 ≤ b) : w'.var? Tryz.prog n = w.var? Tryz.prog n := by
  simp only [World.var?, hg, Option.bind_some]
  rw [o.block g (by omega) (fun h => by have := hS g h; omega)]
theorem Vars.only {S : List Nat} {w w' : World} (h : Vars w) (o : Only S w w') (hS : ∀ b ∈ S, 9 ≤ b) : Vars w' := by
  obtain ⟨h1, h2, h3, h4, h5⟩ := h
  refine ⟨?_, ?_, ?_, ?_, Nat.le_trans h5 o.size⟩
  · rw [var_only g_len (by decide) h5 o hS]; exact h1
  · rw [var_only g_syn (by decide) h5 o hS]; exact h2
  · rw [var_only g_rng (by decide) h5 o hS]; exact h3
  · unfold Lib.TabIs at h4 ⊢
    rw [var_only g_tab (by decide) h5 o hS]; exact h4
theorem Vars.same {w w' : World} (h : Vars w) (o : Only [] w w') : Vars w' := h.only o (by simp)
theorem Vars.alloc {w : World} (h : Vars w) (o : Obj) : Vars (w.alloc o) := h.same ((Only.refl _ _).alloc o)

theorem only_grow {w : World} (k : Nat) (os : Array Obj) : Only [] w (Go.Sort.grow (w.drewN k) os) :=
  ⟨rfl, rfl, rfl, by rw [Go.Sort.size_grow]; exact Nat.le_add_right _ _, fun b hb _ => Go.Sort.heap_grow_old (w.drewN k) os hb⟩

theorem itoa_any (n : Int) (w : World) (h1 : -9223372036854775808 ≤ n) (h2 : n ≤ 9223372036854775807) (hv : Vars w) : Calls Tryz.prog 141 #[.int .i64 n] w fun e w' => e = .returned (.string ⟨(Lib.itoa n).toArray⟩) ∧ Only [] w w' :=
  (Tryz.strconv_Itoa n h1 h2 w hv.tab).mono fun _ _ ⟨he, k, os, hw⟩ => ⟨he, by rw [hw]; exact only_grow k os⟩
/-- Atoi: a number, or an error that is not nil. -/
def AtoiE (s : ByteArray) (e : Ending) : Prop :=
  match Lib.atoiAll (lst s) with
  | .ok v => e = .returned (.tuple #[.int .i64 v, .nilIface])
  | _ => ∃ (n : Int) (t : TypeId) (p : Value), e = .returned (.tuple #[.int .i64 n, .iface t p])
theorem atoi_yes (s : ByteArray) (v : Int) (w : World) (hs : s.size ≤ 262144) (h : Lib.atoiAll (lst s) = .ok v) : Calls Tryz.prog 140 #[.string s] w fun e w' => e = .returned (.tuple #[.int .i64 v, .nilIface]) ∧ Only [] w w' :=
  (Tryz.strconv_Atoi_ok s (by omega) v h w).mono fun _ _ ⟨he, hw⟩ => ⟨he, by
    rcases hw with rfl | ⟨t, rfl⟩
    · exact Only.refl _ _
    · exact Only.of_below (Lib.bytesWorld_below _ _ _)⟩
theorem atoi_no (s : ByteArray) (w : World) (hs : s.size ≤ 262144) (h : ∀ v, Lib.atoiAll (lst s) ≠ .ok v) (hv : Vars w) : Calls Tryz.prog 140 #[.string s] w fun e w' => ∃ (n : Int) (t : TypeId) (p : Value), e = .returned (.tuple #[.int .i64 n, .iface t p]) ∧ Only [] w w' := by
  obtain ⟨tp, p, hsyn⟩ := hv.syn
  obtain ⟨tr, pr, hrng⟩ := hv.rng
  cases hc : Lib.atoiAll (lst s) with
  | ok v => exact absurd hc (h v)
  | range => exact (Tryz.strconv_Atoi_range_var s (by omega) hc tr pr w hrng).mono fun _ _ ⟨_, he, _, _, hb⟩ => ⟨_, _, _, he, Only.of_below hb⟩
  | _ => exact (Tryz.strconv_Atoi_syntax_var s (by omega) hc tp p w hsyn).mono fun _ _ ⟨_, he, _, _, hb⟩ => ⟨_, _, _, he, Only.of_below hb⟩
theorem cut_any (s sep : ByteArray) (w : World) (hs : s.size ≤ 262144) (hv : Vars w) :
    Calls Tryz.prog 138 #[.string s, .string sep] w fun e w' => e = .returned (.tuple #[.string ⟨(Lib.cut (lst s) (lst sep)).1.toArray⟩, .string ⟨(Lib.cut (lst s) (lst sep)).2.1.toArray⟩, .bool (Lib.cut (lst s) (lst sep)).2.2]) ∧ Only [] w w' := by
  obtain ⟨m, hm⟩ := hv.len
  have h0 := World.var?_cell g_len hm 0
  exact (Tryz.strings_Cut s sep m w (by omega) (by simpa using h0)).mono fun _ _ ⟨he, n, hw⟩ => ⟨he, by rw [hw]; exact (Only.refl _ _).drewN n⟩
theorem trimS_any (s p : ByteArray) (w : World) (hs : s.size ≤ 262144) :
    Calls Tryz.prog 139 #[.string s, .string p] w fun e w' => e = .returned (.string ⟨(Lib.trimSuffix (lst s) (lst p)).toArray⟩) ∧ w = w' :=
  (Tryz.strings_TrimSuffix s p w (by omega)).mono fun _ _ ⟨he, hw⟩ => ⟨he, hw.symm⟩
theorem trimP_any (s p : ByteArray) (w : World) :
    Calls Tryz.prog 144 #[.string s, .string p] w fun e w' => e = .returned (.string ⟨(Lib.trimPrefix (lst s) (lst p)).toArray⟩) ∧ w = w' :=
  (Tryz.strings_TrimPrefix s p w).mono fun _ _ ⟨he, hw⟩ => ⟨he, hw.symm⟩
theorem hasP_any (s p : ByteArray) (w : World) :
    Calls Tryz.prog 130 #[.string s, .string p] w fun e w' => e = .returned (.bool (Lib.hasPrefix (lst s) (lst p))) ∧ w = w' :=
  (Tryz.strings_HasPrefix s p w).mono fun _ _ ⟨he, hw⟩ => ⟨he, hw.symm⟩
theorem hasS_any (s p : ByteArray) (w : World) (hs : s.size ≤ 262144) :
    Calls Tryz.prog 134 #[.string s, .string p] w fun e w' => e = .returned (.bool (Lib.hasSuffix (lst s) (lst p))) ∧ w = w' :=
  (Tryz.strings_HasSuffix s p w (by omega)).mono fun _ _ ⟨he, hw⟩ => ⟨he, hw.symm⟩
theorem clone_lite (s : ByteArray) (w : World) (hs : s.size ≤ 262144) : Calls Tryz.prog 146 #[.string s] w fun e w' => e = .returned (.string s) ∧ Only [] w w' :=
  (Tryz.stringslite_Clone s w (by omega)).mono fun _ _ ⟨he, hb⟩ => ⟨he, Only.of_below hb⟩
theorem clone_any (s : ByteArray) (w : World) (hs : s.size ≤ 262144) : Calls Tryz.prog 137 #[.string s] w fun e w' => e = .returned (.string s) ∧ Only [] w w' := by
  go_enter Tryz.func137, Tryz.ntmps137
  go_wp2_with fail
  (with_reducible refine (clone_lite s _ hs).mono ?_)
  rintro e w' ⟨rfl, o1⟩
  go_wp2_with fail
  go_ret
  exact ⟨rfl, o1⟩
end Go.Proofs.YtlilfmpikampgaaGreatDoor

namespace Go.Proofs.YtlilfmpikampgaaGreatDoor
open Go.RowKit

theorem ret_bool {a b : Bool} (h : a = b) : Ending.returned (.bool a) = .returned (.bool b) := by rw [h]
theorem ret_int {a b : Int} (h : a = b) : Ending.returned (.int .i64 a) = .returned (.int .i64 b) := by rw [h]
def smR (r : Nat) : Bool := decide (97 ≤ r) && decide (r ≤ 122)
def digR (r : Nat) : Bool := decide (48 ≤ r) && decide (r ≤ 57)
def wdR (r : Nat) : Bool := smR r || digR r || (decide (65 ≤ r) && decide (r ≤ 90)) || decide (r = 95)
theorem is_blank (r : Nat) (w : World) : Calls Tryz.prog 96 #[.int .i32 r] w fun e w' => e = .returned (.bool (blR r)) ∧ w = w' := by
  go_enter Tryz.func96, Tryz.ntmps96
  go_wp2_with fail
  all_goals
    go_ret
    exact ⟨ret_bool (by rw [Bool.eq_iff_iff]; simp [blR]; omega), rfl⟩
theorem is_small (r : Nat) (w : World) : Calls Tryz.prog 115 #[.int .i32 r] w fun e w' => e = .returned (.bool (smR r)) ∧ w = w' := by
  go_enter Tryz.func115, Tryz.ntmps115
  go_wp2_with fail
  all_goals
    go_ret
    exact ⟨ret_bool (by rw [Bool.eq_iff_iff]; simp [smR]; omega), rfl⟩
theorem is_digit (r : Nat) (w : World) : Calls Tryz.prog 118 #[.int .i32 r] w fun e w' => e = .returned (.bool (digR r)) ∧ w = w' := by
  go_enter Tryz.func118, Tryz.ntmps118
  go_wp2_with fail
  all_goals
    go_ret
    exact ⟨ret_bool (by rw [Bool.eq_iff_iff]; simp [digR]; omega), rfl⟩
theorem is_word (r : Nat) (w : World) : Calls Tryz.prog 117 #[.int .i32 r] w fun e w' => e = .returned (.bool (wdR r)) ∧ w = w' := by
  go_enter Tryz.func117, Tryz.ntmps117
  go_wp2_with fail
  (with_reducible refine (is_small _ _).mono ?_)
  rintro e w' ⟨rfl, rfl⟩
  cases h1 : smR r
  · go_wp2_with fail
    (with_reducible refine (is_digit _ _).mono ?_)
    rintro e w' ⟨rfl, rfl⟩
    cases h2 : digR r
    · go_wp2_with fail
      all_goals
        go_ret
        exact ⟨ret_bool (by rw [Bool.eq_iff_iff]; simp [wdR, h1, h2]; omega), rfl⟩
    · go_wp2_with fail
      go_ret
      exact ⟨ret_bool (by simp [wdR, h2]), rfl⟩
  · go_wp2_with fail
    go_ret
    exact ⟨ret_bool (by simp [wdR, h1]), rfl⟩

theorem iter_only {S : List Nat} {w wr : World} (o : Only S w wr) {k : Nat} (hk : w.heap.size ≤ k) (s : ByteArray) (pos : Nat) : Only S w (wr.iterAt k s pos) :=
  o.trans (T := [k]) ⟨rfl, rfl, rfl, by rw [Lib.iterAt_size]; exact Nat.le_refl _, fun i _ hn => Lib.iterAt_other wr k i s pos (by simpa using hn)⟩ (fun i hi => .inr (by simp at hi; omega))
theorem dec_wd (s : ByteArray) {pos : Nat} (h : pos < s.size) {p : UInt8 → Bool} {pR : Nat → Bool} (hp : ∀ b : UInt8, pR b.toNat = p b) (hh : ∀ r, 128 ≤ r → pR r = false) :
    (pR (Utf8.decode s pos).1 = p (s[pos]'h)) ∧ (p (s[pos]'h) = true → (Utf8.decode s pos).2 = 1) := by
  by_cases ha : (s[pos]'h).toNat < 128
  · rw [decode_ascii s pos h ha]
    exact ⟨hp _, fun _ => rfl⟩
  · have h1 := (decode_high s pos h (by omega)).1
    rw [hh _ h1, ← hp, hh _ (by omega)]
    exact ⟨rfl, fun e => by cases e⟩
/-- How many bytes stand ahead of a place that are such, all of them. -/
def AllP (p : UInt8 → Bool) (s : ByteArray) (pos : Nat) : Prop := ∀ j b, j < pos → (lst s)[j]? = some b → p b = true
theorem allP_next {p : UInt8 → Bool} {s : ByteArray} {pos : Nat} (h : pos < s.size) (ha : AllP p s pos) (hp : p (s[pos]'h) = true) : AllP p s (pos + 1) := by
  intro j b hj hb
  by_cases e : j = pos
  · subst e
    rw [lst_at h] at hb
    injection hb with hb
    rw [← hb]; exact hp
  · exact ha j b (by omega) hb
theorem allP_stop {p : UInt8 → Bool} {s : ByteArray} {pos : Nat} (h : pos < s.size) (ha : AllP p s pos) (hp : p (s[pos]'h) = false) : runOf p (lst s) = pos :=
  runOf_of ha (fun b hb => by rw [lst_at h] at hb; injection hb with hb; rw [← hb]; exact hp) (by rw [lst_len]; omega)
theorem allP_end {p : UInt8 → Bool} {s : ByteArray} {pos : Nat} (h : ¬ pos < s.size) (ha : AllP p s pos) : runOf p (lst s) = s.size :=
  runOf_of (fun j b hj hb => ha j b (by omega) hb) (fun b hb => by rw [List.getElem?_eq_none (by rw [lst_len]; omega)] at hb; cases hb) (by rw [lst_len]; omega)

theorem wdR_hi {r : Nat} (h : 128 ≤ r) : wdR r = false := by simp [wdR, smR, digR]; omega
theorem wdR_is (b : UInt8) : wdR b.toNat = isWd b := rfl
set_option maxHeartbeats 1000000 in
theorem run_dig (s : ByteArray) (w : World) (_hs : s.size ≤ 262144) : Calls Tryz.prog 116 #[.string s, .func (.func 118) #[] #[]] w fun e w' => e = .returned (.int .i64 (runOf isDig (lst s))) ∧ Only [] w w' := by
  go_enter Tryz.func116, Tryz.ntmps116
  go_wp2_with fail
  go_loopw [] (fun wr => ∃ pos, pos ≤ s.size ∧ AllP isDig s pos ∧ wr.heap[w.heap.size]? = some (.stringIter s pos) ∧ Only [] w wr) (fun wr => s.size - wr.iterPos w.heap.size)
  case atStart => exact ⟨0, Nat.zero_le _, fun j b hj => by omega, World.iter_heap w s 0, (Only.refl _ _).alloc _⟩
  case round =>
    obtain ⟨pos, hle, hall, hit, hO⟩ := hrel
    by_cases hp : pos < s.size
    · have hnx : ∀ ty, (Instr.next (.pointer (some ⟨w.heap.size, 0, none⟩)) true ty).run Tryz.prog wr = _ := fun ty => Lib.run_next_any_at wr w.heap.size s pos ty hit hp
      have hit2 := Lib.hid (Lib.iterAt_heap wr w.heap.size s pos (pos + (Utf8.decode s pos).2) hit)
      have hO2 := Lib.hid (iter_only hO (Nat.le_refl _) s (pos + (Utf8.decode s pos).2))
      obtain ⟨q1, q2⟩ := dec_wd s hp (p := isDig) (pR := digR) (fun _ => rfl) (fun r hr => by simp [digR]; omega)
      have Q1 := Lib.hid q1
      have Q2 := Lib.hid q2
      have Hit := Lib.hid hit
      clear q1 q2 hit
      go_wp2_with fail
      (with_reducible refine (is_digit _ _).mono ?_)
      rintro e w' ⟨rfl, rfl⟩
      cases hd : isDig (s[pos]'hp)
      · have hr : digR (Utf8.decode s pos).1 = false := by rw [Q1.out]; exact hd
        have hf := Lib.hid (allP_stop hp hall hd)
        clear hd
        go_wp2_with fail
        go_ret
        exact ⟨ret_int (by rw [hf.out]), hO2.out⟩
      · have hr : digR (Utf8.decode s pos).1 = true := by rw [Q1.out]; exact hd
        have hw1 := Q2.out hd
        have hn := Lib.hid (allP_next hp hall hd)
        have Hw := Lib.hid hw1
        clear hd hw1
        go_wp2_with fail
        go_roundw
        case rel => exact ⟨pos + 1, by omega, hn.out, by have := hit2.out; rw [Hw.out] at this ⊢; exact this, hO2.out⟩
        case measure =>
          have h1 := hit2.out
          have h2 := Hit.out
          have h3 := Hw.out
          rw [h3] at h1
          simp only [World.iterPos, h1, h2, h3]
          omega
    · have hnx : ∀ ty, (Instr.next (.pointer (some ⟨w.heap.size, 0, none⟩)) true ty).run Tryz.prog wr = _ := fun ty => Lib.run_next_end_at wr w.heap.size s pos ty hit hp
      have hf := Lib.hid (allP_end hp hall)
      clear hit
      go_wp2_with fail
      go_ret
      exact ⟨ret_int (by rw [hf.out]), hO⟩
set_option maxHeartbeats 1000000 in
theorem run_word (s : ByteArray) (w : World) (_hs : s.size ≤ 262144) : Calls Tryz.prog 116 #[.string s, .func (.func 117) #[] #[]] w fun e w' => e = .returned (.int .i64 (runOf isWd (lst s))) ∧ Only [] w w' := by
  go_enter Tryz.func116, Tryz.ntmps116
  go_wp2_with fail
  go_loopw [] (fun wr => ∃ pos, pos ≤ s.size ∧ AllP isWd s pos ∧ wr.heap[w.heap.size]? = some (.stringIter s pos) ∧ Only [] w wr) (fun wr => s.size - wr.iterPos w.heap.size)
  case atStart => exact ⟨0, Nat.zero_le _, fun j b hj => by omega, World.iter_heap w s 0, (Only.refl _ _).alloc _⟩
  case round =>
    obtain ⟨pos, hle, hall, hit, hO⟩ := hrel
    by_cases hp : pos < s.size
    · have hnx : ∀ ty, (Instr.next (.pointer (some ⟨w.heap.size, 0, none⟩)) true ty).run Tryz.prog wr = _ := fun ty => Lib.run_next_any_at wr w.heap.size s pos ty hit hp
      have hit2 := Lib.hid (Lib.iterAt_heap wr w.heap.size s pos (pos + (Utf8.decode s pos).2) hit)
      have hO2 := Lib.hid (iter_only hO (Nat.le_refl _) s (pos + (Utf8.decode s pos).2))
      obtain ⟨q1, q2⟩ := dec_wd s hp (p := isWd) (pR := wdR) wdR_is (fun r hr => wdR_hi hr)
      have Q1 := Lib.hid q1
      have Q2 := Lib.hid q2
      have Hit := Lib.hid hit
      clear q1 q2 hit
      go_wp2_with fail
      (with_reducible refine (is_word _ _).mono ?_)
      rintro e w' ⟨rfl, rfl⟩
      cases hd : isWd (s[pos]'hp)
      · have hr : wdR (Utf8.decode s pos).1 = false := by rw [Q1.out]; exact hd
        have hf := Lib.hid (allP_stop hp hall hd)
        clear hd
        go_wp2_with fail
        go_ret
        exact ⟨ret_int (by rw [hf.out]), hO2.out⟩
      · have hr : wdR (Utf8.decode s pos).1 = true := by rw [Q1.out]; exact hd
        have hw1 := Q2.out hd
        have hn := Lib.hid (allP_next hp hall hd)
        have Hw := Lib.hid hw1
        clear hd hw1
        go_wp2_with fail
        go_roundw
        case rel => exact ⟨pos + 1, by omega, hn.out, by have := hit2.out; rw [Hw.out] at this ⊢; exact this, hO2.out⟩
        case measure =>
          have h1 := hit2.out
          have h2 := Hit.out
          have h3 := Hw.out
          rw [h3] at h1
          simp only [World.iterPos, h1, h2, h3]
          omega
    · have hnx : ∀ ty, (Instr.next (.pointer (some ⟨w.heap.size, 0, none⟩)) true ty).run Tryz.prog wr = _ := fun ty => Lib.run_next_end_at wr w.heap.size s pos ty hit hp
      have hf := Lib.hid (allP_end hp hall)
      clear hit
      go_wp2_with fail
      go_ret
      exact ⟨ret_int (by rw [hf.out]), hO⟩
end Go.Proofs.YtlilfmpikampgaaGreatDoor

namespace Go.Proofs.YtlilfmpikampgaaGreatDoor
open Go.RowKit

theorem toList_lst (s : ByteArray) : s.toList = lst s := ByteArray.toList_eq s
theorem lst_from (s : ByteArray) {k : Nat} : lst (s.extract k s.size) = (lst s).drop k := by
  rw [ext_lst]
  exact List.take_of_length_le (by rw [List.length_drop, lst_len]; omega)
theorem pre_one (l : List UInt8) (b : UInt8) : Lib.hasPrefix l [b] = decide (l.head? = some b) := by
  cases l with
  | nil => rfl
  | cons c l =>
    simp [Lib.hasPrefix, List.isPrefixOf]
    rw [Bool.eq_iff_iff]
    simp
    exact ⟨fun h => h.symm, fun h => h.symm⟩
theorem hasP_one (s : ByteArray) (b : UInt8) (r : Bool) (w : World) (h : decide ((lst s).head? = some b) = r) : Calls Tryz.prog 130 #[.string s, .string ⟨#[b]⟩] w fun e w' => e = .returned (.bool r) ∧ w = w' :=
  (hasP_any s ⟨#[b]⟩ w).mono fun _ _ ⟨he, hw⟩ => ⟨by rw [he, show lst ⟨#[b]⟩ = [b] from rfl, pre_one, h], hw⟩
theorem ext_size {s : ByteArray} {k : Nat} : (s.extract k s.size).size = s.size - k := by
  rw [← lst_len, lst_from, List.length_drop, lst_len]

theorem run_dig_from (s : ByteArray) (i k : Nat) (w : World) (hs : s.size ≤ 262144) (hk : runOf isDig ((lst s).drop i) = k) :
    Calls Tryz.prog 116 #[.string (s.extract i s.size), .func (.func 118) #[] #[]] w fun e w' => e = .returned (.int .i64 k) ∧ Only [] w w' :=
  (run_dig (s.extract i s.size) w (by rw [ext_size]; omega)).mono fun _ _ ⟨he, ho⟩ => ⟨by rw [he, lst_from, hk], ho⟩
theorem hasP_from (s : ByteArray) (i : Nat) (b : UInt8) (r : Bool) (w : World) (h : decide ((lst s)[i]? = some b) = r) : Calls Tryz.prog 130 #[.string (s.extract i s.size), .string ⟨#[b]⟩] w fun e w' => e = .returned (.bool r) ∧ w = w' :=
  hasP_one _ b r w (by rw [lst_from, List.head?_drop]; exact h)
theorem head_ne {s : ByteArray} {c : UInt8} (h : (lst s).head? = some c) : 1 ≤ s.size := by
  rw [← lst_len]
  cases hh : lst s with
  | nil => rw [hh] at h; cases h
  | cons a l => simp
theorem tail_drop (l : List UInt8) : l.tail = l.drop 1 := by rw [List.drop_one]
theorem other_eq {l : List UInt8} {k : Nat} (hp : (l.head?.map isPM).getD false = true) (hk : runOf isDig (l.drop 1) = k) : otherW l = if k ≠ 0 ∧ l[1 + k]? = some 105 then 1 + k + 1 else 0 := by
  unfold otherW
  rw [tail_drop, hk]
  by_cases h : k ≠ 0 ∧ l[1 + k]? = some 105
  · rw [if_pos ⟨hp, h⟩, if_pos h]
  · rw [if_neg (fun h2 => h h2.2), if_neg h]
set_option maxHeartbeats 1000000 in
theorem other_width (s : ByteArray) (w : World) (hs : s.size ≤ 262144) : Calls Tryz.prog 129 #[.string s] w fun e w' => e = .returned (.int .i64 (otherW (lst s))) ∧ Only [] w w' := by
  have hl := lst_len s
  cases h1 : decide ((lst s).head? = some 43) with
  | false =>
    cases h2 : decide ((lst s).head? = some 45) with
    | false =>
      have hz : otherW (lst s) = 0 := by
        unfold otherW
        rw [if_neg]
        rintro ⟨h3, _⟩
        cases hh : (lst s).head? with
        | none => rw [hh] at h3; cases h3
        | some c =>
          rw [hh] at h1 h2 h3
          simp [isPM] at h1 h2 h3
          rcases h3 with h3 | h3
          · exact h1 (UInt8.toNat_inj.1 h3)
          · exact h2 (UInt8.toNat_inj.1 h3)
      have H1 := Lib.hid h1
      have H2 := Lib.hid h2
      have HZ := Lib.hid hz
      clear h1 h2 hz hl
      go_enter Tryz.func129, Tryz.ntmps129
      go_wp2_with fail
      (with_reducible refine (hasP_one s 43 false _ H1.out).mono ?_)
      rintro e w' ⟨rfl, rfl⟩
      go_wp2_with fail
      (with_reducible refine (hasP_one s 45 false _ H2.out).mono ?_)
      rintro e w' ⟨rfl, rfl⟩
      go_wp2_with fail
      go_ret
      exact ⟨ret_int (by rw [HZ.out]; rfl), Only.refl _ _⟩
    | true =>
      have hn : 1 ≤ s.size := head_ne (c := 45) (by simpa using h2)
      have hpm : ((lst s).head?.map isPM).getD false = true := by simp at h2; rw [h2]; rfl
      obtain ⟨k, hk⟩ : ∃ k, runOf isDig ((lst s).drop 1) = k := ⟨_, rfl⟩
      have hkl : k ≤ s.size - 1 := by rw [← hk, ← lst_len]; have := runOf_le isDig ((lst s).drop 1); simpa using this
      have HK := Lib.hid hk
      have HP := Lib.hid hpm
      have H1 := Lib.hid h1
      have H2 := Lib.hid h2
      clear h1 h2 hl hpm hk
      go_enter Tryz.func129, Tryz.ntmps129
      go_wp2_with fail
      (with_reducible refine (hasP_one s 43 false _ H1.out).mono ?_)
      rintro e w' ⟨rfl, rfl⟩
      go_wp2_with fail
      (with_reducible refine (hasP_one s 45 true _ H2.out).mono ?_)
      rintro e w' ⟨rfl, rfl⟩
      go_wp2_with fail
      (with_reducible refine (run_dig_from s 1 k _ hs HK.out).mono ?_)
      rintro e w1 ⟨rfl, o1⟩
      go_wp2_with fail
      · go_ret
        have h0 : k = 0 := by omega
        exact ⟨ret_int (by rw [other_eq HP.out HK.out, if_neg (by simp [h0])]; rfl), o1⟩
      · cases h3 : decide ((lst s)[1 + k]? = some 105)
        · have H3 := Lib.hid h3
          clear h3
          (with_reducible refine (hasP_from s (1 + k) 105 false _ H3.out).mono ?_)
          rintro e w' ⟨rfl, rfl⟩
          go_wp2_with fail
          go_ret
          have h4 := of_decide_eq_false H3.out
          exact ⟨ret_int (by rw [other_eq HP.out HK.out, if_neg (fun h => h4 h.2)]; rfl), o1⟩
        · have H3 := Lib.hid h3
          clear h3
          (with_reducible refine (hasP_from s (1 + k) 105 true _ H3.out).mono ?_)
          rintro e w' ⟨rfl, rfl⟩
          go_wp2_with fail
          go_ret
          have h4 := of_decide_eq_true H3.out
          exact ⟨ret_int (by rw [other_eq HP.out HK.out, if_pos ⟨by omega, h4⟩]; omega), o1⟩
  | true =>
    have hn : 1 ≤ s.size := head_ne (c := 43) (by simpa using h1)
    have hpm : ((lst s).head?.map isPM).getD false = true := by simp at h1; rw [h1]; rfl
    obtain ⟨k, hk⟩ : ∃ k, runOf isDig ((lst s).drop 1) = k := ⟨_, rfl⟩
    have hkl : k ≤ s.size - 1 := by rw [← hk, ← lst_len]; have := runOf_le isDig ((lst s).drop 1); simpa using this
    have HK := Lib.hid hk
    have HP := Lib.hid hpm
    have H1 := Lib.hid h1
    clear h1 hl hpm hk
    go_enter Tryz.func129, Tryz.ntmps129
    go_wp2_with fail
    (with_reducible refine (hasP_one s 43 true _ H1.out).mono ?_)
    rintro e w' ⟨rfl, rfl⟩
    go_wp2_with fail
    (with_reducible refine (run_dig_from s 1 k _ hs HK.out).mono ?_)
    rintro e w1 ⟨rfl, o1⟩
    go_wp2_with fail
    · go_ret
      have h0 : k = 0 := by omega
      exact ⟨ret_int (by rw [other_eq HP.out HK.out, if_neg (by simp [h0])]; rfl), o1⟩
    · cases h3 : decide ((lst s)[1 + k]? = some 105)
      · have H3 := Lib.hid h3
        clear h3
        (with_reducible refine (hasP_from s (1 + k) 105 false _ H3.out).mono ?_)
        rintro e w' ⟨rfl, rfl⟩
        go_wp2_with fail
        go_ret
        have h4 := of_decide_eq_false H3.out
        exact ⟨ret_int (by rw [other_eq HP.out HK.out, if_neg (fun h => h4 h.2)]; rfl), o1⟩
      · have H3 := Lib.hid h3
        clear h3
        (with_reducible refine (hasP_from s (1 + k) 105 true _ H3.out).mono ?_)
        rintro e w' ⟨rfl, rfl⟩
        go_wp2_with fail
        go_ret
        have h4 := of_decide_eq_true H3.out
        exact ⟨ret_int (by rw [other_eq HP.out HK.out, if_pos ⟨by omega, h4⟩]; omega), o1⟩
theorem num_eq {l : List UInt8} {k : Nat} (hk : runOf isDig (l.drop 1) = k) : numW l = if l.head? = some 45 ∧ k = 0 then 1 else 1 + k + otherW (l.drop (1 + k)) := by
  unfold numW
  rw [tail_drop, hk]
theorem lst_to (s : ByteArray) (k : Nat) : lst (s.extract 0 k) = (lst s).take k := by rw [ext_lst]; simp
theorem other_from (s : ByteArray) (i n : Nat) (w : World) (hs : s.size ≤ 262144) (hn : otherW ((lst s).drop i) = n) : Calls Tryz.prog 129 #[.string (s.extract i s.size)] w fun e w' => e = .returned (.int .i64 n) ∧ Only [] w w' :=
  (other_width (s.extract i s.size) w (by rw [ext_size]; omega)).mono fun _ _ ⟨he, ho⟩ => ⟨by rw [he, lst_from, hn], ho⟩
set_option maxHeartbeats 1000000 in
theorem number_width (s : ByteArray) (w : World) (hs : s.size ≤ 262144) (hn : 1 ≤ s.size) : Calls Tryz.prog 119 #[.string s] w fun e w' => e = .returned (.int .i64 (numW (lst s))) ∧ Only [] w w' := by
  obtain ⟨k, hk⟩ : ∃ k, runOf isDig ((lst s).drop 1) = k := ⟨_, rfl⟩
  have hkl : k ≤ s.size - 1 := by rw [← hk, ← lst_len]; have := runOf_le isDig ((lst s).drop 1); simpa using this
  obtain ⟨n, hn2⟩ : ∃ n, otherW ((lst s).drop (1 + k)) = n := ⟨_, rfl⟩
  have hnl : n ≤ 262144 := by rw [← hn2]; have := otherW_le ((lst s).drop (1 + k)); rw [List.length_drop, lst_len] at this; omega
  have HK := Lib.hid hk
  have HN := Lib.hid hn2
  clear hk hn2
  have h6 : ((s.extract 0 (1 + k)).toList == [45]) = decide ((lst s).head? = some 45 ∧ k = 0) := by
    rw [toList_lst, lst_to, Bool.eq_iff_iff]
    simp only [beq_iff_eq, decide_eq_true_eq]
    cases hl : lst s with
    | nil => simp
    | cons c l =>
      have hll : l.length = s.size - 1 := by rw [← lst_len, hl]; simp
      rw [Nat.add_comm, List.take_succ_cons]
      simp only [List.cons.injEq, List.take_eq_nil_iff, List.head?_cons, Option.some.injEq]
      refine ⟨fun ⟨h1, h2⟩ => ⟨h1, ?_⟩, fun ⟨h1, h2⟩ => ⟨h1, .inl h2⟩⟩
      rcases h2 with h | h
      · exact h
      · rw [h] at hll; simp at hll; omega
  by_cases h5 : (lst s).head? = some 45 ∧ k = 0
  · rw [decide_eq_true h5] at h6
    have H5 := Lib.hid h5
    clear h5
    go_enter Tryz.func119, Tryz.ntmps119
    go_wp2_with fail
    (with_reducible refine (run_dig_from s 1 k _ hs HK.out).mono ?_)
    rintro e w1 ⟨rfl, o1⟩
    go_wp2_with fail
    go_ret
    exact ⟨ret_int (by rw [num_eq HK.out, if_pos H5.out, H5.out.2]; rfl), o1⟩
  · rw [decide_eq_false h5] at h6
    have H5 := Lib.hid h5
    clear h5
    go_enter Tryz.func119, Tryz.ntmps119
    go_wp2_with fail
    (with_reducible refine (run_dig_from s 1 k _ hs HK.out).mono ?_)
    rintro e w1 ⟨rfl, o1⟩
    go_wp2_with fail
    (with_reducible refine (other_from s (1 + k) n _ hs HN.out).mono ?_)
    rintro e w2 ⟨rfl, o2⟩
    go_wp2_with fail
    go_ret
    exact ⟨ret_int (by rw [num_eq HK.out, if_neg H5.out, HN.out]; omega), o1.trans o2 (by simp)⟩
theorem pid_eq {l : List UInt8} {k m : Nat} (hk : runOf isDig (l.drop 1) = k) (hm : runOf isDig (l.drop (1 + k + 1)) = m) : pidW l = if l[1 + k]? = some 46 ∧ l[1 + k + (1 + m)]? = some 62 then 1 + k + (1 + m) + 1 else 1 := by
  unfold pidW
  rw [tail_drop, hk, hm]
set_option maxHeartbeats 1000000 in
theorem pid_width (s : ByteArray) (w : World) (hs : s.size ≤ 262144) (hn : 1 ≤ s.size) : Calls Tryz.prog 120 #[.string s] w fun e w' => e = .returned (.int .i64 (pidW (lst s))) ∧ Only [] w w' := by
  obtain ⟨k, hk⟩ : ∃ k, runOf isDig ((lst s).drop 1) = k := ⟨_, rfl⟩
  have hkl : k ≤ s.size - 1 := by rw [← hk, ← lst_len]; have := runOf_le isDig ((lst s).drop 1); simpa using this
  obtain ⟨m, hm⟩ : ∃ m, runOf isDig ((lst s).drop (1 + k + 1)) = m := ⟨_, rfl⟩
  have hml : m ≤ s.size - (1 + k + 1) := by rw [← hm, ← lst_len]; have := runOf_le isDig ((lst s).drop (1 + k + 1)); simpa using this
  have HK := Lib.hid hk
  have HM := Lib.hid hm
  clear hk hm
  cases h1 : decide ((lst s)[1 + k]? = some 46) with
  | false =>
    have H1 := Lib.hid h1
    clear h1
    go_enter Tryz.func120, Tryz.ntmps120
    go_wp2_with fail
    (with_reducible refine (run_dig_from s 1 k _ hs HK.out).mono ?_)
    rintro e w1 ⟨rfl, o1⟩
    go_wp2_with fail
    (with_reducible refine (hasP_from s (1 + k) 46 false _ H1.out).mono ?_)
    rintro e w' ⟨rfl, rfl⟩
    go_wp2_with fail
    go_ret
    have h4 := of_decide_eq_false H1.out
    exact ⟨ret_int (by rw [pid_eq HK.out HM.out, if_neg (fun h => h4 h.1)]; rfl), o1⟩
  | true =>
    have hlt : 1 + k < s.size := by
      have := (List.getElem?_eq_some_iff.1 (of_decide_eq_true h1)).1
      rw [lst_len] at this
      exact this
    have H1 := Lib.hid h1
    clear h1
    cases h2 : decide ((lst s)[1 + k + (1 + m)]? = some 62) with
    | false =>
      have H2 := Lib.hid h2
      clear h2
      go_enter Tryz.func120, Tryz.ntmps120
      go_wp2_with fail
      (with_reducible refine (run_dig_from s 1 k _ hs HK.out).mono ?_)
      rintro e w1 ⟨rfl, o1⟩
      go_wp2_with fail
      (with_reducible refine (hasP_from s (1 + k) 46 true _ H1.out).mono ?_)
      rintro e w' ⟨rfl, rfl⟩
      go_wp2_with fail
      (with_reducible refine (run_dig_from s (1 + k + 1) m _ hs HM.out).mono ?_)
      rintro e w2 ⟨rfl, o2⟩
      go_wp2_with fail
      (with_reducible refine (hasP_from s (1 + k + (1 + m)) 62 false _ H2.out).mono ?_)
      rintro e w' ⟨rfl, rfl⟩
      go_wp2_with fail
      go_ret
      have h4 := of_decide_eq_false H2.out
      exact ⟨ret_int (by rw [pid_eq HK.out HM.out, if_neg (fun h => h4 h.2)]; rfl), o1.trans o2 (by simp)⟩
    | true =>
      have H2 := Lib.hid h2
      clear h2
      go_enter Tryz.func120, Tryz.ntmps120
      go_wp2_with fail
      (with_reducible refine (run_dig_from s 1 k _ hs HK.out).mono ?_)
      rintro e w1 ⟨rfl, o1⟩
      go_wp2_with fail
      (with_reducible refine (hasP_from s (1 + k) 46 true _ H1.out).mono ?_)
      rintro e w' ⟨rfl, rfl⟩
      go_wp2_with fail
      (with_reducible refine (run_dig_from s (1 + k + 1) m _ hs HM.out).mono ?_)
      rintro e w2 ⟨rfl, o2⟩
      go_wp2_with fail
      (with_reducible refine (hasP_from s (1 + k + (1 + m)) 62 true _ H2.out).mono ?_)
      rintro e w' ⟨rfl, rfl⟩
      go_wp2_with fail
      go_ret
      have h4 := of_decide_eq_true H2.out
      exact ⟨ret_int (by rw [pid_eq HK.out HM.out, if_pos ⟨of_decide_eq_true H1.out, h4⟩]; omega), o1.trans o2 (by simp)⟩
end Go.Proofs.YtlilfmpikampgaaGreatDoor

namespace Go.Proofs.YtlilfmpikampgaaGreatDoor
open Go.RowKit

theorem ref_blank (b : UInt8) (w : World) : Calls Tryz.prog 52 #[.int .u8 b.toNat] w fun e w' => e = .returned (.bool (isBl b)) ∧ w = w' := by
  go_enter Tryz.func52, Tryz.ntmps52
  go_wp2_with fail
  all_goals
    go_ret
    exact ⟨ret_bool (by rw [Bool.eq_iff_iff]; simp [isBl]; omega), rfl⟩
theorem ref_small (b : UInt8) (w : World) : Calls Tryz.prog 53 #[.int .u8 b.toNat, .bool true] w fun e w' => e = .returned (.bool (isSm b)) ∧ w = w' := by
  go_enter Tryz.func53, Tryz.ntmps53
  go_wp2_with fail
  all_goals
    go_ret
    exact ⟨ret_bool (by rw [Bool.eq_iff_iff]; simp [isSm]; omega), rfl⟩
theorem ref_letter (b : UInt8) (w : World) : Calls Tryz.prog 53 #[.int .u8 b.toNat, .bool false] w fun e w' => e = .returned (.bool (isSm b || isCap b)) ∧ w = w' := by
  go_enter Tryz.func53, Tryz.ntmps53
  go_wp2_with fail
  all_goals
    go_ret
    exact ⟨ret_bool (by rw [Bool.eq_iff_iff]; simp [isSm, isCap]; omega), rfl⟩

theorem run_here {s : ByteArray} {j : Nat} (h : j < s.size) : j + runOf isDig ((lst s).drop j) = if isDig (s[j]'h) = true then (j + 1) + runOf isDig ((lst s).drop (j + 1)) else j := by
  have hd : (lst s).drop j = s[j]'h :: (lst s).drop (j + 1) := by
    rw [List.drop_eq_getElem_cons (by rw [lst_len]; exact h)]
    rfl
  rw [hd]
  split
  · rename_i hb; rw [runOf_yes _ hb]; omega
  · rename_i hb; rw [runOf_no _ (by simpa using hb)]; omega
theorem run_none {s : ByteArray} {j : Nat} (h : ¬ j < s.size) : runOf isDig ((lst s).drop j) = 0 := by
  rw [List.drop_eq_nil_of_le (by rw [lst_len]; omega)]; rfl
set_option maxHeartbeats 1000000 in
theorem ref_digits (s : ByteArray) (i : Nat) (w : World) (hs : s.size ≤ 262144) (hi : i ≤ s.size) : Calls Tryz.prog 55 #[.string s, .int .i64 i] w fun e w' => e = .returned (.int .i64 ((i + runOf isDig ((lst s).drop i) : Nat) : Int)) ∧ w = w' := by
  obtain ⟨r, hr⟩ : ∃ r, i + runOf isDig ((lst s).drop i) = r := ⟨_, rfl⟩
  rw [hr]
  go_enter Tryz.func55, Tryz.ntmps55
  go_wp2_with fail
  go_loopw [1] (fun iv wr => ∃ j : Nat, iv = .int .i64 j ∧ j ≤ s.size ∧ j + runOf isDig ((lst s).drop j) = r ∧ w = wr) (fun iv _ => s.size - (intOf iv).toNat)
  case atStart => exact ⟨i, rfl, hi, hr, rfl⟩
  case round =>
    obtain ⟨j, rfl, hj, hjr, rfl⟩ := hrel
    have HJ := Lib.hid hjr
    clear hr hjr
    by_cases hlt : j < s.size
    · have HR := Lib.hid (run_here hlt)
      cases hd : isDig (s[j]'hlt) with
      | true =>
        have hb := isDig_bd hd
        have e1 : ((48 : Int) ≤ ((s[j]'hlt).toNat : Int)) := by omega
        have e2 : (((s[j]'hlt).toNat : Int) ≤ 57) := by omega
        have HN := Lib.hid (show (j + 1) + runOf isDig ((lst s).drop (j + 1)) = r by have := HR.out; rw [hd, if_pos rfl] at this; rw [← this]; exact HJ.out)
        clear hd
        go_wp2_with fail
        go_roundw
        case rel => exact ⟨j + 1, by go_num, by omega, HN.out, by trivial⟩
        case measure =>
          simp [intOf]
          omega
      | false =>
        have HN := Lib.hid (show j = r by have := HR.out; rw [hd, if_neg (by simp)] at this; rw [← this]; exact HJ.out)
        have hb : (s[j]'hlt).toNat < 48 ∨ 57 < (s[j]'hlt).toNat := by
          simp only [isDig, Bool.and_eq_false_iff, decide_eq_false_iff_not] at hd
          omega
        clear hd
        rcases hb with hb | hb
        · have e1 : ¬ ((48 : Int) ≤ ((s[j]'hlt).toNat : Int)) := by omega
          go_wp2_with fail
          go_ret
          exact ⟨ret_int (by have := HN.out; omega), rfl⟩
        · have e1 : ((48 : Int) ≤ ((s[j]'hlt).toNat : Int)) := by omega
          have e2 : ¬ (((s[j]'hlt).toNat : Int) ≤ 57) := by omega
          go_wp2_with fail
          go_ret
          exact ⟨ret_int (by have := HN.out; omega), rfl⟩
    · have HN := Lib.hid (show j = r by have := HJ.out; rw [run_none hlt] at this; omega)
      go_wp2_with fail
      go_ret
      exact ⟨ret_int (by have := HN.out; omega), rfl⟩
end Go.Proofs.YtlilfmpikampgaaGreatDoor
