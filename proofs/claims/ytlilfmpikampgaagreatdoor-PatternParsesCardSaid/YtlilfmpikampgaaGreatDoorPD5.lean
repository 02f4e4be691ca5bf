/- The document's tokens: made, word. The document's tokens: numbers. -/
import Derived.Test.YtlilfmpikampgaaGreatDoorPD3
import Derived.Test.YtlilfmpikampgaaGreatDoorPMe
import Derived.Test.YtlilfmpikampgaaGreatDoorPMi
namespace Go.Proofs.YtlilfmpikampgaaGreatDoor
open Go.RowKit

/-- A token's eleven cells. -/
abbrev tks (kd sg k n : Int) (x y : Nat) (S : ByteArray) (a b : Int) (sl : Value) (at' fin' : Int) : Array Value := #[.int .i64 kd, .int .u8 sg, .int .i64 k, .int .i64 n, .complex .f64 x y, .string S, .int .i64 a, .int .i64 b, sl, .int .i64 at', .int .i64 fin']
abbrev Z11 : Array Value := tks 0 0 0 0 0 0 ⟨#[]⟩ 0 0 (.slice none 0 0) 0 0
abbrev tkT (t : T) (j e : Int) : Array Value := tks 2 0 t.k t.n t.x t.y t.S t.a t.b (.slice none 0 0) j e
abbrev tkB (j e : Int) : Array Value := tks 3 0 0 0 0 0 ⟨#[]⟩ 0 0 (.slice none 0 0) j e
/-- What is answered for a token that means a term, or none. -/
def Tkn (o : Option T) (j e : Int) (v : Ending) : Prop :=
  match o with
  | some t => v = .returned (.agg (tkT t j e))
  | none => ∃ e', v = .returned (.agg (tkB j e'))
theorem tkn_none {o : Option T} (h : o = none) (j e e' : Int) : Tkn o j e (.returned (.agg (tkB j e'))) := by subst h; exact ⟨e', rfl⟩
theorem tkn_some {o : Option T} {t : T} (h : o = some t) (j e : Int) : Tkn o j e (.returned (.agg (tkT t j e))) := by subst h; rfl
theorem Bk.eleven {w : World} {b : Nat} {t : TypeId} {v0 v1 v2 v3 v4 v5 v6 v7 v8 v9 v10 : Value} (h : Bk w b t #[v0, v1, v2, v3, v4, v5, v6, v7, v8, v9, v10]) :
    w.cell? ⟨b, 0, none⟩ = some v0 ∧ w.cell? ⟨b, 1, none⟩ = some v1 ∧ w.cell? ⟨b, 2, none⟩ = some v2 ∧ w.cell? ⟨b, 3, none⟩ = some v3 ∧ w.cell? ⟨b, 4, none⟩ = some v4 ∧ w.cell? ⟨b, 5, none⟩ = some v5 ∧ w.cell? ⟨b, 6, none⟩ = some v6 ∧ w.cell? ⟨b, 7, none⟩ = some v7 ∧ w.cell? ⟨b, 8, none⟩ = some v8 ∧ w.cell? ⟨b, 9, none⟩ = some v9 ∧ w.cell? ⟨b, 10, none⟩ = some v10 :=
  ⟨h.cell0 rfl, h.cell0 rfl, h.cell0 rfl, h.cell0 rfl, h.cell0 rfl, h.cell0 rfl, h.cell0 rfl, h.cell0 rfl, h.cell0 rfl, h.cell0 rfl, h.cell0 rfl⟩
theorem Only.set11 {w w1 : World} {b : Nat} {v0 v1 v2 v3 v4 v5 v6 v7 v8 v9 v10 : Value} (h : Only [] w w1) (hb : w.heap.size ≤ b) :
    Only [] w (((((((((((w1.setCell ⟨b, 0, none⟩ v0).setCell ⟨b, 1, none⟩ v1).setCell ⟨b, 2, none⟩ v2).setCell ⟨b, 3, none⟩ v3).setCell ⟨b, 4, none⟩ v4).setCell ⟨b, 5, none⟩ v5).setCell ⟨b, 6, none⟩ v6).setCell ⟨b, 7, none⟩ v7).setCell ⟨b, 8, none⟩ v8).setCell ⟨b, 9, none⟩ v9).setCell ⟨b, 10, none⟩ v10) :=
  ((((((((((h.set (.inr hb) _).set (.inr hb) _).set (.inr hb) _).set (.inr hb) _).set (.inr hb) _).set (.inr hb) _).set (.inr hb) _).set (.inr hb) _).set (.inr hb) _).set (.inr hb) _).set (.inr hb) _
set_option maxHeartbeats 4000000 in
theorem made_any (t : T) (hg : t.Good) (hl : ∀ k l, t ≠ .tup k l) (ok : Bool) (j e : Int) (w : World) (o : Option T) (ho : (if (ok && okT t) = true then some t else none) = o) :
    Calls Tryz.prog 58 #[.agg (tcs t.k t.n t.x t.y t.S t.a t.b (.slice none 0 0)), .bool ok, .int .i64 j, .int .i64 e] w fun v w' => Tkn o j e v ∧ Only [] w w' := by
  have rs := store_com
  have C := Lib.hid (fun w => rcheck_any t hg (.slice none 0 0) (fun _ => False) w ((TV.leaf hl).2 rfl))
  have hc := chk_leaf hl hg
  have B1 := Lib.hid (Bk.madeAt (w := w.alloc (.cells (tcs t.k t.n t.x t.y t.S t.a t.b (.slice none 0 0)) 27)) (t := 82) (cs := Z11) (b := w.heap.size + 1) (by simp))
  have B0 := Lib.hid ((Bk.made w 27 (tcs t.k t.n t.x t.y t.S t.a t.b (.slice none 0 0))).alloc (.cells Z11 82))
  have O0 := Lib.hid (((Only.refl [] w).alloc (.cells (tcs t.k t.n t.x t.y t.S t.a t.b (.slice none 0 0)) 27)).alloc (.cells Z11 82))
  cases ok with
  | false =>
    have F := Lib.hid (fun e' => tkn_none (o := o) (by rw [← ho]; simp) j e e')
    clear hg hl hc C ho
    go_enter Tryz.func58, Tryz.ntmps58
    go_wp2_with fail
    refine bodyPost_ret (v := .agg (tkB j e)) (by simp [results, Tryz.results58, go_sem]) rfl ⟨F.out e, ?_⟩
    exact ((Only.refl [] w).alloc _).alloc _
  | true =>
    cases hok : okT t with
    | false =>
      rw [hok, if_neg (by simp)] at hc
      rw [hc] at C
      have F := Lib.hid (fun e' => tkn_none (o := o) (by rw [← ho, hok]; simp) j e e')
      clear hg hl hc hok ho
      go_enter Tryz.func58, Tryz.ntmps58
      go_wp2_with fail
      (with_reducible refine (C.out _).mono ?_)
      rintro e1 w1 ⟨rfl, o1⟩
      obtain ⟨z0, z1, z2, z3, z4, z5, z6, z7, z8, z9, z10⟩ := (B1.out.only o1 (by simp)).eleven
      have zf := (B1.out.only o1 (by simp)).free
      have O1 := Lib.hid (O0.out.trans o1 (by simp))
      clear o1
      go_wp2_with fail
      refine bodyPost_ret (v := .agg (tkB j e)) (by simp [results, Tryz.results58, go_sem, z0, z1, z2, z3, z4, z5, z6, z7, z8, z9, z10]) rfl ⟨F.out e, ?_⟩
      exact O1.out.set11 (by omega)
    | true =>
      rw [hok, if_pos rfl] at hc
      rw [hc] at C
      have F := Lib.hid (tkn_some (o := o) (t := t) (by rw [← ho, hok]; simp) j e)
      clear hg hl hc hok ho
      go_enter Tryz.func58, Tryz.ntmps58
      go_wp2_with fail
      (with_reducible refine (C.out _).mono ?_)
      rintro e1 w1 ⟨rfl, o1⟩
      obtain ⟨z0, z1, z2, z3, z4, z5, z6, z7, z8, z9, z10⟩ := (B1.out.only o1 (by simp)).eleven
      obtain ⟨y0, y1, y2, y3, y4, y5, y6⟩ := (B0.out.only o1 (by simp)).seven
      have zf := (B1.out.only o1 (by simp)).free
      have O1 := Lib.hid (O0.out.trans o1 (by simp))
      clear o1
      go_wp2_with fail
      refine bodyPost_ret (v := .agg (tkT t j e)) (by simp [results, Tryz.results58, go_sem, z0, z1, z2, z3, z4, z5, z6, z7, z8, z9, z10]) rfl ⟨F.out, ?_⟩
      exact O1.out.set11 (by omega)
theorem made_to {o : Option T} (t : T) (hg : t.Good) (hl : ∀ k l, t ≠ .tup k l) (ok : Bool) (k n : Int) (x y : Nat) (S : ByteArray) (a b : Int) (ht : tcs k n x y S a b (.slice none 0 0) = t.cs (.slice none 0 0)) (j e : Int) (w : World) (ho : (if (ok && okT t) = true then some t else none) = o) :
    Calls Tryz.prog 58 #[.agg #[.int .i64 k, .int .i64 n, .complex .f64 x y, .string S, .int .i64 a, .int .i64 b, .slice none 0 0], .bool ok, .int .i64 j, .int .i64 e] w fun v w' => Tkn o j e v ∧ Only [] w w' := by
  have : (#[.int .i64 k, .int .i64 n, .complex .f64 x y, .string S, .int .i64 a, .int .i64 b, .slice none 0 0] : Array Value) = t.cs (.slice none 0 0) := ht
  rw [this]
  exact made_any t hg hl ok j e w o ho
/-- A token stored into a result, and told. -/
theorem tkn_cells {o : Option T} {j e : Int} {v : Ending} (h : Tkn o j e v) : ∃ (kd k n : Int) (x y : Nat) (S : ByteArray) (a b e' : Int), v = .returned (.agg (tks kd 0 k n x y S a b (.slice none 0 0) j e')) := by
  cases o with
  | none => obtain ⟨e', rfl⟩ := h; exact ⟨_, _, _, _, _, _, _, _, _, rfl⟩
  | some t => exact ⟨_, _, _, _, _, _, _, _, _, h⟩
set_option maxHeartbeats 4000000 in
theorem word_any (s : ByteArray) (j e : Nat) (w : World) (hs : s.size ≤ 262144) (h1 : j ≤ e) (h2 : e ≤ s.size) :
    Calls Tryz.prog 54 #[.string s, .int .i64 j, .int .i64 e] w fun v w' => Tkn (if okT (rawW (s.extract j e)) = true then some (rawW (s.extract j e)) else none) j e v ∧ Only [] w w' := by
  have rs := store_com
  have B1 := Lib.hid (Bk.made w 82 Z11)
  have O0 := Lib.hid ((Only.refl [] w).alloc (.cells Z11 82))
  have hz : (s.extract j e).size ≤ 262144 := by rw [← lst_len, ext_lst, List.length_take, List.length_drop, lst_len]; omega
  obtain ⟨o, ho⟩ : ∃ o, (if okT (rawW (s.extract j e)) = true then some (rawW (s.extract j e)) else none) = o := ⟨_, rfl⟩
  rw [ho]
  by_cases k0 : lst (s.extract j e) = [110, 105, 108]
  · have e0 : ((s.extract j e).toList == [110, 105, 108]) = true := by rw [eq_list]; simp [k0]
    have R : rawW (s.extract j e) = .nil := by unfold rawW; rw [ if_pos k0]
    rw [R] at ho
    have M := Lib.hid (fun w => made_to (o := o) (.nil) trivial (by simp) true 1 0 0 0 ⟨#[]⟩ 0 0 rfl j e w (by rw [Bool.true_and]; exact ho))
    clear hz ho R k0
    go_enter Tryz.func54, Tryz.ntmps54
    go_wp2_with fail
    (with_reducible refine (M.out _).mono ?_)
    rintro e1 w1 ⟨ht, o1⟩
    have HT := Lib.hid ht
    obtain ⟨kd, k, n, x, y, S, a, b, e', rfl⟩ := tkn_cells ht
    obtain ⟨z0, z1, z2, z3, z4, z5, z6, z7, z8, z9, z10⟩ := (B1.out.only o1 (by simp)).eleven
    have zf := (B1.out.only o1 (by simp)).free
    have O1 := Lib.hid (O0.out.trans o1 (by simp))
    clear o1 ht
    go_wp2_with fail
    refine bodyPost_ret (v := .agg (tks kd 0 k n x y S a b (.slice none 0 0) j e')) (by simp [results, Tryz.results54, go_sem, z0, z1, z2, z3, z4, z5, z6, z7, z8, z9, z10]) rfl ⟨HT.out, ?_⟩
    exact O1.out.set11 (by omega)
  have e0 : ((s.extract j e).toList == [110, 105, 108]) = false := by rw [eq_list]; simp [k0]
  by_cases k1 : lst (s.extract j e) = [116, 114, 117, 101]
  · have e1 : ((s.extract j e).toList == [116, 114, 117, 101]) = true := by rw [eq_list]; simp [k1]
    have R : rawW (s.extract j e) = .bool true := by unfold rawW; rw [if_neg k0, if_pos k1]
    rw [R] at ho
    have M := Lib.hid (fun w => made_to (o := o) (.bool true) trivial (by simp) true 2 1 0 0 ⟨#[]⟩ 0 0 rfl j e w (by rw [Bool.true_and]; exact ho))
    clear hz ho R k0 k1
    go_enter Tryz.func54, Tryz.ntmps54
    go_wp2_with fail
    (with_reducible refine (M.out _).mono ?_)
    rintro e1 w1 ⟨ht, o1⟩
    have HT := Lib.hid ht
    obtain ⟨kd, k, n, x, y, S, a, b, e', rfl⟩ := tkn_cells ht
    obtain ⟨z0, z1, z2, z3, z4, z5, z6, z7, z8, z9, z10⟩ := (B1.out.only o1 (by simp)).eleven
    have zf := (B1.out.only o1 (by simp)).free
    have O1 := Lib.hid (O0.out.trans o1 (by simp))
    clear o1 ht
    go_wp2_with fail
    refine bodyPost_ret (v := .agg (tks kd 0 k n x y S a b (.slice none 0 0) j e')) (by simp [results, Tryz.results54, go_sem, z0, z1, z2, z3, z4, z5, z6, z7, z8, z9, z10]) rfl ⟨HT.out, ?_⟩
    exact O1.out.set11 (by omega)
  have e1 : ((s.extract j e).toList == [116, 114, 117, 101]) = false := by rw [eq_list]; simp [k1]
  by_cases k2 : lst (s.extract j e) = [102, 97, 108, 115, 101]
  · have e2 : ((s.extract j e).toList == [102, 97, 108, 115, 101]) = true := by rw [eq_list]; simp [k2]
    have R : rawW (s.extract j e) = .bool false := by unfold rawW; rw [if_neg k0, if_neg k1, if_pos k2]
    rw [R] at ho
    have M := Lib.hid (fun w => made_to (o := o) (.bool false) trivial (by simp) true 2 0 0 0 ⟨#[]⟩ 0 0 rfl j e w (by rw [Bool.true_and]; exact ho))
    clear hz ho R k0 k1 k2
    go_enter Tryz.func54, Tryz.ntmps54
    go_wp2_with fail
    (with_reducible refine (M.out _).mono ?_)
    rintro e1 w1 ⟨ht, o1⟩
    have HT := Lib.hid ht
    obtain ⟨kd, k, n, x, y, S, a, b, e', rfl⟩ := tkn_cells ht
    obtain ⟨z0, z1, z2, z3, z4, z5, z6, z7, z8, z9, z10⟩ := (B1.out.only o1 (by simp)).eleven
    have zf := (B1.out.only o1 (by simp)).free
    have O1 := Lib.hid (O0.out.trans o1 (by simp))
    clear o1 ht
    go_wp2_with fail
    refine bodyPost_ret (v := .agg (tks kd 0 k n x y S a b (.slice none 0 0) j e')) (by simp [results, Tryz.results54, go_sem, z0, z1, z2, z3, z4, z5, z6, z7, z8, z9, z10]) rfl ⟨HT.out, ?_⟩
    exact O1.out.set11 (by omega)
  have e2 : ((s.extract j e).toList == [102, 97, 108, 115, 101]) = false := by rw [eq_list]; simp [k2]
  · have R : rawW (s.extract j e) = .atom (s.extract j e) := by unfold rawW; rw [if_neg k0, if_neg k1, if_neg k2]
    rw [R] at ho
    have M := Lib.hid (fun w => made_to (o := o) (.atom (s.extract j e)) hz (by simp) true 5 0 0 0 (s.extract j e) 0 0 rfl j e w (by rw [Bool.true_and]; exact ho))
    clear hz ho R k0 k1 k2
    go_enter Tryz.func54, Tryz.ntmps54
    go_wp2_with fail
    (with_reducible refine (M.out _).mono ?_)
    rintro e1 w1 ⟨ht, o1⟩
    have HT := Lib.hid ht
    obtain ⟨kd, k, n, x, y, S, a, b, e', rfl⟩ := tkn_cells ht
    obtain ⟨z0, z1, z2, z3, z4, z5, z6, z7, z8, z9, z10⟩ := (B1.out.only o1 (by simp)).eleven
    have zf := (B1.out.only o1 (by simp)).free
    have O1 := Lib.hid (O0.out.trans o1 (by simp))
    clear o1 ht
    go_wp2_with fail
    refine bodyPost_ret (v := .agg (tks kd 0 k n x y S a b (.slice none 0 0) j e')) (by simp [results, Tryz.results54, go_sem, z0, z1, z2, z3, z4, z5, z6, z7, z8, z9, z10]) rfl ⟨HT.out, ?_⟩
    exact O1.out.set11 (by omega)
end Go.Proofs.YtlilfmpikampgaaGreatDoor

namespace Go.Proofs.YtlilfmpikampgaaGreatDoor
open Go.RowKit

theorem int_map {o : Option Int} {n : Int} {ok : Bool} (h : o = if ok = true then some n else none) (hi : ∀ v, o = some v → OkI v = true) : (if (ok && okT (.int n)) = true then some (T.int n) else none) = o.map T.int := by
  cases ok with
  | false => subst h; rfl
  | true =>
    have h2 := hi n (by rw [h]; rfl)
    subst h
    simp [okT, h2]
theorem refN_ok {l : List UInt8} (v : Int) (h : refN l = some v) : OkI v = true := (refN_some.1 h).2
theorem comM_bad {a b : Option Int} {n m : Int} {ok fine : Bool} (ha : a = if ok = true then some n else none) (hb : b = if fine = true then some m else none) (h : ok = false ∨ fine = false ∨ okPart n = false ∨ okPart m = false) : comM a b = none := by
  subst ha hb
  cases ok with
  | false => exact comM_no (.inl rfl)
  | true =>
    cases fine with
    | false => exact comM_no (.inr rfl)
    | true =>
      have : (okPart n && okPart m) = false := by
        rcases h with h | h | h | h
        · cases h
        · cases h
        · rw [h]; rfl
        · rw [h, Bool.and_false]
      simp [comM, this]
theorem comM_good {a b : Option Int} {n m : Int} (ha : a = if true = true then some n else none) (hb : b = if true = true then some m else none) (hn : okPart n = true) (hm : okPart m = true) : (if (true && okT (.com n m)) = true then some (T.com n m) else none) = comM a b := by
  subst ha hb
  have : okT (.com n m) = true := by simp [okT, hn, hm]
  simp [comM, hn, hm, this]
theorem part_of {n : Int} (h1 : -1073741824 ≤ n) (h2 : n ≤ 1073741824) : okPart n = true := by simp [okPart]; omega
theorem part_not {n : Int} (h : n < -1073741824 ∨ 1073741824 < n) : okPart n = false := by
  rw [← Bool.not_eq_true]
  intro h2
  have := okPart_bd h2
  omega
theorem ext_le {s : ByteArray} {j e : Nat} (hs : s.size ≤ 262144) : (s.extract j e).size ≤ 262144 := by rw [← lst_len, ext_lst, List.length_take, List.length_drop, lst_len]; omega
theorem number_to (s : ByteArray) (j e : Nat) (w : World) (hs : s.size ≤ 262144) : Calls Tryz.prog 57 #[.string (s.extract j e)] w fun v w' => NumE (lst (s.extract j e)) v ∧ w = w' := ref_number _ w (ext_le hs)
set_option maxHeartbeats 8000000 in
theorem number_int (s : ByteArray) (j e d : Nat) (w : World) (hs : s.size ≤ 262144) (h1 : j ≤ e) (h2 : e ≤ s.size) (hd : e < s.size → runOf isDig ((lst s).drop (e + 1)) = d)
    (hno : ¬ ∃ sg, (lst s)[e]? = some sg ∧ isPM sg = true ∧ d ≠ 0 ∧ (lst s)[e + 1 + d]? = some 105) :
    Calls Tryz.prog 56 #[.string s, .int .i64 j, .int .i64 e] w fun v w' => Tkn ((refN (lst (s.extract j e))).map T.int) j e v ∧ Only [] w w' := by
  have rs := store_com
  have B1 := Lib.hid (Bk.made w 82 Z11)
  have O0 := Lib.hid ((Only.refl [] w).alloc (.cells Z11 82))
  have NA := Lib.hid (fun w => number_to s j e w hs)
  by_cases hE : e < s.size
  · have hd' := hd hE
    cases c43 : (((s[e]'hE).toNat : Int) == 43)
    · cases c45 : (((s[e]'hE).toNat : Int) == 45)
      · clear hno hd hd'
        go_enter Tryz.func56, Tryz.ntmps56
        go_wp2_with fail
        (with_reducible refine (NA.out _).mono ?_)
        rintro v0 w0 ⟨⟨n, ok, rfl, hr⟩, rfl⟩
        have M := Lib.hid (fun w => made_to (o := (refN (lst (s.extract j e))).map T.int) (.int n) trivial (by simp) ok 3 n 0 0 ⟨#[]⟩ 0 0 rfl j e w (int_map hr refN_ok))
        clear hr
        go_wp2_with fail
        (with_reducible refine (M.out _).mono ?_)
        rintro e1 w1 ⟨ht, o1⟩
        have HT := Lib.hid ht
        obtain ⟨kd, k', n', x, y, S, a, b, e', rfl⟩ := tkn_cells ht
        obtain ⟨z0, z1, z2, z3, z4, z5, z6, z7, z8, z9, z10⟩ := (B1.out.only o1 (by simp)).eleven
        have zf := (B1.out.only o1 (by simp)).free
        have O1 := Lib.hid (O0.out.trans o1 (by simp))
        clear o1 ht
        go_wp2_with fail
        refine bodyPost_ret (v := .agg (tks kd 0 k' n' x y S a b (.slice none 0 0) j e')) (by simp [results, Tryz.results56, go_sem, z0, z1, z2, z3, z4, z5, z6, z7, z8, z9, z10]) rfl ⟨HT.out, ?_⟩
        exact O1.out.set11 (by omega)
      · obtain ⟨q, hq⟩ : ∃ q, e + 1 + d = q := ⟨_, rfl⟩
        have hql : q ≤ s.size := by
          have := runOf_le isDig ((lst s).drop (e + 1))
          rw [List.length_drop, lst_len] at this
          omega
        have D := Lib.hid (fun w => digits_to s ((e : Int) + 1) (e + 1) q w hs (by omega) (by omega) (by rw [hd']; exact hq))
        have hpm : isPM (s[e]'hE) = true := by
          simp only [isPM, Bool.or_eq_true, decide_eq_true_eq]
          have := eq_of_beq c45; omega
        by_cases hd0 : d = 0
        · have hq1 : ¬ ((e : Int) + 1 < (q : Int)) := by omega
          clear hno hd hd' hpm hq
          go_enter Tryz.func56, Tryz.ntmps56
          go_wp2_with fail
          (with_reducible refine (NA.out _).mono ?_)
          rintro v0 w0 ⟨⟨n, ok, rfl, hr⟩, rfl⟩
          have M := Lib.hid (fun w => made_to (o := (refN (lst (s.extract j e))).map T.int) (.int n) trivial (by simp) ok 3 n 0 0 ⟨#[]⟩ 0 0 rfl j e w (int_map hr refN_ok))
          clear hr
          go_wp2_with fail
          (with_reducible refine (D.out _).mono ?_)
          rintro e1 w' ⟨rfl, rfl⟩
          go_wp2_with fail
          (with_reducible refine (M.out _).mono ?_)
          rintro e1 w1 ⟨ht, o1⟩
          have HT := Lib.hid ht
          obtain ⟨kd, k', n', x, y, S, a, b, e', rfl⟩ := tkn_cells ht
          obtain ⟨z0, z1, z2, z3, z4, z5, z6, z7, z8, z9, z10⟩ := (B1.out.only o1 (by simp)).eleven
          have zf := (B1.out.only o1 (by simp)).free
          have O1 := Lib.hid (O0.out.trans o1 (by simp))
          clear o1 ht
          go_wp2_with fail
          refine bodyPost_ret (v := .agg (tks kd 0 k' n' x y S a b (.slice none 0 0) j e')) (by simp [results, Tryz.results56, go_sem, z0, z1, z2, z3, z4, z5, z6, z7, z8, z9, z10]) rfl ⟨HT.out, ?_⟩
          exact O1.out.set11 (by omega)
        · have hq1 : (e : Int) + 1 < (q : Int) := by omega
          by_cases hq2 : q < s.size
          · have ci : (((s[q]'hq2).toNat : Int) == 105) = false := by
              rw [beq_eq_false_iff_ne]
              intro h
              refine hno ⟨_, lst_at hE, hpm, hd0, ?_⟩
              rw [hq, lst_at hq2]
              congr 1
              exact UInt8.toNat_inj.1 (by show _ = 105; omega)
            clear hno hd hd' hpm hq hd0
            go_enter Tryz.func56, Tryz.ntmps56
            go_wp2_with fail
            (with_reducible refine (NA.out _).mono ?_)
            rintro v0 w0 ⟨⟨n, ok, rfl, hr⟩, rfl⟩
            have M := Lib.hid (fun w => made_to (o := (refN (lst (s.extract j e))).map T.int) (.int n) trivial (by simp) ok 3 n 0 0 ⟨#[]⟩ 0 0 rfl j e w (int_map hr refN_ok))
            clear hr
            go_wp2_with fail
            (with_reducible refine (D.out _).mono ?_)
            rintro e1 w' ⟨rfl, rfl⟩
            go_wp2_with fail
            (with_reducible refine (M.out _).mono ?_)
            rintro e1 w1 ⟨ht, o1⟩
            have HT := Lib.hid ht
            obtain ⟨kd, k', n', x, y, S, a, b, e', rfl⟩ := tkn_cells ht
            obtain ⟨z0, z1, z2, z3, z4, z5, z6, z7, z8, z9, z10⟩ := (B1.out.only o1 (by simp)).eleven
            have zf := (B1.out.only o1 (by simp)).free
            have O1 := Lib.hid (O0.out.trans o1 (by simp))
            clear o1 ht
            go_wp2_with fail
            refine bodyPost_ret (v := .agg (tks kd 0 k' n' x y S a b (.slice none 0 0) j e')) (by simp [results, Tryz.results56, go_sem, z0, z1, z2, z3, z4, z5, z6, z7, z8, z9, z10]) rfl ⟨HT.out, ?_⟩
            exact O1.out.set11 (by omega)
          · clear hno hd hd' hpm hq hd0
            go_enter Tryz.func56, Tryz.ntmps56
            go_wp2_with fail
            (with_reducible refine (NA.out _).mono ?_)
            rintro v0 w0 ⟨⟨n, ok, rfl, hr⟩, rfl⟩
            have M := Lib.hid (fun w => made_to (o := (refN (lst (s.extract j e))).map T.int) (.int n) trivial (by simp) ok 3 n 0 0 ⟨#[]⟩ 0 0 rfl j e w (int_map hr refN_ok))
            clear hr
            go_wp2_with fail
            (with_reducible refine (D.out _).mono ?_)
            rintro e1 w' ⟨rfl, rfl⟩
            go_wp2_with fail
            (with_reducible refine (M.out _).mono ?_)
            rintro e1 w1 ⟨ht, o1⟩
            have HT := Lib.hid ht
            obtain ⟨kd, k', n', x, y, S, a, b, e', rfl⟩ := tkn_cells ht
            obtain ⟨z0, z1, z2, z3, z4, z5, z6, z7, z8, z9, z10⟩ := (B1.out.only o1 (by simp)).eleven
            have zf := (B1.out.only o1 (by simp)).free
            have O1 := Lib.hid (O0.out.trans o1 (by simp))
            clear o1 ht
            go_wp2_with fail
            refine bodyPost_ret (v := .agg (tks kd 0 k' n' x y S a b (.slice none 0 0) j e')) (by simp [results, Tryz.results56, go_sem, z0, z1, z2, z3, z4, z5, z6, z7, z8, z9, z10]) rfl ⟨HT.out, ?_⟩
            exact O1.out.set11 (by omega)
    · obtain ⟨q, hq⟩ : ∃ q, e + 1 + d = q := ⟨_, rfl⟩
      have hql : q ≤ s.size := by
        have := runOf_le isDig ((lst s).drop (e + 1))
        rw [List.length_drop, lst_len] at this
        omega
      have D := Lib.hid (fun w => digits_to s ((e : Int) + 1) (e + 1) q w hs (by omega) (by omega) (by rw [hd']; exact hq))
      have hpm : isPM (s[e]'hE) = true := by
        simp only [isPM, Bool.or_eq_true, decide_eq_true_eq]
        have := eq_of_beq c43; omega
      by_cases hd0 : d = 0
      · have hq1 : ¬ ((e : Int) + 1 < (q : Int)) := by omega
        clear hno hd hd' hpm hq
        go_enter Tryz.func56, Tryz.ntmps56
        go_wp2_with fail
        (with_reducible refine (NA.out _).mono ?_)
        rintro v0 w0 ⟨⟨n, ok, rfl, hr⟩, rfl⟩
        have M := Lib.hid (fun w => made_to (o := (refN (lst (s.extract j e))).map T.int) (.int n) trivial (by simp) ok 3 n 0 0 ⟨#[]⟩ 0 0 rfl j e w (int_map hr refN_ok))
        clear hr
        go_wp2_with fail
        (with_reducible refine (D.out _).mono ?_)
        rintro e1 w' ⟨rfl, rfl⟩
        go_wp2_with fail
        (with_reducible refine (M.out _).mono ?_)
        rintro e1 w1 ⟨ht, o1⟩
        have HT := Lib.hid ht
        obtain ⟨kd, k', n', x, y, S, a, b, e', rfl⟩ := tkn_cells ht
        obtain ⟨z0, z1, z2, z3, z4, z5, z6, z7, z8, z9, z10⟩ := (B1.out.only o1 (by simp)).eleven
        have zf := (B1.out.only o1 (by simp)).free
        have O1 := Lib.hid (O0.out.trans o1 (by simp))
        clear o1 ht
        go_wp2_with fail
        refine bodyPost_ret (v := .agg (tks kd 0 k' n' x y S a b (.slice none 0 0) j e')) (by simp [results, Tryz.results56, go_sem, z0, z1, z2, z3, z4, z5, z6, z7, z8, z9, z10]) rfl ⟨HT.out, ?_⟩
        exact O1.out.set11 (by omega)
      · have hq1 : (e : Int) + 1 < (q : Int) := by omega
        by_cases hq2 : q < s.size
        · have ci : (((s[q]'hq2).toNat : Int) == 105) = false := by
            rw [beq_eq_false_iff_ne]
            intro h
            refine hno ⟨_, lst_at hE, hpm, hd0, ?_⟩
            rw [hq, lst_at hq2]
            congr 1
            exact UInt8.toNat_inj.1 (by show _ = 105; omega)
          clear hno hd hd' hpm hq hd0
          go_enter Tryz.func56, Tryz.ntmps56
          go_wp2_with fail
          (with_reducible refine (NA.out _).mono ?_)
          rintro v0 w0 ⟨⟨n, ok, rfl, hr⟩, rfl⟩
          have M := Lib.hid (fun w => made_to (o := (refN (lst (s.extract j e))).map T.int) (.int n) trivial (by simp) ok 3 n 0 0 ⟨#[]⟩ 0 0 rfl j e w (int_map hr refN_ok))
          clear hr
          go_wp2_with fail
          (with_reducible refine (D.out _).mono ?_)
          rintro e1 w' ⟨rfl, rfl⟩
          go_wp2_with fail
          (with_reducible refine (M.out _).mono ?_)
          rintro e1 w1 ⟨ht, o1⟩
          have HT := Lib.hid ht
          obtain ⟨kd, k', n', x, y, S, a, b, e', rfl⟩ := tkn_cells ht
          obtain ⟨z0, z1, z2, z3, z4, z5, z6, z7, z8, z9, z10⟩ := (B1.out.only o1 (by simp)).eleven
          have zf := (B1.out.only o1 (by simp)).free
          have O1 := Lib.hid (O0.out.trans o1 (by simp))
          clear o1 ht
          go_wp2_with fail
          refine bodyPost_ret (v := .agg (tks kd 0 k' n' x y S a b (.slice none 0 0) j e')) (by simp [results, Tryz.results56, go_sem, z0, z1, z2, z3, z4, z5, z6, z7, z8, z9, z10]) rfl ⟨HT.out, ?_⟩
          exact O1.out.set11 (by omega)
        · clear hno hd hd' hpm hq hd0
          go_enter Tryz.func56, Tryz.ntmps56
          go_wp2_with fail
          (with_reducible refine (NA.out _).mono ?_)
          rintro v0 w0 ⟨⟨n, ok, rfl, hr⟩, rfl⟩
          have M := Lib.hid (fun w => made_to (o := (refN (lst (s.extract j e))).map T.int) (.int n) trivial (by simp) ok 3 n 0 0 ⟨#[]⟩ 0 0 rfl j e w (int_map hr refN_ok))
          clear hr
          go_wp2_with fail
          (with_reducible refine (D.out _).mono ?_)
          rintro e1 w' ⟨rfl, rfl⟩
          go_wp2_with fail
          (with_reducible refine (M.out _).mono ?_)
          rintro e1 w1 ⟨ht, o1⟩
          have HT := Lib.hid ht
          obtain ⟨kd, k', n', x, y, S, a, b, e', rfl⟩ := tkn_cells ht
          obtain ⟨z0, z1, z2, z3, z4, z5, z6, z7, z8, z9, z10⟩ := (B1.out.only o1 (by simp)).eleven
          have zf := (B1.out.only o1 (by simp)).free
          have O1 := Lib.hid (O0.out.trans o1 (by simp))
          clear o1 ht
          go_wp2_with fail
          refine bodyPost_ret (v := .agg (tks kd 0 k' n' x y S a b (.slice none 0 0) j e')) (by simp [results, Tryz.results56, go_sem, z0, z1, z2, z3, z4, z5, z6, z7, z8, z9, z10]) rfl ⟨HT.out, ?_⟩
          exact O1.out.set11 (by omega)
  · clear hno hd
    go_enter Tryz.func56, Tryz.ntmps56
    go_wp2_with fail
    (with_reducible refine (NA.out _).mono ?_)
    rintro v0 w0 ⟨⟨n, ok, rfl, hr⟩, rfl⟩
    have M := Lib.hid (fun w => made_to (o := (refN (lst (s.extract j e))).map T.int) (.int n) trivial (by simp) ok 3 n 0 0 ⟨#[]⟩ 0 0 rfl j e w (int_map hr refN_ok))
    clear hr
    go_wp2_with fail
    (with_reducible refine (M.out _).mono ?_)
    rintro e1 w1 ⟨ht, o1⟩
    have HT := Lib.hid ht
    obtain ⟨kd, k', n', x, y, S, a, b, e', rfl⟩ := tkn_cells ht
    obtain ⟨z0, z1, z2, z3, z4, z5, z6, z7, z8, z9, z10⟩ := (B1.out.only o1 (by simp)).eleven
    have zf := (B1.out.only o1 (by simp)).free
    have O1 := Lib.hid (O0.out.trans o1 (by simp))
    clear o1 ht
    go_wp2_with fail
    refine bodyPost_ret (v := .agg (tks kd 0 k' n' x y S a b (.slice none 0 0) j e')) (by simp [results, Tryz.results56, go_sem, z0, z1, z2, z3, z4, z5, z6, z7, z8, z9, z10]) rfl ⟨HT.out, ?_⟩
    exact O1.out.set11 (by omega)
set_option maxHeartbeats 8000000 in
theorem number_com43 (s : ByteArray) (j e q : Nat) (w : World) (hs : s.size ≤ 262144) (h1 : j ≤ e) (hE : e < s.size) (c : (s[e]'hE).toNat = 43) (hq : e + 1 + runOf isDig ((lst s).drop (e + 1)) = q) (hq0 : e + 1 < q) (hq2 : q < s.size) (hi : (s[q]'hq2).toNat = 105) :
    Calls Tryz.prog 56 #[.string s, .int .i64 j, .int .i64 e] w fun v w' => Tkn (comM (refN (lst (s.extract j e))) (refN (lst (s.extract (e + 1) q)))) j ((q : Int) + 1) v ∧ Only [] w w' := by
  have rs := store_com
  have B1 := Lib.hid (Bk.made w 82 Z11)
  have O0 := Lib.hid ((Only.refl [] w).alloc (.cells Z11 82))
  have NA := Lib.hid (fun w => number_to s j e w hs)
  have NB := Lib.hid (fun w => number_to s (e + 1) q w hs)
  have D := Lib.hid (fun w => digits_to s ((e : Int) + 1) (e + 1) q w hs (by omega) (by omega) hq)
  have c43 : (((s[e]'hE).toNat : Int) == 43) = true := by rw [beq_iff_eq]; omega
  
  have ci : (((s[q]'hq2).toNat : Int) == 105) = true := by rw [beq_iff_eq]; omega
  clear hq c hi
  go_enter Tryz.func56, Tryz.ntmps56
  go_wp2_with fail
  (with_reducible refine (NA.out _).mono ?_)
  rintro v0 w0 ⟨⟨n, ok, rfl, hr⟩, rfl⟩
  have HA := Lib.hid hr
  clear hr
  go_wp2_with fail
  (with_reducible refine (D.out _).mono ?_)
  rintro e1 w' ⟨rfl, rfl⟩
  go_wp2_with fail
  (with_reducible refine (NB.out _).mono ?_)
  rintro v0 w0 ⟨⟨m, fine, rfl, hr⟩, rfl⟩
  have HB := Lib.hid hr
  clear hr
  cases ok
  · have F := Lib.hid (comM_bad HA.out HB.out (.inl rfl))
    go_wp2_with fail
    refine bodyPost_ret (v := .agg (tkB j ((q : Int) + 1))) (by simp [results, Tryz.results56, go_sem]) rfl ⟨tkn_none F.out _ _ _, ?_⟩
    exact (Only.refl [] w).alloc _
  cases fine
  · have F := Lib.hid (comM_bad HA.out HB.out (.inr (.inl rfl)))
    go_wp2_with fail
    refine bodyPost_ret (v := .agg (tkB j ((q : Int) + 1))) (by simp [results, Tryz.results56, go_sem]) rfl ⟨tkn_none F.out _ _ _, ?_⟩
    exact (Only.refl [] w).alloc _
  by_cases g0 : n < -1073741824
  · have F := Lib.hid (comM_bad HA.out HB.out (.inr (.inr (.inl (part_not (.inl g0))))))
    go_wp2_with fail
    refine bodyPost_ret (v := .agg (tkB j ((q : Int) + 1))) (by simp [results, Tryz.results56, go_sem]) rfl ⟨tkn_none F.out _ _ _, ?_⟩
    exact (Only.refl [] w).alloc _
  by_cases g1 : 1073741824 < n
  · have F := Lib.hid (comM_bad HA.out HB.out (.inr (.inr (.inl (part_not (.inr g1))))))
    go_wp2_with fail
    refine bodyPost_ret (v := .agg (tkB j ((q : Int) + 1))) (by simp [results, Tryz.results56, go_sem]) rfl ⟨tkn_none F.out _ _ _, ?_⟩
    exact (Only.refl [] w).alloc _
  by_cases g2 : m < -1073741824
  · have F := Lib.hid (comM_bad HA.out HB.out (.inr (.inr (.inr (part_not (.inl g2))))))
    go_wp2_with fail
    refine bodyPost_ret (v := .agg (tkB j ((q : Int) + 1))) (by simp [results, Tryz.results56, go_sem]) rfl ⟨tkn_none F.out _ _ _, ?_⟩
    exact (Only.refl [] w).alloc _
  by_cases g3 : 1073741824 < m
  · have F := Lib.hid (comM_bad HA.out HB.out (.inr (.inr (.inr (part_not (.inr g3))))))
    go_wp2_with fail
    refine bodyPost_ret (v := .agg (tkB j ((q : Int) + 1))) (by simp [results, Tryz.results56, go_sem]) rfl ⟨tkn_none F.out _ _ _, ?_⟩
    exact (Only.refl [] w).alloc _
  have hn := part_of (n := n) (by omega) (by omega)
  have hm := part_of (n := m) (by omega) (by omega)
  have M := Lib.hid (fun w => made_to (o := comM (refN (lst (s.extract j e))) (refN (lst (s.extract (e + 1) q)))) (.com n m) ⟨hn, hm⟩ (by simp) true 4 0 (floatOfInt .f64 n) (floatOfInt .f64 m) ⟨#[]⟩ 0 0 rfl j ((q : Int) + 1) w (comM_good HA.out HB.out hn hm))
  go_wp2_with fail
  (with_reducible refine (M.out _).mono ?_)
  rintro e1 w1 ⟨ht, o1⟩
  have HT := Lib.hid ht
  obtain ⟨kd, k', n', x, y, S, a, b, e', rfl⟩ := tkn_cells ht
  obtain ⟨z0, z1, z2, z3, z4, z5, z6, z7, z8, z9, z10⟩ := (B1.out.only o1 (by simp)).eleven
  have zf := (B1.out.only o1 (by simp)).free
  have O1 := Lib.hid (O0.out.trans o1 (by simp))
  clear o1 ht
  go_wp2_with fail
  refine bodyPost_ret (v := .agg (tks kd 0 k' n' x y S a b (.slice none 0 0) j e')) (by simp [results, Tryz.results56, go_sem, z0, z1, z2, z3, z4, z5, z6, z7, z8, z9, z10]) rfl ⟨HT.out, ?_⟩
  exact O1.out.set11 (by omega)
set_option maxHeartbeats 8000000 in
theorem number_com45 (s : ByteArray) (j e q : Nat) (w : World) (hs : s.size ≤ 262144) (h1 : j ≤ e) (hE : e < s.size) (c : (s[e]'hE).toNat = 45) (hq : e + 1 + runOf isDig ((lst s).drop (e + 1)) = q) (hq0 : e + 1 < q) (hq2 : q < s.size) (hi : (s[q]'hq2).toNat = 105) :
    Calls Tryz.prog 56 #[.string s, .int .i64 j, .int .i64 e] w fun v w' => Tkn (comM (refN (lst (s.extract j e))) (refN (lst (s.extract (e) q)))) j ((q : Int) + 1) v ∧ Only [] w w' := by
  have rs := store_com
  have B1 := Lib.hid (Bk.made w 82 Z11)
  have O0 := Lib.hid ((Only.refl [] w).alloc (.cells Z11 82))
  have NA := Lib.hid (fun w => number_to s j e w hs)
  have NB := Lib.hid (fun w => number_to s (e) q w hs)
  have D := Lib.hid (fun w => digits_to s ((e : Int) + 1) (e + 1) q w hs (by omega) (by omega) hq)
  have c43 : (((s[e]'hE).toNat : Int) == 43) = false := by rw [beq_eq_false_iff_ne]; omega
  have c45 : (((s[e]'hE).toNat : Int) == 45) = true := by rw [beq_iff_eq]; omega
  have ci : (((s[q]'hq2).toNat : Int) == 105) = true := by rw [beq_iff_eq]; omega
  clear hq c hi
  go_enter Tryz.func56, Tryz.ntmps56
  go_wp2_with fail
  (with_reducible refine (NA.out _).mono ?_)
  rintro v0 w0 ⟨⟨n, ok, rfl, hr⟩, rfl⟩
  have HA := Lib.hid hr
  clear hr
  go_wp2_with fail
  (with_reducible refine (D.out _).mono ?_)
  rintro e1 w' ⟨rfl, rfl⟩
  go_wp2_with fail
  (with_reducible refine (NB.out _).mono ?_)
  rintro v0 w0 ⟨⟨m, fine, rfl, hr⟩, rfl⟩
  have HB := Lib.hid hr
  clear hr
  cases ok
  · have F := Lib.hid (comM_bad HA.out HB.out (.inl rfl))
    go_wp2_with fail
    refine bodyPost_ret (v := .agg (tkB j ((q : Int) + 1))) (by simp [results, Tryz.results56, go_sem]) rfl ⟨tkn_none F.out _ _ _, ?_⟩
    exact (Only.refl [] w).alloc _
  cases fine
  · have F := Lib.hid (comM_bad HA.out HB.out (.inr (.inl rfl)))
    go_wp2_with fail
    refine bodyPost_ret (v := .agg (tkB j ((q : Int) + 1))) (by simp [results, Tryz.results56, go_sem]) rfl ⟨tkn_none F.out _ _ _, ?_⟩
    exact (Only.refl [] w).alloc _
  by_cases g0 : n < -1073741824
  · have F := Lib.hid (comM_bad HA.out HB.out (.inr (.inr (.inl (part_not (.inl g0))))))
    go_wp2_with fail
    refine bodyPost_ret (v := .agg (tkB j ((q : Int) + 1))) (by simp [results, Tryz.results56, go_sem]) rfl ⟨tkn_none F.out _ _ _, ?_⟩
    exact (Only.refl [] w).alloc _
  by_cases g1 : 1073741824 < n
  · have F := Lib.hid (comM_bad HA.out HB.out (.inr (.inr (.inl (part_not (.inr g1))))))
    go_wp2_with fail
    refine bodyPost_ret (v := .agg (tkB j ((q : Int) + 1))) (by simp [results, Tryz.results56, go_sem]) rfl ⟨tkn_none F.out _ _ _, ?_⟩
    exact (Only.refl [] w).alloc _
  by_cases g2 : m < -1073741824
  · have F := Lib.hid (comM_bad HA.out HB.out (.inr (.inr (.inr (part_not (.inl g2))))))
    go_wp2_with fail
    refine bodyPost_ret (v := .agg (tkB j ((q : Int) + 1))) (by simp [results, Tryz.results56, go_sem]) rfl ⟨tkn_none F.out _ _ _, ?_⟩
    exact (Only.refl [] w).alloc _
  by_cases g3 : 1073741824 < m
  · have F := Lib.hid (comM_bad HA.out HB.out (.inr (.inr (.inr (part_not (.inr g3))))))
    go_wp2_with fail
    refine bodyPost_ret (v := .agg (tkB j ((q : Int) + 1))) (by simp [results, Tryz.results56, go_sem]) rfl ⟨tkn_none F.out _ _ _, ?_⟩
    exact (Only.refl [] w).alloc _
  have hn := part_of (n := n) (by omega) (by omega)
  have hm := part_of (n := m) (by omega) (by omega)
  have M := Lib.hid (fun w => made_to (o := comM (refN (lst (s.extract j e))) (refN (lst (s.extract (e) q)))) (.com n m) ⟨hn, hm⟩ (by simp) true 4 0 (floatOfInt .f64 n) (floatOfInt .f64 m) ⟨#[]⟩ 0 0 rfl j ((q : Int) + 1) w (comM_good HA.out HB.out hn hm))
  go_wp2_with fail
  (with_reducible refine (M.out _).mono ?_)
  rintro e1 w1 ⟨ht, o1⟩
  have HT := Lib.hid ht
  obtain ⟨kd, k', n', x, y, S, a, b, e', rfl⟩ := tkn_cells ht
  obtain ⟨z0, z1, z2, z3, z4, z5, z6, z7, z8, z9, z10⟩ := (B1.out.only o1 (by simp)).eleven
  have zf := (B1.out.only o1 (by simp)).free
  have O1 := Lib.hid (O0.out.trans o1 (by simp))
  clear o1 ht
  go_wp2_with fail
  refine bodyPost_ret (v := .agg (tks kd 0 k' n' x y S a b (.slice none 0 0) j e')) (by simp [results, Tryz.results56, go_sem, z0, z1, z2, z3, z4, z5, z6, z7, z8, z9, z10]) rfl ⟨HT.out, ?_⟩
  exact O1.out.set11 (by omega)
end Go.Proofs.YtlilfmpikampgaaGreatDoor
