/- The document's Same of a term and none; its one, by the pattern's kind. The document: has; append of any slice; kids. The document: append of any slice onto a row of the call's own; kids. -/
import Derived.Test.YtlilfmpikampgaaGreatDoorPH3
import Derived.Test.YtlilfmpikampgaaGreatDoorPKa
namespace Go.Proofs.YtlilfmpikampgaaGreatDoor
open Go.RowKit

set_option maxRecDepth 20000 in
set_option maxHeartbeats 4000000 in
theorem rsame_yes (w : World) : Calls Tryz.prog 14 #[.agg #[.int .i64 0, .int .i64 0, .complex .f64 0 0, .string ⟨#[]⟩, .int .i64 0, .int .i64 0, .slice none 0 0], .agg #[.int .i64 0, .int .i64 0, .complex .f64 0 0, .string ⟨#[]⟩, .int .i64 0, .int .i64 0, .slice none 0 0]] w fun e w' => e = .returned (.bool true) ∧ Only [] w w' := by
  have rs := store_com
  have z0 := z64
  have e0 := eqPid 0 0 0 0
  go_enter Tryz.func14, Tryz.ntmps14
  go_wp2_with fail
  refine wp_loop_rounds 1 ?_
  rw [rounds_succ]
  go_wp2_with fail
  go_ret
  exact ⟨rfl, ((Only.refl [] w).alloc _).alloc _⟩
set_option maxRecDepth 20000 in
set_option maxHeartbeats 4000000 in
theorem rsame_no (k n : Int) (x y : Nat) (S : ByteArray) (a b : Int) (w : World) (h : k ≠ 0) : Calls Tryz.prog 14 #[.agg #[.int .i64 k, .int .i64 n, .complex .f64 x y, .string S, .int .i64 a, .int .i64 b, .slice none 0 0], .agg #[.int .i64 0, .int .i64 0, .complex .f64 0 0, .string ⟨#[]⟩, .int .i64 0, .int .i64 0, .slice none 0 0]] w fun e w' => e = .returned (.bool false) ∧ Only [] w w' := by
  have rs := store_com
  have e0 : (k != 0) = true := by simpa using h
  clear h
  go_enter Tryz.func14, Tryz.ntmps14
  go_wp2_with fail
  go_ret
  exact ⟨rfl, ((Only.refl [] w).alloc _).alloc _⟩
set_option maxRecDepth 20000 in
set_option maxHeartbeats 4000000 in
theorem rone_any  (w : World)  : Calls Tryz.prog 40 #[.agg #[.int .i64 1, .int .i64 0, .int .i64 0, .int .i64 0, .complex .f64 0 0, .string ⟨#[]⟩, .int .i64 0, .int .i64 0, .slice none 0 0, .slice none 0 0, .slice none 0 0], .int .i64 32] w fun e w' => e = .returned (.bool true) ∧ Only [] w w' := by
  have rs := store_com
  have HZ := Lib.hid (fun w => rsame_yes w)
  have BI := Lib.hid (Bk.made w 30 #[.int .i64 1, .int .i64 0, .int .i64 0, .int .i64 0, .complex .f64 0 0, .string ⟨#[]⟩, .int .i64 0, .int .i64 0, .slice none 0 0, .slice none 0 0, .slice none 0 0])
  have O0 := Lib.hid ((Only.refl [] w).alloc (.cells #[.int .i64 1, .int .i64 0, .int .i64 0, .int .i64 0, .complex .f64 0 0, .string ⟨#[]⟩, .int .i64 0, .int .i64 0, .slice none 0 0, .slice none 0 0, .slice none 0 0] 30))
  go_enter Tryz.func40, Tryz.ntmps40
  go_wp2_with fail
  (with_reducible refine (HZ.out _).mono ?_)
  rintro e w1 ⟨rfl, o1⟩
  have OA := Lib.hid (O0.out.trans o1 (by simp))
  have BA := Lib.hid (BI.out.only o1 (by simp))
  obtain ⟨k0, k1, k2, k3, k4, k5, k6, k7, k8, k9, k10⟩ := BA.out.elevenH
  clear o1
  go_wp2_with fail
  go_ret
  exact ⟨rfl, OA.out⟩
set_option maxRecDepth 20000 in
set_option maxHeartbeats 4000000 in
theorem rone_var (n : Int) (w : World) (h0 : 0 ≤ n) (h1 : n < 32) : Calls Tryz.prog 40 #[.agg #[.int .i64 2, .int .i64 n, .int .i64 0, .int .i64 0, .complex .f64 0 0, .string ⟨#[]⟩, .int .i64 0, .int .i64 0, .slice none 0 0, .slice none 0 0, .slice none 0 0], .int .i64 32] w fun e w' => e = .returned (.bool true) ∧ Only [] w w' := by
  have rs := store_com
  have HZ := Lib.hid (fun w => rsame_yes w)
  have BI := Lib.hid (Bk.made w 30 #[.int .i64 2, .int .i64 n, .int .i64 0, .int .i64 0, .complex .f64 0 0, .string ⟨#[]⟩, .int .i64 0, .int .i64 0, .slice none 0 0, .slice none 0 0, .slice none 0 0])
  have O0 := Lib.hid ((Only.refl [] w).alloc (.cells #[.int .i64 2, .int .i64 n, .int .i64 0, .int .i64 0, .complex .f64 0 0, .string ⟨#[]⟩, .int .i64 0, .int .i64 0, .slice none 0 0, .slice none 0 0, .slice none 0 0] 30))
  go_enter Tryz.func40, Tryz.ntmps40
  go_wp2_with fail
  (with_reducible refine (HZ.out _).mono ?_)
  rintro e w1 ⟨rfl, o1⟩
  have OA := Lib.hid (O0.out.trans o1 (by simp))
  have BA := Lib.hid (BI.out.only o1 (by simp))
  obtain ⟨k0, k1, k2, k3, k4, k5, k6, k7, k8, k9, k10⟩ := BA.out.elevenH
  clear o1
  go_wp2_with fail
  go_ret
  exact ⟨rfl, OA.out⟩
set_option maxRecDepth 20000 in
set_option maxHeartbeats 4000000 in
theorem rone_term (t : T) (w : World) (hg : t.Good) (hl : ∀ k l, t ≠ .tup k l) (h0 : t.k ≠ 0) (h8 : t.k < 8) (hc : chk t = 0) : Calls Tryz.prog 40 #[.agg #[.int .i64 3, .int .i64 0, .int .i64 t.k, .int .i64 t.n, .complex .f64 t.x t.y, .string t.S, .int .i64 t.a, .int .i64 t.b, .slice none 0 0, .slice none 0 0, .slice none 0 0], .int .i64 32] w fun e w' => e = .returned (.bool true) ∧ Only [] w w' := by
  have rs := store_com
  have HZ := Lib.hid (fun w => rsame_no t.k t.n t.x t.y t.S t.a t.b w h0)
  have HC := Lib.hid (fun w => rcheck_any t hg (.slice none 0 0) (fun _ => False) w ((TV.leaf hl).2 rfl))
  rw [hc] at HC
  clear hg hl h0 hc
  have BI := Lib.hid (Bk.made w 30 #[.int .i64 3, .int .i64 0, .int .i64 t.k, .int .i64 t.n, .complex .f64 t.x t.y, .string t.S, .int .i64 t.a, .int .i64 t.b, .slice none 0 0, .slice none 0 0, .slice none 0 0])
  have O0 := Lib.hid ((Only.refl [] w).alloc (.cells #[.int .i64 3, .int .i64 0, .int .i64 t.k, .int .i64 t.n, .complex .f64 t.x t.y, .string t.S, .int .i64 t.a, .int .i64 t.b, .slice none 0 0, .slice none 0 0, .slice none 0 0] 30))
  go_enter Tryz.func40, Tryz.ntmps40
  go_wp2_with fail
  (with_reducible refine (HZ.out _).mono ?_)
  rintro e w1 ⟨rfl, o1⟩
  have OA := Lib.hid (O0.out.trans o1 (by simp))
  have BA := Lib.hid (BI.out.only o1 (by simp))
  obtain ⟨k0, k1, k2, k3, k4, k5, k6, k7, k8, k9, k10⟩ := BA.out.elevenH
  clear o1
  go_wp2_with fail
  (with_reducible refine (HC.out _).mono ?_)
  rintro e w3 ⟨rfl, o3⟩
  have O3 := Lib.hid (OA.out.trans o3 (by simp))
  have BB := Lib.hid (BA.out.only o3 (by simp))
  obtain ⟨l0, l1, l2, l3, l4, l5, l6, l7, l8, l9, l10⟩ := BB.out.elevenH
  clear o3 k0 k1 k2 k3 k4 k5 k6 k7 k8 k9 k10
  go_wp2_with fail
  go_ret
  exact ⟨rfl, O3.out⟩
set_option maxRecDepth 20000 in
set_option maxHeartbeats 4000000 in
theorem rone_kind (n : Int) (w : World) (h : 1 ≤ n ∧ n ≤ 9) : Calls Tryz.prog 40 #[.agg #[.int .i64 4, .int .i64 n, .int .i64 0, .int .i64 0, .complex .f64 0 0, .string ⟨#[]⟩, .int .i64 0, .int .i64 0, .slice none 0 0, .slice none 0 0, .slice none 0 0], .int .i64 32] w fun e w' => e = .returned (.bool true) ∧ Only [] w w' := by
  have rs := store_com
  have HZ := Lib.hid (fun w => rsame_yes w)
  obtain ⟨h0, h1⟩ := h
  have BI := Lib.hid (Bk.made w 30 #[.int .i64 4, .int .i64 n, .int .i64 0, .int .i64 0, .complex .f64 0 0, .string ⟨#[]⟩, .int .i64 0, .int .i64 0, .slice none 0 0, .slice none 0 0, .slice none 0 0])
  have O0 := Lib.hid ((Only.refl [] w).alloc (.cells #[.int .i64 4, .int .i64 n, .int .i64 0, .int .i64 0, .complex .f64 0 0, .string ⟨#[]⟩, .int .i64 0, .int .i64 0, .slice none 0 0, .slice none 0 0, .slice none 0 0] 30))
  go_enter Tryz.func40, Tryz.ntmps40
  go_wp2_with fail
  (with_reducible refine (HZ.out _).mono ?_)
  rintro e w1 ⟨rfl, o1⟩
  have OA := Lib.hid (O0.out.trans o1 (by simp))
  have BA := Lib.hid (BI.out.only o1 (by simp))
  obtain ⟨k0, k1, k2, k3, k4, k5, k6, k7, k8, k9, k10⟩ := BA.out.elevenH
  clear o1
  go_wp2_with fail
  go_ret
  exact ⟨rfl, OA.out⟩
set_option maxRecDepth 20000 in
set_option maxHeartbeats 4000000 in
theorem rone_tup (A B : Option Addr) (m c c' : Nat) (w : World)  : Calls Tryz.prog 40 #[.agg #[.int .i64 5, .int .i64 0, .int .i64 0, .int .i64 0, .complex .f64 0 0, .string ⟨#[]⟩, .int .i64 0, .int .i64 0, .slice none 0 0, .slice A m c, .slice B 0 c'], .int .i64 32] w fun e w' => e = .returned (.bool true) ∧ Only [] w w' := by
  have rs := store_com
  have HZ := Lib.hid (fun w => rsame_yes w)
  have BI := Lib.hid (Bk.made w 30 #[.int .i64 5, .int .i64 0, .int .i64 0, .int .i64 0, .complex .f64 0 0, .string ⟨#[]⟩, .int .i64 0, .int .i64 0, .slice none 0 0, .slice A m c, .slice B 0 c'])
  have O0 := Lib.hid ((Only.refl [] w).alloc (.cells #[.int .i64 5, .int .i64 0, .int .i64 0, .int .i64 0, .complex .f64 0 0, .string ⟨#[]⟩, .int .i64 0, .int .i64 0, .slice none 0 0, .slice A m c, .slice B 0 c'] 30))
  go_enter Tryz.func40, Tryz.ntmps40
  go_wp2_with fail
  (with_reducible refine (HZ.out _).mono ?_)
  rintro e w1 ⟨rfl, o1⟩
  have OA := Lib.hid (O0.out.trans o1 (by simp))
  have BA := Lib.hid (BI.out.only o1 (by simp))
  obtain ⟨k0, k1, k2, k3, k4, k5, k6, k7, k8, k9, k10⟩ := BA.out.elevenH
  clear o1
  go_wp2_with fail
  go_ret
  exact ⟨rfl, OA.out⟩
set_option maxRecDepth 20000 in
set_option maxHeartbeats 4000000 in
theorem rone_list (A B : Option Addr) (m c m' c' : Nat) (w : World) (h : m' ≤ 1) : Calls Tryz.prog 40 #[.agg #[.int .i64 6, .int .i64 0, .int .i64 0, .int .i64 0, .complex .f64 0 0, .string ⟨#[]⟩, .int .i64 0, .int .i64 0, .slice none 0 0, .slice A m c, .slice B m' c'], .int .i64 32] w fun e w' => e = .returned (.bool true) ∧ Only [] w w' := by
  have rs := store_com
  have HZ := Lib.hid (fun w => rsame_yes w)
  have p1 : (m' : Int) ≤ 1 := by omega
  clear h
  have BI := Lib.hid (Bk.made w 30 #[.int .i64 6, .int .i64 0, .int .i64 0, .int .i64 0, .complex .f64 0 0, .string ⟨#[]⟩, .int .i64 0, .int .i64 0, .slice none 0 0, .slice A m c, .slice B m' c'])
  have O0 := Lib.hid ((Only.refl [] w).alloc (.cells #[.int .i64 6, .int .i64 0, .int .i64 0, .int .i64 0, .complex .f64 0 0, .string ⟨#[]⟩, .int .i64 0, .int .i64 0, .slice none 0 0, .slice A m c, .slice B m' c'] 30))
  go_enter Tryz.func40, Tryz.ntmps40
  go_wp2_with fail
  (with_reducible refine (HZ.out _).mono ?_)
  rintro e w1 ⟨rfl, o1⟩
  have OA := Lib.hid (O0.out.trans o1 (by simp))
  have BA := Lib.hid (BI.out.only o1 (by simp))
  obtain ⟨k0, k1, k2, k3, k4, k5, k6, k7, k8, k9, k10⟩ := BA.out.elevenH
  clear o1
  go_wp2_with fail
  go_ret
  exact ⟨rfl, OA.out⟩
end Go.Proofs.YtlilfmpikampgaaGreatDoor

namespace Go.Proofs.YtlilfmpikampgaaGreatDoor
open Go.RowKit

def HasRel (w : World) (bs : List Int) (n : Int) (v : Value) (wr : World) : Prop := ∃ k : Nat, v = .int .i64 (k : Int) ∧ k ≤ bs.length ∧ (∀ j z, j < k → bs[j]? = some z → z ≠ n) ∧ w = wr
set_option maxRecDepth 20000 in
set_option maxHeartbeats 1000000 in
theorem has_any (A : Option Addr) (cap : Nat) (bs : List Int) (n : Int) (b : Bool) (w : World) (h : Lies w A bs) (hl : bs.length ≤ 1024) (hb : decide (n ∈ bs) = b) : Calls Tryz.prog 41 #[.slice A bs.length cap, .int .i64 n] w fun e w' => e = .returned (.bool b) ∧ w = w' := by
  have H := Lib.hid h
  have HB := Lib.hid hb
  clear h hb
  go_enter Tryz.func41, Tryz.ntmps41
  go_wp2_with fail
  go_loopw [5] (fun v wr => HasRel w bs n v wr) (fun v _ => bs.length - (intOf v).toNat)
  case atStart => exact ⟨0, rfl, Nat.zero_le _, fun j z hj _ => absurd hj (Nat.not_lt_zero _), rfl⟩
  case round =>
    obtain ⟨k, rfl, hk, hn, rfl⟩ := hrel
    by_cases hk3 : k < bs.length
    · obtain ⟨z, hz⟩ : ∃ z, bs[k]? = some z := ⟨_, List.getElem?_eq_getElem hk3⟩
      obtain ⟨g, rfl, c, _⟩ := H.out k z hz
      have c' : w.cell? ⟨g, 0 + k, none⟩ = some (.int .i64 z) := by rw [Nat.zero_add]; exact c
      have p1 : (k : Int) < (bs.length : Int) := by omega
      have p2 : 0 ≤ (k : Int) := by omega
      by_cases he : z = n
      · subst he
        have HE := Lib.hid (show true = b from by rw [← HB.out, decide_eq_true (List.mem_of_getElem? hz)])
        clear hn hz
        go_wp2_with fail
        go_ret
        exact ⟨ret_bool HE.out, rfl⟩
      · have e1 : (z == n) = false := by simpa using he
        have HR := Lib.hid (show HasRel w bs n (.int .i64 ((k : Int) + 1)) w from ⟨k + 1, by go_num, by omega, fun j y hj hy => by
          rcases Nat.lt_succ_iff_lt_or_eq.1 hj with hj | rfl
          · exact hn j y hj hy
          · rw [hz] at hy
            injection hy with hy
            rw [← hy]; exact he, rfl⟩)
        have q1 : IntKind.i64.wrap ((k : Int) + 1) = (k : Int) + 1 := IntWalk.i64_in _ (by omega)
        clear hn hz he
        go_wp2_with fail
        go_roundw
        case rel => exact HR.out
        case measure => simp [intOf]; omega
    · have p1 : ¬ (k : Int) < (bs.length : Int) := by omega
      have HN := Lib.hid (show false = b from by
        rw [← HB.out, decide_eq_false]
        intro hm
        obtain ⟨j, hj, e⟩ := List.getElem_of_mem hm
        exact hn j n (by omega) (by rw [List.getElem?_eq_getElem hj, e]) rfl)
      clear hn
      go_wp2_with fail
      go_ret
      exact ⟨ret_bool HN.out, rfl⟩
theorem app_none {t e : TypeId} {i : TypeInfo} (ht : Tryz.prog.underlying t = some (.slice e)) (hi : Tryz.prog.info? e = some i) (ty : TypeId) (A B : Option Addr) (n c c' : Nat) (hn : n ≤ c) (hA : A = none → n = 0) (w : World) :
    (Builtin.append_ #[t, t] ty #[.slice A n c, .slice B 0 c']).run Tryz.prog w = .ok (.slice A n c) w := by
  cases A with
  | none =>
    obtain rfl := hA rfl
    cases B <;> simp [Builtin.append_, run_underlying ht, sizeOf, typeInfo, hi, Builtin.lenOf, Builtin.firstCells, loadCells, loadCellsFrom]
  | some a => cases B <;> simp [Builtin.append_, run_underlying ht, sizeOf, typeInfo, hi, Builtin.lenOf, Builtin.firstCells, storeCells, loadCells, loadCellsFrom, hn]
end Go.Proofs.YtlilfmpikampgaaGreatDoor

namespace Go.Proofs.YtlilfmpikampgaaGreatDoor
open Go.RowKit

theorem wpList_appAny {w : World} {ops : Array Oper} {rest : List Oper} {o : Oper} {a : Act} {Q : Exit → Act → World → Prop} (hgd : o.guard = none) (s x : Operand) (t : TypeId) (ho : o.op = .call { callee := .builtin .append, args := #[s, x], argTypes := #[t, t] })
    (base : Nat) (e : TypeId) (i : TypeInfo) (z : Value) (size bytes : Nat) (ht : Tryz.prog.underlying t = some (.slice e)) (hi : Tryz.prog.info? e = some i) (hz : i.zero = some z) (hsize : i.size = size) (hby : i.bytes = bytes) (hzs : z.cells.size = size) (hsz : 0 < size)
    (A : Option Addr) (n c : Nat) (xs : List Value) (hs : a.eval s = .slice A n c) (hown : w.ownsRow base e size (.slice A n c) n xs) (X : Option Addr) (m cx : Nat) (news : List Value) (hx : a.eval x = .slice X m cx) (hl : news.length = m * size)
    (hnews : m ≠ 0 → ∃ ad, X = some ad ∧ ∀ j u, news[j]? = some u → w.cell? (ad.add j) = some u) (h1 : ∀ u ∈ news, u.oneCell' = true) (h63 : n + m ≤ maxLen) (hbytes : (n + m) * bytes ≤ 140737488355328) (hbase : base ≤ w.heap.size)
    (h : ∀ A' c' w', w'.ownsRow base e size (.slice A' (n + m) c') (n + m) (xs ++ news) → Only (Value.slice A n c).ownBlock.toList w w' → (∀ g, (Value.slice A' (n + m) c').ownBlock = some g → (Value.slice A n c).ownBlock = some g ∨ w.heap.size ≤ g) → wpList Tryz.prog ops Q rest (a.put o.dst (.slice A' (n + m) c')) w') :
    wpList Tryz.prog ops Q (o :: rest) a w := by
  by_cases hm : m = 0
  · subst hm
    have hnil : news = [] := List.length_eq_zero_iff.1 (by rw [hl, Nat.zero_mul])
    subst hnil
    have hnc : n ≤ c ∧ (A = none → n = 0) := by
      rcases hown.2 with ⟨hv, h0⟩ | ⟨g, cap, cur, hv, hb, hg, h3, h4⟩
      · injection hv with _ _ hc
        exact ⟨by omega, fun _ => h0⟩
      · injection hv with hA _ hc
        subst hc
        exact ⟨h3, fun e => by rw [hA] at e; cases e⟩
    have hr := app_none ht hi o.type A X n c cx hnc.1 hnc.2 w
    refine wpList_plain hgd fun _ hK => ?_
    unfold Oper.wp execOp
    simp only [ho, resolve, invoke, builtin, Sem.run_bind, Sem.run_pure, Result.andThen_ok, List.map_toArray, List.map_cons, List.map_nil, hs, hx, hr]
    refine hK _ _ (h A c w ?_ (Only.refl _ _) fun g hg => .inl hg)
    rw [List.append_nil]
    exact hown
  · obtain ⟨ad, rfl, hn⟩ := hnews hm
    refine wpList_append_lies w hgd s x t ho base e i z size bytes ht hi hz hsize hby hzs hsz (.slice A n c) n xs hs hown ad m cx news hx hl hn h1 (by omega) h63 hbytes hbase w.heap.size rfl fun g cap w' h2 h3 h4 h5 => ?_
    refine h (some ⟨g, 0, none⟩) cap w' h2 (Only.of_grown h3) fun g' hg' => ?_
    injection hg' with hg'
    subst hg'
    rcases h4 with h4 | h4
    · exact .inl h4
    · exact .inr (by rw [h4]; exact Nat.le_refl _)
/-- The cells of patterns that lie in a row. -/
theorem qvs_pits {w : World} {F : Nat → Prop} {bl : Nat} : ∀ {l : List QT} {off : Nat}, QVs w F l bl off → ∃ xs, PIts w F l xs ∧ ∀ j u, xs[j]? = some u → w.cell? ⟨bl, off + j, none⟩ = some u
  | [], _, _ => ⟨[], by simp only [PIts], fun j u h => by simp at h⟩
  | t :: l, off, h => by
    simp only [QVs] at h
    obtain ⟨⟨sl, sr, h1, h2⟩, h3⟩ := h
    obtain ⟨xs, h4, h5⟩ := qvs_pits h3
    refine ⟨(t.cs sl sr).toList ++ xs, ⟨sl, sr, xs, rfl, h1, h4⟩, fun j u hj => ?_⟩
    by_cases hlt : j < 11
    · rw [List.getElem?_append_left (by rw [pcs_len]; exact hlt), Array.getElem?_toList] at hj
      exact h2 j u hj
    · rw [List.getElem?_append_right (by rw [pcs_len]; omega), pcs_len] at hj
      have := h5 (j - 11) u hj
      rw [show off + 11 + (j - 11) = off + j by omega] at this
      exact this
theorem pits_one {w : World} {F : Nat → Prop} : ∀ {l : List QT} {xs : List Value}, PIts w F l xs → ∀ u ∈ xs, u.oneCell' = true
  | [], _, h => by simp only [PIts] at h; subst h; simp
  | t :: l, _, h => by
    obtain ⟨sl, sr, r, rfl, h1, h2⟩ := h
    obtain ⟨A, m, c, B, m2, c2, rfl, rfl⟩ := h1.slices
    intro u hu
    rcases List.mem_append.1 hu with hu | hu
    · simp [QT.cs] at hu
      rcases hu with rfl | rfl | rfl | rfl | rfl | rfl | rfl | rfl | rfl | rfl | rfl <;> rfl
    · exact pits_one h2 u hu
theorem pits_app {w : World} {F : Nat → Prop} {r : List QT} {ys : List Value} (hr : PIts w F r ys) : ∀ {l : List QT} {xs : List Value}, PIts w F l xs → PIts w F (l ++ r) (xs ++ ys)
  | [], _, h => by simp only [PIts] at h; subst h; exact hr
  | t :: l, _, h => by
    obtain ⟨sl, sr, r', rfl, h1, h2⟩ := h
    exact ⟨sl, sr, r' ++ ys, by rw [List.append_assoc], h1, pits_app hr h2⟩
theorem ql_news {w : World} {F : Nat → Prop} {l : List QT} {X : Option Addr} {m c : Nat} (h : QL w F l (.slice X m c)) : m = l.length ∧ ∃ xs, PIts w F l xs ∧ (m ≠ 0 → ∃ ad, X = some ad ∧ ∀ j u, xs[j]? = some u → w.cell? (ad.add j) = some u) := by
  obtain ⟨A, cap, hv, _, _, h4⟩ := h
  injection hv with hA hm _
  subst hA hm
  refine ⟨rfl, ?_⟩
  rcases h4 with rfl | ⟨bl, off, rfl, _, _, hvs⟩
  · exact ⟨[], by simp only [PIts], fun h => absurd rfl h⟩
  · obtain ⟨xs, h5, h6⟩ := qvs_pits hvs
    refine ⟨xs, h5, fun _ => ⟨_, rfl, fun j u hj => ?_⟩⟩
    have hadd : (⟨bl, off, none⟩ : Addr).add j = ⟨bl, off + j, none⟩ := by unfold Addr.add; split <;> simp_all
    rw [hadd]
    exact h6 j u hj
theorem ql_of_row {w : World} {F : Nat → Prop} {l : List QT} {xs : List Value} {A : Option Addr} {c base : Nat} (hr : w.ownsRow base 30 11 (.slice A l.length c) l.length xs) (hp : PIts w F l xs) : QL w (fun b => F b ∨ (Value.slice A l.length c).ownBlock = some b) l (.slice A l.length c) := by
  rcases hr.2 with ⟨hv, h0⟩ | ⟨g, cap, cur, hv, hb, hg, h3, h4, _⟩
  · injection hv with hA _ hc
    subst hA hc
    exact ⟨none, 0, rfl, by omega, by omega, .inl (List.length_eq_zero_iff.1 h0)⟩
  · injection hv with hA _ hc
    subst hA hc
    refine ⟨some ⟨g, 0, none⟩, c, rfl, h3, h4, .inr ⟨g, 0, rfl, Bk.lt (t := 30) (cs := cur) hg, .inr rfl, PIts.qvs (PIts.move (fun t sl sr h => QV.only (S := []) (Only.refl _ _) (by simp) (fun _ h => .inl h) t sl sr h) hp) fun j u hj => ?_⟩⟩
    rw [Nat.zero_add]
    exact Row.cell hr j u hj
end Go.Proofs.YtlilfmpikampgaaGreatDoor
