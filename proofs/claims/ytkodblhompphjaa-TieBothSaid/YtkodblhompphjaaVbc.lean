/- Rows of the call's own, things of them turned (what s14's J2, JC, JJ say of rows, for other seats; not to be imported beside them). Nothing here speaks of a program in particular. A row of the call's own: one thing written over, the rest cleared, cut. slices.IndexFunc, slices.DeleteFunc of ties, as Gone calls them. -/
import Derived.Test.YtkodblhompphjaaVe
import Derived.Test.YtkodblhompphjaaVbb
import Derived.Laws.IdiomCopy
namespace Go.Proofs.Ytkodblhompphjaa
open Go.RowKit
set_option maxRecDepth 20000

theorem flat_set {α : Type} (K : Sk α) {u : Value} {x x' : α} {j : Nat} (he : (K.enc x).set j u = K.enc x') (hj : j < K.k) : ∀ {xs : List α} {i : Nat}, xs[i]? = some x → (xs.flatMap K.enc).set (i * K.k + j) u = (xs.set i x').flatMap K.enc
  | [], i, h => by simp at h
  | y :: r, 0, h => by
    simp at h
    subst h
    rw [List.flatMap_cons, List.set_cons_zero, List.flatMap_cons, Nat.zero_mul, Nat.zero_add, List.set_append_left _ _ (by rw [K.henc]; exact hj), he]
  | y :: r, i + 1, h => by
    rw [List.flatMap_cons, List.set_cons_succ, List.flatMap_cons, List.set_append_right _ _ (by rw [K.henc, Nat.succ_mul]; omega), K.henc, show (i + 1) * K.k + j - K.k = i * K.k + j by rw [Nat.succ_mul]; omega, flat_set K he hj (by simpa using h)]
/-- One cell of one thing of a row turned. -/
theorem OwnS.put {α : Type} {K : Sk α} {w : World} {base g n cap : Nat} {xs : List α} (h : OwnS K w base (.slice (some ⟨g, 0, none⟩) n cap) xs) {i j : Nat} {x : α} (x' : α) (hx : xs[i]? = some x) (u : Value) (hj : j < K.k) (he : (K.enc x).set j u = K.enc x') {q : Nat} (hq : q = i * K.k + j) :
    OwnS K (w.setCell ⟨g, q, none⟩ u) base (.slice (some ⟨g, 0, none⟩) n cap) (xs.set i x') := by
  subst hq
  refine ⟨by rw [← flat_set K he hj hx, List.length_set, List.length_set]; exact h.1, ?_⟩
  rcases h.2 with ⟨hv, _⟩ | ⟨g', cap', cur, hv, hb, hg', h1, h2, h3, hx'⟩
  · cases hv
  · injection hv with k1 k2 k3
    injection k1 with k1
    injection k1 with k1
    subst k1 k2 k3
    refine .inr ⟨g, cap, cur.setIfInBounds (i * K.k + j) u, by rw [List.length_set], hb, Bk.set (t := K.e) (cs := cur) hg' (i * K.k + j) u, by rw [List.length_set]; exact h1, h2, by rw [Array.size_setIfInBounds]; exact h3, ?_⟩
    rw [Array.toList_setIfInBounds, List.take_set, List.length_set, hx', flat_set K he hj hx]
theorem OwnS.at_ {α : Type} {K : Sk α} {w : World} {base g n cap : Nat} {xs : List α} (h : OwnS K w base (.slice (some ⟨g, 0, none⟩) n cap) xs) {i : Nat} {x : α} (hx : xs[i]? = some x) {j : Nat} {v : Value} (hv : (K.enc x)[j]? = some v) {q : Nat} (hq : q = i * K.k + j) : w.cell? ⟨g, q, none⟩ = some v := by
  obtain ⟨A, cap', e, _, _, hr, _⟩ := h.form
  injection e with e1 e2 e3
  subst e1 hq
  obtain ⟨bl, off, e4, _, hc⟩ := hr.form (Nat.lt_of_le_of_lt (Nat.zero_le _) (List.getElem?_eq_some_iff.1 hx).1)
  injection e4 with e4
  injection e4 with e4 e5
  subst e4 e5
  have := hc i x hx j v hv
  rwa [Nat.zero_add] at this
theorem OwnS.free_ {α : Type} {K : Sk α} {w : World} {base g n cap : Nat} {xs : List α} (h : OwnS K w base (.slice (some ⟨g, 0, none⟩) n cap) xs) (j : Nat) : w.frozen? ⟨g, j, none⟩ = false := by
  have e : n = xs.length := by
    obtain ⟨A, cap', e, _⟩ := h.form
    injection e
  subst e
  exact RwS.free h.rw_ j
theorem OwnS.obj {α : Type} {K : Sk α} {w : World} {base g n cap : Nat} {xs : List α} (h : OwnS K w base (.slice (some ⟨g, 0, none⟩) n cap) xs) : ∃ cur, Bk w g K.e cur := by
  rcases h.2 with ⟨hv, _⟩ | ⟨g', cap', cur, hv, hb, hg', _⟩
  · cases hv
  · injection hv with h1 h2 h3
    injection h1 with h1
    injection h1 with h1
    subst h1
    exact ⟨cur, hg'⟩

theorem u64_nonneg (x : Int) : 0 ≤ IntKind.u64.wrap x := by
  unfold IntKind.wrap
  simp [IntKind.signed, IntKind.bits]
  exact Int.emod_nonneg _ (by decide)
theorem uint_mod (n : Nat) (hn : 0 < n) (hn2 : n ≤ 1000) (x : Int) : ∃ k : Nat, k < n ∧ wrap64 ((IntKind.u64.wrap x).tmod n) = (k : Int) := by
  have h := u64_nonneg x
  rw [Int.tmod_eq_emod_of_nonneg h]
  have h1 := Int.emod_nonneg (IntKind.u64.wrap x) (show (n : Int) ≠ 0 by omega)
  have h2 := Int.emod_lt_of_pos (IntKind.u64.wrap x) (show (0 : Int) < (n : Int) by omega)
  rw [wrap64_in (by omega) (by omega)]
  exact ⟨(IntKind.u64.wrap x % (n : Int)).toNat, by omega, by omega⟩

/-- Rows of other things lie apart from a table. -/
theorem OwnS.apartB {α : Type} {K : Sk α} {w : World} {base : Nat} {v : Value} {xs : List α} (h : OwnS K w base v xs) {g : Nat} {t : TypeId} {cs : Array Value} (k : Bk w g t cs) (hne : K.e ≠ t) : g ∉ v.ownBlock.toList := by
  intro hm
  have hv : v.ownBlock = some g := by simpa using hm
  rcases h.2 with ⟨e, _⟩ | ⟨g', cap, cur, rfl, hb, hg', _⟩
  · rw [e] at hv; cases hv
  · injection hv with hv
    subst hv
    exact Bk.apart (t := K.e) (cs := cur) hg' k hne rfl
theorem OwnS.setOther {α : Type} {K : Sk α} {w : World} {base : Nat} {v : Value} {xs : List α} (h : OwnS K w base v xs) {g : Nat} {t : TypeId} {cs : Array Value} (k : Bk w g t cs) (hne : K.e ≠ t) (i : Nat) (u : Value) : OwnS K (w.setCell ⟨g, i, none⟩ u) base v xs :=
  h.only ((Only.refl [g] w).set (.inl (by simp)) u) (fun g' e hm => by
    have : g' = g := by simpa using hm
    subst this
    exact h.apartB k hne (by simp [e]))
theorem OwnS.onlyB {α : Type} {K : Sk α} {w w' : World} {base : Nat} {v : Value} {xs : List α} (h : OwnS K w base v xs) {g : Nat} {t : TypeId} {cs : Array Value} (k : Bk w g t cs) (hne : K.e ≠ t) (o : Only [g] w w') : OwnS K w' base v xs :=
  h.only o (fun g' e hm => by
    have : g' = g := by simpa using hm
    subst this
    exact h.apartB k hne (by simp [e]))
theorem OwnS.some_ {α : Type} {K : Sk α} {w : World} {base : Nat} {v : Value} {xs : List α} (h : OwnS K w base v xs) (h0 : 0 < xs.length) : ∃ g cap, v = .slice (some ⟨g, 0, none⟩) xs.length cap := by
  obtain ⟨A, c, e, -, -, hr, ha⟩ := h.form
  obtain ⟨bl, off, e2, -, -⟩ := hr.form h0
  obtain ⟨-, -, e3, -⟩ := ha bl off e2
  subst e2 e3
  exact ⟨bl, c, e⟩
theorem OwnS.rd_ {α : Type} {K : Sk α} {W : World} {base : Nat} {B : Option Addr} {n c : Nat} {l : List α} (ho : OwnS K W base (.slice B n c) l) : RdS K W B l := by
  obtain ⟨D, e', e, -, -, hr, -⟩ := ho.form
  injection e with e
  subst e
  exact hr
end Go.Proofs.Ytkodblhompphjaa

namespace Go.Proofs.Ytkodblhompphjaa
open Go.RowKit
set_option maxRecDepth 20000

theorem setCells_bk : ∀ (vs : List Value) {w : World} {g o : Nat} {t : TypeId} {cs : Array Value}, Bk w g t cs →
    ∃ cs', Bk (w.setCells g o vs) g t cs' ∧ cs'.size = cs.size ∧ (∀ j, j < o → cs'[j]? = cs[j]?) ∧ Only [g] w (w.setCells g o vs)
  | [], w, g, o, t, cs, h => ⟨cs, h, rfl, fun _ _ => rfl, Only.refl _ _⟩
  | v :: r, w, g, o, t, cs, h => by
    obtain ⟨cs', h1, h2, h3, h4⟩ := setCells_bk r (o := o + 1) (h.set o v)
    refine ⟨cs', h1, by rw [h2]; simp, fun j hj => ?_, ((Only.refl [g] w).set (p := ⟨g, o, none⟩) (.inl (by simp)) v).trans h4 (by simp)⟩
    rw [h3 j (by omega), Array.getElem?_setIfInBounds_ne (by omega)]
theorem own_clear {α : Type} {K : Sk α} {w : World} {base g n cap i : Nat} {ys : List α} (h : OwnS K w base (.slice (some ⟨g, 0, none⟩) n cap) ys) (hi : i ≤ ys.length) (vs : List Value) :
    OwnS K (w.setCells g (i * K.k) vs) base (.slice (some ⟨g, 0, none⟩) i cap) (ys.take i) ∧ Only [g] w (w.setCells g (i * K.k) vs) := by
  rcases h.2 with ⟨hv, _⟩ | ⟨g', cap', cur, hv, hg, hb, h1, h2, h3, h4⟩
  · cases hv
  · injection hv with e1 e2 e3
    injection e1 with e1
    injection e1 with e1
    subst e1 e3
    have hbk : Bk w g K.e cur := hb
    obtain ⟨cs', k1, k2, k3, k4⟩ := setCells_bk vs (o := i * K.k) hbk
    refine ⟨⟨flat_len K _, .inr ⟨g, cap, cs', by rw [List.length_take, Nat.min_eq_left hi], hg, k1, by rw [List.length_take]; omega, h2, by rw [k2]; exact h3, ?_⟩⟩, k4⟩
    rw [List.length_take, Nat.min_eq_left hi]
    have e : ys.flatMap K.enc = cur.toList.take (ys.length * K.k) := h4.symm
    apply List.ext_getElem?
    intro j
    by_cases hj : j < i * K.k
    · rw [List.getElem?_take_of_lt hj, Array.getElem?_toList, k3 j hj]
      have hle : i * K.k ≤ ys.length * K.k := Nat.mul_le_mul_right _ hi
      have e2 : (cur.toList.take (ys.length * K.k))[j]? = (ys.flatMap K.enc)[j]? := by rw [e]
      rw [List.getElem?_take_of_lt (by omega), Array.getElem?_toList] at e2
      rw [e2]
      have e3 : ys.flatMap K.enc = (ys.take i).flatMap K.enc ++ (ys.drop i).flatMap K.enc := by rw [← List.flatMap_append, List.take_append_drop]
      rw [e3, List.getElem?_append_left (by rw [flat_len, List.length_take, Nat.min_eq_left hi]; exact hj)]
    · rw [List.getElem?_take_eq_none (by omega), List.getElem?_eq_none (by rw [flat_len, List.length_take, Nat.min_eq_left hi]; omega)]
/-- clear(s[i:]). -/
theorem clear_run {w : World} {base g n cap i : Nat} {ys : List Te} (h : OwnS KT w base (.slice (some ⟨g, 0, none⟩) n cap) ys) (hn : n = ys.length) (hi : i < n) (c : Nat) (ty : TypeId) :
    ∃ vs, (Builtin.clear_ #[25] ty #[.slice (some ⟨g, i * 5, none⟩) (n - i) c]).run Try.prog w = .ok (.tuple #[]) (w.setCells g (i * 5) vs) := by
  have hv : ∀ w, (zeroValue 45).run Try.prog w = .ok (.agg zT.cs) w := fun w => by kernel_rfl
  refine ⟨(Builtin.zeroCells (Value.agg zT.cs).cells (n - i)).toList, ?_⟩
  have hz : (Value.agg zT.cs).cells = zT.cs := rfl
  have hlen : (Builtin.zeroCells (Value.agg zT.cs).cells (n - i)).toList.length = (n - i) * 5 := by
    simp [Builtin.zeroCells, hz]
  have hall : ∀ v ∈ (Builtin.zeroCells (Value.agg zT.cs).cells (n - i)).toList, v.oneCell' = true := fun v hm => by
    obtain ⟨j, hj, rfl⟩ := List.mem_iff_getElem.1 hm
    simp [Builtin.zeroCells, hz]
    have h5 : j % 5 < 5 := Nat.mod_lt _ (by omega)
    generalize j % 5 = q at h5
    match q, h5 with
    | 0, _ => rfl
    | 1, _ => rfl
    | 2, _ => rfl
    | 3, _ => rfl
    | 4, _ => rfl
  have hst := run_storeCells_cells (P := Try.prog) g (i * 5) (Builtin.zeroCells (Value.agg zT.cs).cells (n - i)).toList 0 w
    (fun j hj => by
      rw [hlen] at hj
      have hq : (i * 5 + j) / 5 < ys.length := by omega
      obtain ⟨x, hx⟩ := some_at hq
      have hr : (i * 5 + j) % 5 < 5 := Nat.mod_lt _ (by omega)
      have hv : (KT.enc x)[(i * 5 + j) % 5]? = some ((KT.enc x)[(i * 5 + j) % 5]'(by rw [KT.henc]; exact hr)) := List.getElem?_eq_getElem _
      have := h.at_ hx hv (q := i * 5 + j) (by show _ = (i * 5 + j) / 5 * 5 + _; omega)
      rw [show i * 5 + 0 + j = i * 5 + j by omega, this]
      rfl)
    (fun j _ => h.free_ _) hall
  simp only [Nat.add_zero] at hst
  obtain ⟨m, hm⟩ : ∃ m, n - i = m + 1 := ⟨n - i - 1, by omega⟩
  rw [hm] at hst ⊢
  simp [Builtin.clear_, run_underlying Try.underlying25, hv, hst]
/-- s[:i], s[i:] of a row of ties. -/
theorem slice_to {g n cap i : Nat} (hi : i ≤ cap) (W : World) : (Instr.slice 25 (.slice (some ⟨g, 0, none⟩) n cap) none (some (.int .i64 (i : Int))) none).run Try.prog W = .ok (.slice (some ⟨g, 0, none⟩) i cap) W := by
  have he : Try.prog.elem 25 = 45 := by simp [Program.elem, Try.underlying25]
  have := run_slice_h (P := Try.prog) (w := W) 25 (some ⟨g, 0, none⟩) n cap (by rw [he]; exact Try.underlying25) .i64 (i : Int) (by omega) (by omega)
  have hs : (sizeOf (Try.prog.elem 25)).run Try.prog = fun w => .ok 5 w := by
    funext w
    rw [he]
    exact Try.sizeOf45 w
  rw [this, hs]
  simp [Result.andThen, sliced, Addr.add]
theorem slice_from {g n cap i : Nat} (hi : i ≤ n) (hc : i < cap) (W : World) : (Instr.slice 25 (.slice (some ⟨g, 0, none⟩) n cap) (some (.int .i64 (i : Int))) none none).run Try.prog W = .ok (.slice (some ⟨g, i * 5, none⟩) (n - i) (cap - i)) W := by
  have he : Try.prog.elem 25 = 45 := by simp [Program.elem, Try.underlying25]
  have := run_slice_l (P := Try.prog) (w := W) 25 (some ⟨g, 0, none⟩) n cap (by rw [he]; exact Try.underlying25) .i64 (i : Int) (by omega) (by omega)
  have hs : (sizeOf (Try.prog.elem 25)).run Try.prog = fun w => .ok 5 w := by
    funext w
    rw [he]
    exact Try.sizeOf45 w
  rw [this, hs]
  have : ¬ cap = i := by omega
  simp [Result.andThen, sliced, Addr.add, this]
  omega
end Go.Proofs.Ytkodblhompphjaa

namespace Go.Proofs.Ytkodblhompphjaa
open Go.RowKit
set_option maxRecDepth 20000

/-- What IndexFunc answers. -/
def IdxE (w : World) (p : Pd) (xs : List Te) (e : Ending) (w' : World) : Prop := ∃ r : Int, e = .returned (.int .i64 r) ∧ Only [] w w' ∧
  ((r = -1 ∧ ∀ x ∈ xs, eqP x.a p = false) ∨ ∃ i : Nat, r = (i : Int) ∧ i < xs.length ∧ (∀ j x, j < i → xs[j]? = some x → eqP x.a p = false) ∧ ∀ x, xs[i]? = some x → eqP x.a p = true)
abbrev fn49 (ab : Nat) : Value := .func (.func 49) #[] #[.pointer (some ⟨ab, 0, none⟩)]
set_option maxHeartbeats 4000000 in
theorem idxf_any {w : World} {ab : Nat} {p : Pd} (hb : Bk w ab 32 p.cs) (A : Option Addr) (xs : List Te) (cap : Nat) (h : RdS KT w A xs) (hl : xs.length ≤ 17592186044416) :
    Calls Try.prog 65 #[.slice A xs.length cap, fn49 ab] w (IdxE w p xs) := by
  have H := Lib.hid h
  have HB := Lib.hid hb
  clear h hb
  go_enter Try.func65, Try.ntmps65
  go_wp2_with fail
  go_loopw [8] (fun iv wr => ∃ i : Nat, iv = .int .i64 i ∧ i ≤ xs.length ∧ (∀ j x, j < i → xs[j]? = some x → eqP x.a p = false) ∧ Only [] w wr) (fun iv _ => xs.length - (intOf iv).toNat)
  case atStart => exact ⟨0, rfl, Nat.zero_le _, fun j _ hj => absurd hj (by omega), Only.refl _ _⟩
  case round =>
    obtain ⟨i, rfl, hi, hall, o⟩ := hrel
    have O := Lib.hid o
    have HA := Lib.hid hall
    clear hall
    by_cases hlt : i < xs.length
    · obtain ⟨bl, off, rfl, hb, hc⟩ := RdT.at5 (H.out.only o (by simp)) (by omega)
      obtain ⟨x, hx⟩ := some_at hlt
      obtain ⟨x0, x1, x2, x3, x4⟩ := hc i x hx
      have K := Lib.hid (gone2_any (HB.out.only o (by simp)) x)
      have HX := Lib.hid hx
      clear hc hx o hb
      cases hE : eqP x.a p with
      | true =>
        rw [hE] at K
        have F : Hid (∀ w', Only [] wr w' → IdxE w p xs (.returned (.int .i64 i)) w') := Lib.hid (fun w' o => ⟨i, rfl, O.out.trans o (by simp), .inr ⟨i, rfl, hlt, HA.out, fun y hy => by
          rw [HX.out] at hy
          injection hy with hy
          rw [← hy]
          exact hE⟩⟩)
        clear hE
        go_wp2_with fail
        (with_reducible refine K.out.mono ?_)
        rintro e w1 ⟨rfl, o1⟩
        go_wp2_with fail
        go_ret
        exact F.out _ o1
      | false =>
        rw [hE] at K
        have N : Hid (∀ j y, j < i + 1 → xs[j]? = some y → eqP y.a p = false) := Lib.hid (fun j y hj hy => by
          by_cases e : j = i
          · subst e
            rw [HX.out] at hy
            injection hy with hy
            rw [← hy]
            exact hE
          · exact HA.out j y (by omega) hy)
        clear hE
        go_wp2_with fail
        (with_reducible refine K.out.mono ?_)
        rintro e w1 ⟨rfl, o1⟩
        have O1 := Lib.hid (O.out.trans o1 (by simp))
        clear o1
        go_wp2_with fail
        go_roundw
        case rel => exact ⟨i + 1, by go_num, by omega, N.out, O1.out⟩
        case measure => simp [intOf]; omega
    · have F : Hid (IdxE w p xs (.returned (.int .i64 (-1))) wr) := Lib.hid ⟨-1, rfl, o, .inl ⟨rfl, fun x hx => by
        obtain ⟨j, hj⟩ := List.mem_iff_getElem?.1 hx
        exact HA.out j x (by have := (List.getElem?_eq_some_iff.1 hj).1; omega) hj⟩⟩
      go_wp2_with fail
      go_ret
      exact F.out
/-- The things that stay. -/
def stayT (p : Pd) (l : List Te) : List Te := l.filter fun x => !eqP x.a p
/-- What DeleteFunc answers: the row, cut. -/
def SdlE (w : World) (base : Nat) (v : Value) (p : Pd) (xs : List Te) (e : Ending) (w' : World) : Prop := ∃ v', e = .returned v' ∧ OwnS KT w' base v' (stayT p xs) ∧ v'.ownBlock = v.ownBlock ∧ Only v.ownBlock.toList w w'
theorem own_set5 {w : World} {base g n cap : Nat} {ys : List Te} (h : OwnS KT w base (.slice (some ⟨g, 0, none⟩) n cap) ys) {i : Nat} (hi : i < ys.length) (x : Te) :
    OwnS KT (((((w.setCell ⟨g, i * 5, none⟩ (.int .i64 x.r)).setCell ⟨g, i * 5 + 1, none⟩ (.int .i64 x.a.n)).setCell ⟨g, i * 5 + 2, none⟩ (.int .i64 x.a.g)).setCell ⟨g, i * 5 + 3, none⟩ (.int .i64 x.b.n)).setCell ⟨g, i * 5 + 4, none⟩ (.int .i64 x.b.g)) base (.slice (some ⟨g, 0, none⟩) n cap) (ys.set i x) := by
  obtain ⟨y, hy⟩ := some_at hi
  have e : ∀ {l : List Te} {z : Te}, l.length = ys.length → (l.set i z)[i]? = some z := fun {l z} hl => by rw [List.getElem?_set_self (by omega)]
  have h0 := h.put (x := y) ⟨x.r, y.a, y.b⟩ hy (.int .i64 x.r) (j := 0) (by show 0 < 5; omega) rfl (q := i * 5) (by show _ = i * 5 + 0; omega)
  have h1 := h0.put (x := ⟨x.r, y.a, y.b⟩) ⟨x.r, ⟨x.a.n, y.a.g⟩, y.b⟩ (e rfl) (.int .i64 x.a.n) (j := 1) (by show 1 < 5; omega) rfl (q := i * 5 + 1) rfl
  have h2 := h1.put (x := ⟨x.r, ⟨x.a.n, y.a.g⟩, y.b⟩) ⟨x.r, x.a, y.b⟩ (e (by simp)) (.int .i64 x.a.g) (j := 2) (by show 2 < 5; omega) rfl (q := i * 5 + 2) rfl
  have h3 := h2.put (x := ⟨x.r, x.a, y.b⟩) ⟨x.r, x.a, ⟨x.b.n, y.b.g⟩⟩ (e (by simp)) (.int .i64 x.b.n) (j := 3) (by show 3 < 5; omega) rfl (q := i * 5 + 3) rfl
  have h4 := h3.put (x := ⟨x.r, x.a, ⟨x.b.n, y.b.g⟩⟩) x (e (by simp)) (.int .i64 x.b.g) (j := 4) (by show 4 < 5; omega) rfl (q := i * 5 + 4) rfl
  simp only [List.set_set] at h4
  exact h4
theorem take_snocL {xs : List Te} {i : Nat} {x : Te} (hx : xs[i]? = some x) : xs.take (i + 1) = xs.take i ++ [x] := by
  rw [List.take_add_one, hx]; rfl
/-- What the loop of DeleteFunc keeps. -/
structure SdR (w : World) (base g cap ab : Nat) (p : Pd) (xs : List Te) (i j : Nat) (wr : World) : Prop where
  le : i < j ∧ j ≤ xs.length
  ex : ∃ ys, OwnS KT wr base (.slice (some ⟨g, 0, none⟩) xs.length cap) ys ∧ ys.length = xs.length ∧ ys.take i = stayT p (xs.take j) ∧ ys.drop j = xs.drop j
  ba : Bk wr ab 32 p.cs
  o : Only [g] w wr
theorem stay_snoc (p : Pd) (l : List Te) (x : Te) : stayT p (l ++ [x]) = stayT p l ++ if eqP x.a p = true then [] else [x] := by
  unfold stayT
  rw [List.filter_append]
  congr 1
  cases h : eqP x.a p <;> simp [h]
theorem SdR.skip {w wr w2 : World} {base g cap ab : Nat} {p : Pd} {xs : List Te} {i j : Nat} {x : Te} (h : SdR w base g cap ab p xs i j wr) (hx : xs[j]? = some x) (hE : eqP x.a p = true) (o : Only [] wr w2) : SdR w base g cap ab p xs i (j + 1) w2 := by
  obtain ⟨ys, h1, h2, h3, h4⟩ := h.ex
  have hj := (List.getElem?_eq_some_iff.1 hx).1
  refine ⟨⟨by have := h.le; omega, hj⟩, ⟨ys, h1.only o (by simp), h2, ?_, ?_⟩, h.ba.only o (by simp), h.o.trans o (by simp)⟩
  · rw [take_snocL hx, stay_snoc, if_pos hE, List.append_nil]
    exact h3
  · have := congrArg (List.drop 1) h4
    rw [List.drop_drop, List.drop_drop] at this
    exact this
theorem SdR.keep {w wr w2 w3 : World} {base g cap ab : Nat} {p : Pd} {xs : List Te} {i j : Nat} {x : Te} (h : SdR w base g cap ab p xs i j wr) (hx : xs[j]? = some x) (hE : eqP x.a p = false) (o : Only [] wr w2) (hg : ab ≠ g)
    (e : w3 = (((((w2.setCell ⟨g, i * 5, none⟩ (.int .i64 x.r)).setCell ⟨g, i * 5 + 1, none⟩ (.int .i64 x.a.n)).setCell ⟨g, i * 5 + 2, none⟩ (.int .i64 x.a.g)).setCell ⟨g, i * 5 + 3, none⟩ (.int .i64 x.b.n)).setCell ⟨g, i * 5 + 4, none⟩ (.int .i64 x.b.g))) : SdR w base g cap ab p xs (i + 1) (j + 1) w3 := by
  obtain ⟨ys, h1, h2, h3, h4⟩ := h.ex
  have hj := (List.getElem?_eq_some_iff.1 hx).1
  have hl := h.le
  have h5 := own_set5 (h1.only o (by simp)) (i := i) (by omega) x
  rw [← e] at h5
  have o3 : Only [g] w2 w3 := by
    rw [e]
    exact (((((Only.refl [g] w2).set (.inl (by simp)) _).set (.inl (by simp)) _).set (.inl (by simp)) _).set (.inl (by simp)) _).set (.inl (by simp)) _
  refine ⟨⟨by omega, hj⟩, ⟨ys.set i x, h5, by rw [List.length_set]; exact h2, ?_, ?_⟩, (h.ba.only o (by simp)).only o3 (by simp; omega), (h.o.trans o (by simp)).trans o3 (by simp)⟩
  · rw [take_snocL hx, stay_snoc, if_neg (by rw [hE]; simp), ← h3, take_snocL (x := x) (by rw [List.getElem?_set_self (by omega)])]
    congr 1
    rw [List.take_set_of_le (Nat.le_refl i)]
  · rw [List.drop_set_of_lt (by omega)]
    have := congrArg (List.drop 1) h4
    rw [List.drop_drop, List.drop_drop] at this
    exact this
set_option maxHeartbeats 16000000 in
theorem sdel_any {w : World} {base ab : Nat} {p : Pd} (hb : Bk w ab 32 p.cs) {v : Value} {xs : List Te} (h : OwnS KT w base v xs) (hl : xs.length ≤ 17592186044416) :
    Calls Try.prog 48 #[v, fn49 ab] w (SdlE w base v p xs) := by
  obtain ⟨A, cap, rfl, hc1, hc2, hrd, -⟩ := h.form
  have KI := Lib.hid (idxf_any hb A xs cap hrd hl)
  have H := Lib.hid h
  have HB := Lib.hid hb
  have HC := Lib.hid hc1
  clear hrd h hb
  go_enter Try.func48, Try.ntmps48
  go_wp2_with fail
  (with_reducible refine KI.out.mono ?_)
  rintro e w1 ⟨r, rfl, o1, hr⟩
  have O1 := Lib.hid o1
  have HR := Lib.hid hr
  clear o1 hr KI
  by_cases hr1 : r = -1
  · subst hr1
    have F : Hid (SdlE w base (.slice A xs.length cap) p xs (.returned (.slice A xs.length cap)) w1) := Lib.hid ⟨_, rfl, by
      have e : stayT p xs = xs := by
        rcases HR.out with ⟨_, h⟩ | ⟨i, h, _⟩
        · exact List.filter_eq_self.2 fun x hx => by rw [h x hx]; rfl
        · omega
      rw [e]
      exact H.out.only O1.out (by simp), rfl, O1.out.more (by simp)⟩
    go_wp2_with fail
    go_ret
    exact F.out
  · have hr2 : ∃ i : Nat, r = (i : Int) ∧ i < xs.length ∧ (∀ j x, j < i → xs[j]? = some x → eqP x.a p = false) ∧ ∀ x, xs[i]? = some x → eqP x.a p = true := by
      rcases HR.out with ⟨h, _⟩ | h
      · exact absurd h hr1
      · exact h
    obtain ⟨i0, rfl, hi0, hbef, hat⟩ := hr2
    obtain ⟨g, cap', e⟩ := H.out.some_ (by omega)
    injection e with e1 _ e3
    subst e1 e3
    have HG := Lib.hid (show ab ≠ g from fun e => H.out.apartB HB.out (by decide) (by simp [Value.ownBlock, e]))
    have q1 : ((i0 : Int) == -1) = false := by
      rw [beq_eq_false_iff_ne]
      omega
    have R0 : Hid (SdR w base g cap ab p xs i0 (i0 + 1) w1) := Lib.hid ⟨⟨by omega, hi0⟩, ⟨xs, H.out.only O1.out (by simp), rfl, by
      obtain ⟨x, hx⟩ := some_at hi0
      rw [take_snocL hx, stay_snoc, if_pos (hat x hx), List.append_nil]
      exact (List.filter_eq_self.2 fun y hy => by
        obtain ⟨j, hj⟩ := List.mem_iff_getElem?.1 hy
        have hjl := (List.getElem?_eq_some_iff.1 hj).1
        rw [List.length_take] at hjl
        rw [List.getElem?_take_of_lt (by omega)] at hj
        rw [hbef j y (by omega) hj]
        rfl).symm, rfl⟩, HB.out.only O1.out (by simp), O1.out.more (by simp)⟩
    clear hr1 hbef hat HR O1
    go_wp2_with fail
    go_loopw [5, 6] (fun iv jv wr => ∃ i j : Nat, iv = .int .i64 i ∧ jv = .int .i64 j ∧ SdR w base g cap ab p xs i j wr) (fun _ jv _ => xs.length - (intOf jv).toNat)
    case atStart => exact ⟨i0, i0 + 1, rfl, by go_num, R0.out⟩
    case round =>
      clear R0 hi0 q1
      obtain ⟨i, j, rfl, rfl, hr⟩ := hrel
      have R := Lib.hid hr
      clear hr
      have hle := R.out.le
      by_cases hlt : j < xs.length
      · obtain ⟨ys, hy1, hy2, hy3, hy4⟩ := R.out.ex
        obtain ⟨x, hx⟩ := some_at hlt
        have hyx : ys[j]? = some x := by
          have := congrArg (fun l : List Te => l[0]?) hy4
          simp only [List.getElem?_drop, Nat.add_zero] at this
          rw [this]
          exact hx
        have c0 := hy1.at_ hyx (j := 0) rfl (q := j * 5) (by show _ = j * 5 + 0; omega)
        have c1 := hy1.at_ hyx (j := 1) rfl (q := j * 5 + 1) rfl
        have c2 := hy1.at_ hyx (j := 2) rfl (q := j * 5 + 2) rfl
        have c3 := hy1.at_ hyx (j := 3) rfl (q := j * 5 + 3) rfl
        have c4 := hy1.at_ hyx (j := 4) rfl (q := j * 5 + 4) rfl
        have HX := Lib.hid hx
        have K := Lib.hid (gone2_any (R.out.ba.alloc (.cells x.cs 45)) x)
        have O2 := Lib.hid ((Only.refl [] wr).alloc (.cells x.cs 45))
        have T0 := Lib.hid (Bk.made wr 45 x.cs)
        obtain ⟨t0, t1, t2, t3, t4⟩ := T0.out.tie
        clear hy1 hy2 hy3 hy4 hx hyx
        cases hE : eqP x.a p with
        | true =>
          rw [hE] at K
          have HE := Lib.hid hE
          clear hE
          go_wp2_with fail
          (with_reducible refine K.out.mono ?_)
          rintro e w3 ⟨rfl, o3⟩
          have N := Lib.hid (R.out.skip HX.out HE.out (O2.out.trans o3 (by simp)))
          clear o3
          go_wp2_with fail
          go_roundw
          case rel => exact ⟨i, j + 1, rfl, by go_num, N.out⟩
          case measure => simp [intOf]; omega
        | false =>
          rw [hE] at K
          have HE := Lib.hid hE
          clear hE
          go_wp2_with fail
          (with_reducible refine K.out.mono ?_)
          rintro e w3 ⟨rfl, o3⟩
          have o4 := O2.out.trans o3 (by simp)
          obtain ⟨ys, hy1, hy2, -, -⟩ := R.out.ex
          have hy3 := hy1.only o4 (by simp)
          obtain ⟨y, hy⟩ := some_at (show i < ys.length by omega)
          have d0 := hy3.at_ hy (j := 0) rfl (q := i * 5) (by show _ = i * 5 + 0; omega)
          have d1 := hy3.at_ hy (j := 1) rfl (q := i * 5 + 1) rfl
          have d2 := hy3.at_ hy (j := 2) rfl (q := i * 5 + 2) rfl
          have d3 := hy3.at_ hy (j := 3) rfl (q := i * 5 + 3) rfl
          have d4 := hy3.at_ hy (j := 4) rfl (q := i * 5 + 4) rfl
          have df := hy3.free_
          have N := Lib.hid (fun w5 e => R.out.keep (w3 := w5) HX.out HE.out o4 HG.out e)
          clear c0 c1 c2 c3 c4 t0 t1 t2 t3 t4
          obtain ⟨t0, t1, t2, t3, t4⟩ := (T0.out.only o3 (by simp)).tie
          clear hy1 hy2 hy3 hy o3 o4 R
          go_wp2_with fail
          go_roundw
          case rel => exact ⟨i + 1, j + 1, by go_num, by go_num, N.out _ rfl⟩
          case measure => simp [intOf]; omega
      · have ej : j = xs.length := by omega
        subst ej
        obtain ⟨ys, hy1, hy2, hy3, -⟩ := R.out.ex
        have hcl := HC.out
        obtain ⟨vs, hrun⟩ := clear_run hy1 (by omega) (i := i) (by omega) (cap - i) 0
        obtain ⟨oc, o5⟩ := own_clear hy1 (i := i) (by omega) vs
        have hs1 := slice_from (g := g) (n := xs.length) (cap := cap) (i := i) (by omega) (by omega)
        have hs2 := slice_to (g := g) (n := xs.length) (cap := cap) (i := i) (by omega)
        rw [hy3, List.take_length] at oc
        have F : Hid (SdlE w base (.slice (some ⟨g, 0, none⟩) xs.length cap) p xs (.returned (.slice (some ⟨g, 0, none⟩) i cap)) (wr.setCells g (i * 5) vs)) := Lib.hid ⟨_, rfl, oc, rfl, R.out.o.trans o5 (by simp)⟩
        clear oc o5 hy1 hy2 hy3 R
        go_wp2_with fail
        go_ret
        exact F.out
end Go.Proofs.Ytkodblhompphjaa
