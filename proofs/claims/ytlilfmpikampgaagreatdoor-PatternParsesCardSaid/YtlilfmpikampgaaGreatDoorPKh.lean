/- The document's reader of patterns: the row that it makes, what it answers; where it begins nothing. -/
import Derived.Test.YtlilfmpikampgaaGreatDoorPKg
import Derived.Test.YtlilfmpikampgaaGreatDoorPKa
import Derived.Test.YtlilfmpikampgaaGreatDoorPH8
import Derived.Test.YtlilfmpikampgaaGreatDoorPD8
namespace Go.Proofs.YtlilfmpikampgaaGreatDoor
open Go.RowKit

/-- The patterns of a tuple or a list that is read: they lie in a row of the call's own. -/
structure QOut (w : World) (base : Nat) (F : Nat → Prop) (sl : Value) (l : List QT) (xs : List Value) : Prop where
  le : base ≤ w.heap.size
  fr : ∀ b, F b → base ≤ b ∧ b < w.heap.size
  row : w.ownsRow base 30 11 sl l.length xs
  its : PIts w F l xs
  free : ∀ b, sl.ownBlock = some b → ¬ F b
theorem QOut.only {S : List Nat} {w w' : World} {base : Nat} {F : Nat → Prop} {sl : Value} {l : List QT} {xs : List Value} (h : QOut w base F sl l xs) (o : Only S w w') (hS : ∀ b ∈ S, b < base ∨ w.heap.size ≤ b) : QOut w' base F sl l xs := by
  have hSF : ∀ b ∈ S, ¬ F b := fun b hb hf => by
    have := h.fr b hf
    rcases hS b hb with h1 | h1 <;> omega
  refine ⟨Nat.le_trans h.le o.size, fun b hb => ⟨(h.fr b hb).1, Nat.lt_of_lt_of_le (h.fr b hb).2 o.size⟩, Row.only h.row o fun g hg hm => ?_, PIts.move (fun t sl sr => QV.only o hSF (fun _ h => h) t sl sr) h.its, h.free⟩
  have := Row.block h.row hg
  rcases hS g hm with h1 | h1 <;> omega
/-- What the append leaves: the row with one more. -/
theorem QOut.snoc {w w1 : World} {base g : Nat} {F Fx : Nat → Prop} {sl sl' pl pr : Value} {l : List QT} {xs : List Value} {t : QT} (h : QOut w base F sl l xs) (ht : QV w Fx t pl pr) (hFx : ∀ b, Fx b → base ≤ b ∧ b < w.heap.size ∧ sl.ownBlock ≠ some b)
    (o : Only sl.ownBlock.toList w w1) (hg : sl.ownBlock = some g ∨ w.heap.size ≤ g) (hb : sl'.ownBlock = some g) (hr : w1.ownsRow base 30 11 sl' (l.length + 1) (xs ++ (t.cs pl pr).toList)) :
    QOut w1 base (fun b => F b ∨ Fx b) sl' (l ++ [t]) (xs ++ (t.cs pl pr).toList) := by
  have hS1 : ∀ b ∈ sl.ownBlock.toList, ¬ F b := fun b hb => h.free b (by simpa using hb)
  have hS2 : ∀ b ∈ sl.ownBlock.toList, ¬ Fx b := fun b hb hf => (hFx b hf).2.2 (by simpa using hb)
  refine ⟨Nat.le_trans h.le o.size, fun b hb => ?_, by rw [List.length_append, List.length_singleton]; exact hr, ?_, fun b hb2 hf => ?_⟩
  · rcases hb with hb | hb
    · exact ⟨(h.fr b hb).1, Nat.lt_of_lt_of_le (h.fr b hb).2 o.size⟩
    · exact ⟨(hFx b hb).1, Nat.lt_of_lt_of_le (hFx b hb).2.1 o.size⟩
  · exact PIts.snoc (QV.only o hS2 (fun _ h => .inr h) t _ _ ht) (PIts.move (fun t sl sr => QV.only o hS1 (fun _ h => .inl h) t sl sr) h.its)
  · rw [hb] at hb2
    injection hb2 with hb2
    subst hb2
    rcases hg with hg | hg
    · rcases hf with hf | hf
      · exact h.free g hg hf
      · exact (hFx g hf).2.2 hg
    · rcases hf with hf | hf
      · have := (h.fr g hf).2; omega
      · have := (hFx g hf).2.1; omega
theorem QOut.slice {w : World} {base : Nat} {F : Nat → Prop} {sl : Value} {l : List QT} {xs : List Value} (h : QOut w base F sl l xs) : ∃ A c, sl = .slice A l.length c := by
  rcases h.row.2 with ⟨h1, h0⟩ | ⟨g, cap, cur, h1, _⟩
  · exact ⟨Option.none, 0, by rw [h1, h0]⟩
  · exact ⟨_, _, h1⟩
theorem QOut.whole {w : World} {base : Nat} {F : Nat → Prop} {sl : Value} {l : List QT} {xs : List Value} (h : QOut w base F sl l xs) : ∃ F' : Nat → Prop, (∀ b, F' b → base ≤ b ∧ b < w.heap.size) ∧ QL w F' l sl := by
  obtain ⟨A, c, rfl⟩ := h.slice
  refine ⟨_, fun b hb => ?_, ql_of_row h.row h.its⟩
  rcases hb with hb | hb
  · exact h.fr b hb
  · exact Row.block h.row hb
theorem QOut.none (w : World) {base : Nat} (h : base ≤ w.heap.size) : QOut w base (fun _ => False) (.slice none 0 0) [] [] := ⟨h, fun _ h => h.elim, ⟨rfl, .inl ⟨rfl, rfl⟩⟩, rfl, fun _ _ h => h⟩
/-- Behind the append onto the row of items (or of the rest): the block of what is made, the row. -/
theorem qapp_facts {w3 w4 : World} {b9 Bs g cap' : Nat} {cs : Array Value} {F Fx : Nat → Prop} {sl pl pr : Value} {l : List QT} {xs : List Value} {t : QT} {o1 o2 : Obj} (h9 : Bk w3 b9 30 cs) (hO : QOut w3 Bs F sl l xs) (hlt : b9 < Bs) (ht : QV w3 Fx t pl pr) (hFx : ∀ b, Fx b → Bs ≤ b ∧ b < w3.heap.size ∧ sl.ownBlock ≠ some b)
    (hown : w4.ownsRow Bs 30 11 (.slice (some ⟨g, 0, none⟩) (l.length + 1) cap') (l.length + 1) (xs ++ (t.cs pl pr).toList)) (hgrow : ((w3.alloc o1).alloc o2).grownBy w4 sl.ownBlock) (hat : sl.ownBlock = some g ∨ g = ((w3.alloc o1).alloc o2).heap.size) :
    Bk w4 b9 30 cs ∧ QOut w4 Bs (fun b => F b ∨ Fx b) (.slice (some ⟨g, 0, none⟩) (l.length + 1) cap') (l ++ [t]) (xs ++ (t.cs pl pr).toList) ∧ ∃ S, Only S w3 w4 ∧ ∀ b ∈ S, Bs ≤ b ∧ sl.ownBlock = some b := by
  have h0 : Only [] w3 ((w3.alloc o1).alloc o2) := ((Only.refl [] w3).alloc o1).alloc o2
  have h1 := Only.of_grown hgrow
  have hS : ∀ b ∈ sl.ownBlock.toList, Bs ≤ b := fun b hb => (Row.block hO.row (g := b) (by simpa using hb)).1
  have h2 : Only sl.ownBlock.toList w3 w4 := (h0.more (by simp)).trans h1 (fun i hi => .inl hi)
  refine ⟨h9.only h2 fun hm => by have := hS _ hm; omega, QOut.snoc (hO.only h0 (by simp)) (ht.same h0) (fun b hb => ⟨(hFx b hb).1, Nat.lt_of_lt_of_le (hFx b hb).2.1 h0.size, (hFx b hb).2.2⟩) h1 ?_ rfl hown, _, h2, fun b hb => ⟨hS b hb, by simpa using hb⟩⟩
  rcases hat with h | h
  · exact .inl h
  · exact .inr (by rw [h]; exact Nat.le_refl _)

/-! ### What read answers -/
def ReadE (s : ByteArray) (i : Nat) (w w' : World) (e : Ending) : Prop :=
  (∃ t n sl sr F, e = .returned (.tuple #[.agg (pcs t.k t.n t.t sl sr), .int .i64 (n : Nat), .int .i64 (-1)]) ∧ i < n ∧ n ≤ s.size ∧ (∀ b, F b → w.heap.size ≤ b ∧ b < w'.heap.size) ∧ QV w' F t sl sr ∧ ∀ stk, qrun s (.go stk 0) i = qrun s (qput stk t) n) ∨
  (∃ bad : Nat, e = .returned (.tuple #[.agg P11, .int .i64 0, .int .i64 bad]) ∧ ∀ stk, qrun s (.go stk 0) i = .error bad)
/-- A block of sixteen cells, whatever they hold. -/
abbrev tkU (u : Fin 16 → Value) : Array Value := #[u 0, u 1, u 2, u 3, u 4, u 5, u 6, u 7, u 8, u 9, u 10, u 11, u 12, u 13, u 14, u 15]
def of16 (l : List Value) (i : Fin 16) : Value := l.getD i.val undef
theorem Bk.u16 {w : World} {b : Nat} {ty : TypeId} {a0 a1 a2 a3 a4 a5 a6 a7 a8 a9 a10 a11 a12 a13 a14 a15 : Value} (h : Bk w b ty #[a0, a1, a2, a3, a4, a5, a6, a7, a8, a9, a10, a11, a12, a13, a14, a15]) : ∃ u : Fin 16 → Value, Bk w b ty (tkU u) := ⟨of16 [a0, a1, a2, a3, a4, a5, a6, a7, a8, a9, a10, a11, a12, a13, a14, a15], h⟩
theorem isPs_sh {b : UInt8} (h : isPs b = true) : b.toNat = 123 ∨ b.toNat = 125 ∨ b.toNat = 91 ∨ b.toNat = 93 ∨ b.toNat = 44 ∨ b.toNat = 124 := by
  simp only [isPs, isSg, Bool.or_eq_true, decide_eq_true_eq] at h
  omega
theorem qfin_sign {s : ByteArray} {j : Nat} {b : UInt8} (h : qkAt s j = .sign b) : qfin s j = j + 1 := (qk_signs (qk_sign h).1 (qk_sign h).2).2
set_option maxRecDepth 100000 in
set_option maxHeartbeats 4000000 in

theorem read_leaf (s : ByteArray) (i : Nat) (t : QT) (w : World) (hs : s.size ≤ 262144) (hi : i ≤ s.size) (hj : nxt s i < s.size) (h : qkAt s (nxt s i) = .leaf t) :
    Calls Tryz.prog 23 #[.string s, .int .i64 i] w fun e w' => ReadE s i w w' e ∧ Only [] w w' := by
  have rs := store_com
  have R := Lib.hid (fun stk => q_leaf hj h stk)
  have K := Lib.hid (fun w => tq_l s i (nxt s i) t i w hs hi rfl rfl hj h)
  have hge := nxt_ge s i
  have hfb := qfin_bd hj
  have HF : Hid (i < qfin s (nxt s i) ∧ qfin s (nxt s i) ≤ s.size) := Lib.hid (by omega)
  have HL := Lib.hid (qk_leaf h)
  generalize nxt s i = j at *
  generalize qfin s j = f at *
  have B0 := Lib.hid (Bk.made w 30 P11)
  have O0 := Lib.hid ((Only.refl [] w).alloc (.cells P11 30))
  clear hj h hfb hge
  go_enter Tryz.func23, Tryz.ntmps23
  go_wp2_with fail
  (with_reducible refine (K.out _).mono ?_)
  rintro e1 w1 ⟨rfl, o1⟩
  have B1 := Lib.hid (B0.out.only o1 (by simp))
  have O1 := Lib.hid (O0.out.trans o1 (by simp))
  have L1 := B1.out.lt
  clear o1
  go_wp2_with (refine wpList_store_row (by rfl) _ _ _ (by rfl) w1.heap.size (qtok true t.k t.n t.t 0 false j f) (by rfl) (by rfl) 64 _ (Bk.made w1 64 (qtz 0 false 0 0)) (by kernel_rfl) (by rfl) (by simp [Value.oneCell']) ?_; generalize hW : World.setRow _ _ _ = W2; obtain ⟨D2, oW⟩ := row_set (Bk.made w1 64 (qtz 0 false 0 0)) hW; clear hW; obtain ⟨y0, y1, y2, y3, y4, y5, y6, y7, y8, y9, y10, y11, y12, y13, y14, y15⟩ := D2.sixteen)
  have B2 := (B1.out.alloc _).only oW (by simp; omega)
  have O2 := (O1.out.alloc _).trans oW (fun b hb => .inr (by rw [List.mem_singleton.1 hb]; omega))
  clear oW
  obtain ⟨z0, z1, z2, z3, z4, z5, z6, z7, z8, z9, z10⟩ := B2.eleven
  have zf := B2.free
  go_region
  go_wp2_with fail
  generalize hW : World.setCell _ ⟨_, 10, none⟩ _ = W7 at *
  obtain ⟨B7, O7⟩ := put11 B2 hW.symm
  clear hW z0 z1 z2 z3 z4 z5 z6 z7 z8 z9 z10 zf y0 y1 y2 y3 y4 y5 y6 y7 y8 y9 y10 y11 y12 y13 y14 y15
  have B8 := B7.drew
  have O8 := (O2.trans O7 (fun i hi => .inr (by rw [List.mem_singleton.1 hi]; omega))).drew
  generalize W7.drew = W8 at *
  exact res3 Tryz.results23 B8 (by rfl) (by rfl) (by rfl) (by rfl) Tryz.underlying30 (by kernel_rfl) rfl ⟨.inl ⟨t, f, .slice none 0 0, .slice none 0 0, fun _ => False, rfl, HF.out.1, HF.out.2, fun _ h => h.elim, (QV.leaf HL.out).2 ⟨rfl, rfl⟩, R.out⟩, O8⟩
set_option maxRecDepth 100000 in
set_option maxHeartbeats 4000000 in

theorem read_x (s : ByteArray) (i : Nat) (w : World) (hs : s.size ≤ 262144) (hi : i ≤ s.size) (hxy : ∀ b, nxt s i < s.size → qkAt s (nxt s i) = .sign b → b.toNat ≠ 123 ∧ b.toNat ≠ 91) (ht : ∀ t, nxt s i < s.size → qkAt s (nxt s i) ≠ .leaf t) :
    Calls Tryz.prog 23 #[.string s, .int .i64 i] w fun e w' => ReadE s i w w' e ∧ Only [] w w' := by
  have rs := store_com
  have R : Hid (∀ stk, qrun s (.go stk 0) i = .error (nxt s i)) := Lib.hid (fun stk => by
    by_cases hj : nxt s i < s.size
    · cases htk : qkAt s (nxt s i) with
      | bad => exact q_bad hj htk stk 0
      | leaf t => exact absurd htk (ht t hj)
      | sign b => exact q_sign0 hj htk (hxy b hj htk) stk
    · exact q_end hj hi stk 0)
  have K := Lib.hid (fun w => tq_x s i (nxt s i) 123 91 i w hs hi rfl rfl (by decide) (by decide) hxy ht)
  generalize nxt s i = j at *
  have B0 := Lib.hid (Bk.made w 30 P11)
  have O0 := Lib.hid ((Only.refl [] w).alloc (.cells P11 30))
  clear hxy ht
  go_enter Tryz.func23, Tryz.ntmps23
  go_wp2_with fail
  (with_reducible refine (K.out _).mono ?_)
  rintro e1 w1 ⟨⟨sg, en, nx, rfl, hx, hy⟩, o1⟩
  have B1 := Lib.hid (B0.out.only o1 (by simp))
  have O1 := Lib.hid (O0.out.trans o1 (by simp))
  have L1 := B1.out.lt
  have g2 : (sg != 123) = true := bne_iff_ne.2 hx
  have g3 : (sg != 91) = true := bne_iff_ne.2 hy
  clear o1 hx hy
  go_wp2_with (refine wpList_store_row (by rfl) _ _ _ (by rfl) w1.heap.size (qtz sg en j nx) (by rfl) (by rfl) 64 _ (Bk.made w1 64 (qtz 0 false 0 0)) (by kernel_rfl) (by rfl) (by simp [Value.oneCell']) ?_; generalize hW : World.setRow _ _ _ = W2; obtain ⟨D2, oW⟩ := row_set (Bk.made w1 64 (qtz 0 false 0 0)) hW; clear hW; obtain ⟨y0, y1, y2, y3, y4, y5, y6, y7, y8, y9, y10, y11, y12, y13, y14, y15⟩ := D2.sixteen)
  have B2 := (B1.out.alloc _).only oW (by simp; omega)
  have O2 := (O1.out.alloc _).trans oW (fun b hb => .inr (by rw [List.mem_singleton.1 hb]; omega))
  clear oW
  obtain ⟨z0, z1, z2, z3, z4, z5, z6, z7, z8, z9, z10⟩ := B2.eleven
  have zf := B2.free
  go_region
  go_wp2_with fail
  generalize hW : World.setCell _ ⟨_, 10, none⟩ _ = W7 at *
  obtain ⟨B7, O7⟩ := put11 B2 hW.symm
  clear hW z0 z1 z2 z3 z4 z5 z6 z7 z8 z9 z10 zf y0 y1 y2 y3 y4 y5 y6 y7 y8 y9 y10 y11 y12 y13 y14 y15
  have B8 := B7.drew
  have O8 := (O2.trans O7 (fun i hi => .inr (by rw [List.mem_singleton.1 hi]; omega))).drew
  generalize W7.drew = W8 at *
  exact res3 Tryz.results23 B8 (by rfl) (by rfl) (by rfl) (by rfl) Tryz.underlying30 (by kernel_rfl) rfl ⟨.inr ⟨j, rfl, R.out⟩, O8⟩
end Go.Proofs.YtlilfmpikampgaaGreatDoor
