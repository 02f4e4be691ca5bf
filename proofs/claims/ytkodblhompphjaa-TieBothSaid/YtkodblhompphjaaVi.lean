/- The document's Gone. The document's Link. -/
import Derived.Test.YtkodblhompphjaaVg
import Derived.Test.YtkodblhompphjaaVh
import Derived.Test.YtkodblhompphjaaVd
namespace Go.Proofs.Ytkodblhompphjaa
open Go.RowKit
set_option maxRecDepth 20000

theorem goneT_take {l : List Te} {i : Nat} {x : Te} {p : Pd} (h : l[i]? = some x) : goneT (l.take (i + 1)) p = goneT (l.take i) p ++ if (!eqP x.a p && !eqP x.b p) = true then [x] else [] := by
  unfold goneT
  rw [List.take_add_one, List.filter_append, h]
  cases hx : (!eqP x.a p && !eqP x.b p) <;> simp [hx]
theorem toldT_take {l : List Te} {i : Nat} {x : Te} {p : Pd} (h : l[i]? = some x) : toldT (l.take (i + 1)) p = toldT (l.take i) p ++ if (decide (0 < x.r) && eqP x.b p && !eqP x.a p) = true then [x] else [] := by
  unfold toldT
  rw [List.take_add_one, List.filter_append, h]
  cases hx : (decide (0 < x.r) && eqP x.b p && !eqP x.a p) <;> simp [hx]
abbrev tyTi : TypeId := 27
/-- Where Gone's loop stands: who is left, who is told. -/
structure GoR (w : World) (n : Nat) (A : Option Addr) (cap : Nat) (p : Pd) (lo lt : List Te) (v t : Value) (wr : World) : Prop where
  ho : OwnS KT wr (w.heap.size + 4) v lo
  ht : OwnS KT wr (w.heap.size + 4) t lt
  ap : ∀ g, v.ownBlock = some g → t.ownBlock ≠ some g
  bt : Bk wr w.heap.size tyTi (tiC true (.slice A n cap))
  bp : Bk wr (w.heap.size + 1) 32 p.cs
  br : Bk wr (w.heap.size + 1 + 1) tyTi (tiC false (.slice none 0 0))
  bo : Bk wr (w.heap.size + 1 + 1 + 1) tyTi (tiC true v)
  o : Only [] w wr
  hs : w.heap.size + 4 ≤ wr.heap.size
section
variable {w wr wr' w1 : World} {n : Nat} {A : Option Addr} {cap : Nat} {p : Pd} {lo lt : List Te} {v t : Value}
theorem GoR.only (u : GoR w n A cap p lo lt v t wr) (k : Only [] wr wr') : GoR w n A cap p lo lt v t wr' :=
  ⟨u.ho.only k (by simp), u.ht.only k (by simp), u.ap, u.bt.only k (by simp), u.bp.only k (by simp), u.br.only k (by simp), u.bo.only k (by simp), u.o.trans k (by simp), Nat.le_trans u.hs k.size⟩
/-- One more who is left. -/
theorem GoR.left (u : GoR w n A cap p lo lt v t wr) {g c m : Nat} {l' : List Te} (hown : OwnS KT w1 (w.heap.size + 4) (.slice (some ⟨g, 0, none⟩) m c) l') (hgrow : wr.grownBy w1 v.ownBlock) (hat : v.ownBlock = some g ∨ g = wr.heap.size) :
    GoR w n A cap p l' lt (.slice (some ⟨g, 0, none⟩) m c) t (w1.setCell ⟨w.heap.size + 1 + 1 + 1, 1, none⟩ (.slice (some ⟨g, 0, none⟩) m c)) := by
  have k := Only.of_grown hgrow
  have lt4 : ∀ x ∈ v.ownBlock.toList, w.heap.size + 4 ≤ x := fun x hx => (u.ho.own_ge x hx).1
  have S3 : Only [w.heap.size + 1 + 1 + 1] w1 (w1.setCell ⟨w.heap.size + 1 + 1 + 1, 1, none⟩ (.slice (some ⟨g, 0, none⟩) m c)) := (Only.refl _ _).set (.inl (by simp)) _
  have ht1 : OwnS KT w1 (w.heap.size + 4) t lt := u.ht.only k fun x hx hm => u.ap x (by simpa using hm) hx
  refine ⟨hown.only S3 (fun x hx => by have := (hown.block hx).1; simp; omega), ht1.only S3 (fun x hx => by have := (u.ht.block hx).1; simp; omega), fun x hx hx2 => ?_, ((u.bt.only k (fun hm => by have := lt4 _ hm; omega)).only S3 (by simp; omega)),
    ((u.bp.only k (fun hm => by have := lt4 _ hm; omega)).only S3 (by simp)), ((u.br.only k (fun hm => by have := lt4 _ hm; omega)).only S3 (by simp)), ((u.bo.only k (fun hm => by have := lt4 _ hm; omega)).set 1 _), ?_, ?_⟩
  · injection hx with hx
    subst hx
    rcases hat with h | h
    · exact u.ap _ h hx2
    · have := (u.ht.block (g := g) hx2).2
      omega
  · exact (u.o.trans k (fun x hx => .inr (by have := lt4 x hx; omega))).trans S3 (fun x hx => .inr (by simp at hx; omega))
  · have := u.hs
    have := hgrow.size
    simp [World.setCell]
    omega
/-- One more who is told. -/
theorem GoR.tell (u : GoR w n A cap p lo lt v t wr) {g c m : Nat} {l' : List Te} (hown : OwnS KT w1 (w.heap.size + 4) (.slice (some ⟨g, 0, none⟩) m c) l') (hgrow : wr.grownBy w1 t.ownBlock) (hat : t.ownBlock = some g ∨ g = wr.heap.size) :
    GoR w n A cap p lo l' v (.slice (some ⟨g, 0, none⟩) m c) w1 := by
  have k := Only.of_grown hgrow
  have lt4 : ∀ x ∈ t.ownBlock.toList, w.heap.size + 4 ≤ x := fun x hx => (u.ht.own_ge x hx).1
  refine ⟨u.ho.only k (fun x hx hm => u.ap x hx (by simpa using hm)), hown, fun x hx hx2 => ?_, u.bt.only k (fun hm => by have := lt4 _ hm; omega), u.bp.only k (fun hm => by have := lt4 _ hm; omega), u.br.only k (fun hm => by have := lt4 _ hm; omega), u.bo.only k (fun hm => by have := lt4 _ hm; omega),
    u.o.trans k (fun x hx => .inr (by have := lt4 x hx; omega)), Nat.le_trans u.hs hgrow.size⟩
  injection hx2 with hx2
  subst hx2
  rcases hat with h | h
  · exact u.ap _ hx h
  · have := (u.ho.block (g := g) hx).2
    omega
end
/-- The same of append's row, whatever it is. -/
theorem GoR.leftE {w wr w1 : World} {n : Nat} {A : Option Addr} {cap : Nat} {p : Pd} {lo lt : List Te} {v t v' : Value} {l' : List Te} (u : GoR w n A cap p lo lt v t wr) (hown : OwnS KT w1 (w.heap.size + 4) v' l') (hl : 0 < l'.length) (hgrow : wr.grownBy w1 v.ownBlock) (hat : v'.ownBlock = v.ownBlock ∨ v'.ownBlock = some wr.heap.size) :
    ∃ g m c, v' = .slice (some ⟨g, 0, none⟩) m c ∧ w1.cell? ⟨w.heap.size + 1 + 1 + 1, 1, none⟩ = some v ∧ w1.frozen? ⟨w.heap.size + 1 + 1 + 1, 1, none⟩ = false ∧ GoR w n A cap p l' lt v' t (w1.setCell ⟨w.heap.size + 1 + 1 + 1, 1, none⟩ v') := by
  obtain ⟨D, c, rfl, -, -, hr, ha⟩ := hown.form
  obtain ⟨bl, off, rfl, -, -⟩ := hr.form hl
  obtain ⟨-, -, rfl, hb⟩ := ha bl off rfl
  have lt4 : ∀ x ∈ v.ownBlock.toList, w.heap.size + 4 ≤ x := fun x hx => (u.ho.own_ge x hx).1
  have b1 := u.bo.only (Only.of_grown hgrow) (fun hm => by have := lt4 _ hm; omega)
  refine ⟨bl, _, c, rfl, b1.cell0 (i := 1) rfl, b1.free 1, u.left hown hgrow ?_⟩
  rcases hat with h | h
  · left
    rw [← h]; rfl
  · right
    injection h
theorem GoR.tellE {w wr w1 : World} {n : Nat} {A : Option Addr} {cap : Nat} {p : Pd} {lo lt : List Te} {v t v' : Value} {l' : List Te} (u : GoR w n A cap p lo lt v t wr) (hown : OwnS KT w1 (w.heap.size + 4) v' l') (hl : 0 < l'.length) (hgrow : wr.grownBy w1 t.ownBlock) (hat : v'.ownBlock = t.ownBlock ∨ v'.ownBlock = some wr.heap.size) : GoR w n A cap p lo l' v v' w1 := by
  obtain ⟨D, c, rfl, -, -, hr, ha⟩ := hown.form
  obtain ⟨bl, off, rfl, -, -⟩ := hr.form hl
  obtain ⟨-, -, rfl, hb⟩ := ha bl off rfl
  refine u.tell hown hgrow ?_
  rcases hat with h | h
  · left
    rw [← h]; rfl
  · right
    injection h
/-- The answer's cells are stored into. -/
theorem GoR.shut {w wr : World} {n : Nat} {A : Option Addr} {cap : Nat} {p : Pd} {lo lt : List Te} {v t : Value} (u : GoR w n A cap p lo lt v t wr) :
    OwnS KT ((wr.setCell ⟨w.heap.size + 1 + 1, 0, none⟩ (.bool true)).setCell ⟨w.heap.size + 1 + 1, 1, none⟩ v) (w.heap.size + 4) v lo ∧ OwnS KT ((wr.setCell ⟨w.heap.size + 1 + 1, 0, none⟩ (.bool true)).setCell ⟨w.heap.size + 1 + 1, 1, none⟩ v) (w.heap.size + 4) t lt ∧
    Only [] w ((wr.setCell ⟨w.heap.size + 1 + 1, 0, none⟩ (.bool true)).setCell ⟨w.heap.size + 1 + 1, 1, none⟩ v) ∧ Only [w.heap.size + 1 + 1] wr ((wr.setCell ⟨w.heap.size + 1 + 1, 0, none⟩ (.bool true)).setCell ⟨w.heap.size + 1 + 1, 1, none⟩ v) := by
  have o : Only [w.heap.size + 1 + 1] wr ((wr.setCell ⟨w.heap.size + 1 + 1, 0, none⟩ (.bool true)).setCell ⟨w.heap.size + 1 + 1, 1, none⟩ v) := ((Only.refl [w.heap.size + 1 + 1] wr).set (.inl (by simp)) _).set (.inl (by simp)) _
  exact ⟨u.ho.only o (fun g hg => by have := (u.ho.block hg).1; simp; omega), u.ht.only o (fun g hg => by have := (u.ht.block hg).1; simp; omega), u.o.trans o (fun x hx => .inr (by simp at hx; omega)), o⟩
theorem goneT_len (l : List Te) (p : Pd) : (goneT l p).length ≤ l.length := List.length_filter_le _ _
theorem toldT_len (l : List Te) (p : Pd) : (toldT l p).length ≤ l.length := List.length_filter_le _ _
def GoneE (w : World) (xs : List Te) (p : Pd) (e : Ending) (w' : World) : Prop := ∃ v v1 v2, e = .returned (.tuple #[.agg (tiC true v), v1, v2]) ∧ OwnS KT w' w.heap.size v (goneT xs p) ∧ OwnS KP w' w.heap.size v1 (linksT xs p) ∧ OwnS KT w' w.heap.size v2 (toldT xs p) ∧ (∀ g, v.ownBlock = some g → v2.ownBlock ≠ some g) ∧ Only [] w w'
set_option maxHeartbeats 16000000 in
theorem rgone_any (A : Option Addr) (xs : List Te) (cap : Nat) (p : Pd) (w : World) (h : RdS KT w A xs) (hl : xs.length * 40 + 4096 ≤ 140737488355328) :
    Calls Try.prog 31 #[.agg (tiC true (.slice A xs.length cap)), .agg p.cs] w (GoneE w xs p) := by
  have hW : ∃ w0, w0 = (((w.alloc (.cells (tiC true (.slice A xs.length cap)) tyTi)).alloc (.cells p.cs 32)).alloc (.cells (tiC false (.slice none 0 0)) tyTi)).alloc (.cells (tiC true (.slice none 0 0)) tyTi) := ⟨_, rfl⟩
  obtain ⟨w0, e0⟩ := hW
  have U0 := Lib.hid (show GoR w xs.length A cap p [] [] (.slice none 0 0) (.slice none 0 0) w0 from by
    subst e0
    exact ⟨OwnS.nil _ _ _, OwnS.nil _ _ _, fun g hg => (by cases hg), (((Bk.made w _ _).alloc _).alloc _).alloc _, ((Bk.newAt (by simp)).alloc _).alloc _, (Bk.newAt (by simp)).alloc _, Bk.newAt (by simp), ((((Only.refl [] w).alloc _).alloc _).alloc _).alloc _, by simp⟩)
  have H := Lib.hid h
  obtain ⟨pn, pg⟩ := p
  have bt := (Bk.made w tyTi (tiC true (.slice A xs.length cap))).alloc (.cells (⟨pn, pg⟩ : Pd).cs 32)
  have q0 := (bt.alloc (.cells (tiC false (.slice none 0 0)) tyTi)).cell0 (i := 0) (v := .bool true) rfl
  clear h bt
  go_enter Try.func31, Try.ntmps31
  go_wp2_with fail
  go_loopw [8, 9, 10] (fun tv iv _ wr => ∃ (i : Nat) (v t : Value), iv = .int .i64 i ∧ i ≤ xs.length ∧ tv = t ∧ GoR w xs.length A cap ⟨pn, pg⟩ (goneT (xs.take i) ⟨pn, pg⟩) (toldT (xs.take i) ⟨pn, pg⟩) v t wr) (fun _ iv _ _ => xs.length - (intOf iv).toNat)
  case atStart => exact ⟨0, _, _, rfl, Nat.zero_le _, rfl, by rw [e0] at U0; exact U0.out⟩
  case round =>
    clear U0
    obtain ⟨i, v, t, rfl, hi, rfl, u⟩ := hrel
    obtain ⟨Av, cv, rfl, -, -, -, -⟩ := u.ho.form
    obtain ⟨At, ct, rfl, -, -, -, -⟩ := u.ht.form
    have U := Lib.hid u
    have c1 := u.bt.cell0 (i := 1) rfl
    by_cases hlt : i < xs.length
    · obtain ⟨bl, off, rfl, hb, hc⟩ := RdT.at5 (H.out.only u.o (by simp)) (by omega)
      obtain ⟨x, hx⟩ := some_at hlt
      obtain ⟨x0, x1, x2, x3, x4⟩ := hc i x hx
      obtain ⟨xr, ⟨xan, xag⟩, ⟨xbn, xbg⟩⟩ := x
      dsimp only at x0 x1 x2 x3 x4
      have HX := Lib.hid hx
      have HI := Lib.hid (show i + 1 ≤ xs.length from hlt)
      have U1 := Lib.hid (u.only ((Only.refl [] wr).alloc (.cells (⟨xr, ⟨xan, xag⟩, ⟨xbn, xbg⟩⟩ : Te).cs 45)))
      have X1 := Lib.hid (Bk.made wr 45 (⟨xr, ⟨xan, xag⟩, ⟨xbn, xbg⟩⟩ : Te).cs)
      obtain ⟨y0, y1, y2, y3, y4⟩ := X1.out.tie
      obtain ⟨p0, p1⟩ := U1.out.bp.pid
      have p2 : (i : Int) < (xs.length : Int) := by omega
      have HL := Lib.hid hl
      dsimp only at y0 y1 y2 y3 y4 p0 p1
      clear hb hc hx u
      cases hA : eqP ⟨xan, xag⟩ ⟨pn, pg⟩ with
      | true =>
        cases hB : eqP ⟨xbn, xbg⟩ ⟨pn, pg⟩ with
        | true =>
          cases hR : decide (0 < xr) with
          | true =>
            have EG := Lib.hid (show goneT (xs.take (i + 1)) ⟨pn, pg⟩ = goneT (xs.take i) ⟨pn, pg⟩ ++ [] from by rw [goneT_take HX.out, hA, hB]; rfl)
            have ET := Lib.hid (show toldT (xs.take (i + 1)) ⟨pn, pg⟩ = toldT (xs.take i) ⟨pn, pg⟩ ++ [] from by rw [toldT_take HX.out, hA, hB, hR]; rfl)
            simp only [eqP] at hA hB
            go_wp2_with fail
            go_roundw
            case rel => exact ⟨i + 1, _, _, by go_num, HI.out, rfl, by rw [EG.out, ET.out, List.append_nil, List.append_nil]; exact U1.out⟩
            case measure => have := HI.out; simp [intOf]; omega
          | false =>
            have EG := Lib.hid (show goneT (xs.take (i + 1)) ⟨pn, pg⟩ = goneT (xs.take i) ⟨pn, pg⟩ ++ [] from by rw [goneT_take HX.out, hA, hB]; rfl)
            have ET := Lib.hid (show toldT (xs.take (i + 1)) ⟨pn, pg⟩ = toldT (xs.take i) ⟨pn, pg⟩ ++ [] from by rw [toldT_take HX.out, hA, hB, hR]; rfl)
            simp only [eqP] at hA hB
            go_wp2_with fail
            go_roundw
            case rel => exact ⟨i + 1, _, _, by go_num, HI.out, rfl, by rw [EG.out, ET.out, List.append_nil, List.append_nil]; exact U1.out⟩
            case measure => have := HI.out; simp [intOf]; omega
        | false =>
          cases hR : decide (0 < xr) with
          | true =>
            have EG := Lib.hid (show goneT (xs.take (i + 1)) ⟨pn, pg⟩ = goneT (xs.take i) ⟨pn, pg⟩ ++ [] from by rw [goneT_take HX.out, hA, hB]; rfl)
            have ET := Lib.hid (show toldT (xs.take (i + 1)) ⟨pn, pg⟩ = toldT (xs.take i) ⟨pn, pg⟩ ++ [] from by rw [toldT_take HX.out, hA, hB, hR]; rfl)
            simp only [eqP] at hA hB
            go_wp2_with fail
            go_roundw
            case rel => exact ⟨i + 1, _, _, by go_num, HI.out, rfl, by rw [EG.out, ET.out, List.append_nil, List.append_nil]; exact U1.out⟩
            case measure => have := HI.out; simp [intOf]; omega
          | false =>
            have EG := Lib.hid (show goneT (xs.take (i + 1)) ⟨pn, pg⟩ = goneT (xs.take i) ⟨pn, pg⟩ ++ [] from by rw [goneT_take HX.out, hA, hB]; rfl)
            have ET := Lib.hid (show toldT (xs.take (i + 1)) ⟨pn, pg⟩ = toldT (xs.take i) ⟨pn, pg⟩ ++ [] from by rw [toldT_take HX.out, hA, hB, hR]; rfl)
            simp only [eqP] at hA hB
            go_wp2_with fail
            go_roundw
            case rel => exact ⟨i + 1, _, _, by go_num, HI.out, rfl, by rw [EG.out, ET.out, List.append_nil, List.append_nil]; exact U1.out⟩
            case measure => have := HI.out; simp [intOf]; omega
      | false =>
        cases hB : eqP ⟨xbn, xbg⟩ ⟨pn, pg⟩ with
        | true =>
          cases hR : decide (0 < xr) with
          | true =>
            have EG := Lib.hid (show goneT (xs.take (i + 1)) ⟨pn, pg⟩ = goneT (xs.take i) ⟨pn, pg⟩ ++ [] from by rw [goneT_take HX.out, hA, hB]; rfl)
            have ET := Lib.hid (show toldT (xs.take (i + 1)) ⟨pn, pg⟩ = toldT (xs.take i) ⟨pn, pg⟩ ++ [⟨xr, ⟨xan, xag⟩, ⟨xbn, xbg⟩⟩] from by rw [toldT_take HX.out, hA, hB, hR]; rfl)
            simp only [eqP] at hA hB
            have LL : ((toldT (xs.take i) ⟨pn, pg⟩).length + [(⟨xr, ⟨xan, xag⟩, ⟨xbn, xbg⟩⟩ : Te)].length) * KT.by' ≤ 140737488355328 := by have := toldT_len (xs.take i) ⟨pn, pg⟩; rw [List.length_take] at this; show (_ + 1) * 40 ≤ _; omega
            have UA := Lib.hid (U1.out.only ((Only.refl [] (wr.alloc (.cells (⟨xr, ⟨xan, xag⟩, ⟨xbn, xbg⟩⟩ : Te).cs 45))).alloc (.cells (⟨xr, ⟨xan, xag⟩, ⟨xbn, xbg⟩⟩ : Te).cs 45)))
            go_wp2_with (at_builtin; refine wpList_appS KT _ (by rfl) (.tmp 59) (.tmp 61) (by rfl) (base := w.heap.size + 4) (by rfl) UA.out.ht (some ⟨wr.heap.size + 1, 0, none⟩) [⟨xr, ⟨xan, xag⟩, ⟨xbn, xbg⟩⟩] 1 1 (by rfl) rfl (RdS.one (Bk.newAt (by simp)) rfl) UA.out.hs LL ?_; intro v' w3 hown hgrow hat; have U3 := Lib.hid (GoR.tellE UA.out hown (by simp) hgrow hat); clear hown hgrow hat)
            go_roundw
            case rel => exact ⟨i + 1, _, _, by go_num, HI.out, rfl, by rw [EG.out, ET.out, List.append_nil]; exact U3.out⟩
            case measure => have := HI.out; simp [intOf]; omega
          | false =>
            have EG := Lib.hid (show goneT (xs.take (i + 1)) ⟨pn, pg⟩ = goneT (xs.take i) ⟨pn, pg⟩ ++ [] from by rw [goneT_take HX.out, hA, hB]; rfl)
            have ET := Lib.hid (show toldT (xs.take (i + 1)) ⟨pn, pg⟩ = toldT (xs.take i) ⟨pn, pg⟩ ++ [] from by rw [toldT_take HX.out, hA, hB, hR]; rfl)
            simp only [eqP] at hA hB
            go_wp2_with fail
            go_roundw
            case rel => exact ⟨i + 1, _, _, by go_num, HI.out, rfl, by rw [EG.out, ET.out, List.append_nil, List.append_nil]; exact U1.out⟩
            case measure => have := HI.out; simp [intOf]; omega
        | false =>
          cases hR : decide (0 < xr) with
          | true =>
            have EG := Lib.hid (show goneT (xs.take (i + 1)) ⟨pn, pg⟩ = goneT (xs.take i) ⟨pn, pg⟩ ++ [⟨xr, ⟨xan, xag⟩, ⟨xbn, xbg⟩⟩] from by rw [goneT_take HX.out, hA, hB]; rfl)
            have ET := Lib.hid (show toldT (xs.take (i + 1)) ⟨pn, pg⟩ = toldT (xs.take i) ⟨pn, pg⟩ ++ [] from by rw [toldT_take HX.out, hA, hB, hR]; rfl)
            simp only [eqP] at hA hB
            have LL : ((goneT (xs.take i) ⟨pn, pg⟩).length + [(⟨xr, ⟨xan, xag⟩, ⟨xbn, xbg⟩⟩ : Te)].length) * KT.by' ≤ 140737488355328 := by have := goneT_len (xs.take i) ⟨pn, pg⟩; rw [List.length_take] at this; show (_ + 1) * 40 ≤ _; omega
            have UA := Lib.hid (U1.out.only ((Only.refl [] (wr.alloc (.cells (⟨xr, ⟨xan, xag⟩, ⟨xbn, xbg⟩⟩ : Te).cs 45))).alloc (.cells (⟨xr, ⟨xan, xag⟩, ⟨xbn, xbg⟩⟩ : Te).cs 45)))
            have XA := Lib.hid (X1.out.alloc (.cells (⟨xr, ⟨xan, xag⟩, ⟨xbn, xbg⟩⟩ : Te).cs 45))
            have o1 := U1.out.bo.cell0 (i := 1) rfl
            go_wp2_with (at_builtin; refine wpList_appS KT _ (by rfl) (.tmp 39) (.tmp 41) (by rfl) (base := w.heap.size + 4) (by rfl) UA.out.ho (some ⟨wr.heap.size + 1, 0, none⟩) [⟨xr, ⟨xan, xag⟩, ⟨xbn, xbg⟩⟩] 1 1 (by rfl) rfl (RdS.one (Bk.newAt (by simp)) rfl) UA.out.hs LL ?_; intro v' w3 hown hgrow hat; obtain ⟨g3, m3, c3, rfl, k1, kf, u3⟩ := GoR.leftE UA.out hown (by simp) hgrow hat; have U3 := Lib.hid u3; have X3 := Lib.hid ((XA.out.only (Only.of_grown hgrow) (fun hm => by have := (U.out.ho.own_ge _ hm).2; omega)).away (p := ⟨w.heap.size + 1 + 1 + 1, 1, none⟩) (by show wr.heap.size ≠ w.heap.size + 1 + 1 + 1; have := U.out.hs; omega) (.slice (some ⟨g3, 0, none⟩) m3 c3)); (obtain ⟨z0, z1, z2, z3, z4⟩ := X3.out.tie); (obtain ⟨q0', q1'⟩ := U3.out.bp.pid); (dsimp only at z0 z1 z2 z3 z4 q0' q1'); clear hown hgrow hat u3)
            go_roundw
            case rel => exact ⟨i + 1, _, _, by go_num, HI.out, rfl, by rw [EG.out, ET.out, List.append_nil]; exact U3.out⟩
            case measure => have := HI.out; simp [intOf]; omega
          | false =>
            have EG := Lib.hid (show goneT (xs.take (i + 1)) ⟨pn, pg⟩ = goneT (xs.take i) ⟨pn, pg⟩ ++ [⟨xr, ⟨xan, xag⟩, ⟨xbn, xbg⟩⟩] from by rw [goneT_take HX.out, hA, hB]; rfl)
            have ET := Lib.hid (show toldT (xs.take (i + 1)) ⟨pn, pg⟩ = toldT (xs.take i) ⟨pn, pg⟩ ++ [] from by rw [toldT_take HX.out, hA, hB, hR]; rfl)
            simp only [eqP] at hA hB
            have LL : ((goneT (xs.take i) ⟨pn, pg⟩).length + [(⟨xr, ⟨xan, xag⟩, ⟨xbn, xbg⟩⟩ : Te)].length) * KT.by' ≤ 140737488355328 := by have := goneT_len (xs.take i) ⟨pn, pg⟩; rw [List.length_take] at this; show (_ + 1) * 40 ≤ _; omega
            have UA := Lib.hid (U1.out.only ((Only.refl [] (wr.alloc (.cells (⟨xr, ⟨xan, xag⟩, ⟨xbn, xbg⟩⟩ : Te).cs 45))).alloc (.cells (⟨xr, ⟨xan, xag⟩, ⟨xbn, xbg⟩⟩ : Te).cs 45)))
            have XA := Lib.hid (X1.out.alloc (.cells (⟨xr, ⟨xan, xag⟩, ⟨xbn, xbg⟩⟩ : Te).cs 45))
            have o1 := U1.out.bo.cell0 (i := 1) rfl
            go_wp2_with (at_builtin; refine wpList_appS KT _ (by rfl) (.tmp 39) (.tmp 41) (by rfl) (base := w.heap.size + 4) (by rfl) UA.out.ho (some ⟨wr.heap.size + 1, 0, none⟩) [⟨xr, ⟨xan, xag⟩, ⟨xbn, xbg⟩⟩] 1 1 (by rfl) rfl (RdS.one (Bk.newAt (by simp)) rfl) UA.out.hs LL ?_; intro v' w3 hown hgrow hat; obtain ⟨g3, m3, c3, rfl, k1, kf, u3⟩ := GoR.leftE UA.out hown (by simp) hgrow hat; have U3 := Lib.hid u3; have X3 := Lib.hid ((XA.out.only (Only.of_grown hgrow) (fun hm => by have := (U.out.ho.own_ge _ hm).2; omega)).away (p := ⟨w.heap.size + 1 + 1 + 1, 1, none⟩) (by show wr.heap.size ≠ w.heap.size + 1 + 1 + 1; have := U.out.hs; omega) (.slice (some ⟨g3, 0, none⟩) m3 c3)); (obtain ⟨z0, z1, z2, z3, z4⟩ := X3.out.tie); (obtain ⟨q0', q1'⟩ := U3.out.bp.pid); (dsimp only at z0 z1 z2 z3 z4 q0' q1'); clear hown hgrow hat u3)
            go_roundw
            case rel => exact ⟨i + 1, _, _, by go_num, HI.out, rfl, by rw [EG.out, ET.out, List.append_nil]; exact U3.out⟩
            case measure => have := HI.out; simp [intOf]; omega
    · have e : i = xs.length := by omega
      subst e
      clear c1 hlt hi U
      rw [List.take_length] at u
      rw [List.take_length]
      have HR := Lib.hid (H.out.only u.o (by simp))
      have U := Lib.hid u
      have HCS := Lib.hid (show ∀ W' : World, Only [] wr W' → (W'.cell? ⟨w.heap.size, 0, none⟩ = some (.bool true) ∧ W'.cell? ⟨w.heap.size, 1, none⟩ = some (.slice A xs.length cap)) ∧ (W'.cell? ⟨w.heap.size + 1, 0, none⟩ = some (.int .i64 pn) ∧ W'.cell? ⟨w.heap.size + 1, 1, none⟩ = some (.int .i64 pg)) ∧ (W'.cell? ⟨w.heap.size + 1 + 1 + 1, 0, none⟩ = some (.bool true) ∧ W'.cell? ⟨w.heap.size + 1 + 1 + 1, 1, none⟩ = some (.slice Av (goneT xs ⟨pn, pg⟩).length cv)) from fun W' oz =>
        ⟨⟨(U.out.only oz).bt.cell0 rfl, (U.out.only oz).bt.cell0 rfl⟩, (U.out.only oz).bp.pid, (U.out.only oz).bo.cell0 rfl, (U.out.only oz).bo.cell0 rfl⟩)
      have HCS6 := Lib.hid (show ∀ (W5 W6 : World), GoR w xs.length A cap ⟨pn, pg⟩ (goneT xs ⟨pn, pg⟩) (toldT xs ⟨pn, pg⟩) (.slice Av (goneT xs ⟨pn, pg⟩).length cv) (.slice At (toldT xs ⟨pn, pg⟩).length ct) W5 → Only [w.heap.size + 1 + 1] W5 W6 → (W6.cell? ⟨w.heap.size, 0, none⟩ = some (.bool true) ∧ W6.cell? ⟨w.heap.size, 1, none⟩ = some (.slice A xs.length cap)) ∧ (W6.cell? ⟨w.heap.size + 1, 0, none⟩ = some (.int .i64 pn) ∧ W6.cell? ⟨w.heap.size + 1, 1, none⟩ = some (.int .i64 pg)) ∧ (W6.cell? ⟨w.heap.size + 1 + 1 + 1, 0, none⟩ = some (.bool true) ∧ W6.cell? ⟨w.heap.size + 1 + 1 + 1, 1, none⟩ = some (.slice Av (goneT xs ⟨pn, pg⟩).length cv)) from fun W5 W6 u o =>
        ⟨⟨(u.bt.only o (by simp; omega)).cell0 rfl, (u.bt.only o (by simp; omega)).cell0 rfl⟩, (u.bp.only o (by simp)).pid, (u.bo.only o (by simp)).cell0 rfl, (u.bo.only o (by simp)).cell0 rfl⟩)
      have KL := Lib.hid (fun (W' : World) (oz : Only [] wr W') => rlinks_any true A xs cap ⟨pn, pg⟩ W' (HR.out.only oz (by simp)) hl)
      have q1 := HCS.out wr (Only.refl _ _)
      have b1d := HCS.out wr.drew ((Only.refl [] wr).drew)
      clear u
      obtain ⟨lt', elt⟩ : ∃ n, n = (toldT xs ⟨pn, pg⟩).length := ⟨_, rfl⟩
      rw [← elt]
      have ELT := Lib.hid elt
      have EE := Lib.hid e0
      clear elt e0
      go_upto_region 13 with fail
      go_region_held3 (fun W' => (W'.cell? ⟨w.heap.size, 0, none⟩ = some (.bool true) ∧ W'.cell? ⟨w.heap.size, 1, none⟩ = some (.slice A xs.length cap)) ∧ (W'.cell? ⟨w.heap.size + 1, 0, none⟩ = some (.int .i64 pn) ∧ W'.cell? ⟨w.heap.size + 1, 1, none⟩ = some (.int .i64 pg)) ∧ (W'.cell? ⟨w.heap.size + 1 + 1 + 1, 0, none⟩ = some (.bool true) ∧ W'.cell? ⟨w.heap.size + 1 + 1 + 1, 1, none⟩ = some (.slice Av (goneT xs ⟨pn, pg⟩).length cv))) (with_reducible (first | exact q1 | exact b1d | exact b5 | exact b6))
        (first
          | (go_at_call 32; (with_reducible refine (KL.out _ (by repeat (with_reducible (first | exact Only.refl _ _ | refine Only.drew ?_ | refine Only.drewN ?_ _)))).mono ?_); rintro e w5 ⟨v1, rfl, h5, o5⟩; have o15 : Only [] wr w5 := Only.trans (by repeat (with_reducible (first | exact Only.refl _ _ | refine Only.drew ?_ | refine Only.drewN ?_ _))) o5 (by simp); have U5 := Lib.hid (U.out.only o15); have b5 := HCS.out w5 o15; have H5 := Lib.hid (show OwnS KP w5 wr.heap.size v1 (linksT xs ⟨pn, pg⟩) from h5); have z0 := U5.out.br.cell0 (i := 0) (v := .bool false) rfl; have z1 := U5.out.br.cell0 (i := 1) (v := .slice none 0 0) rfl; have zf := U5.out.br.free; have U6 := Lib.hid (U5.out.shut); have b6 := HCS6.out _ _ U5.out U6.out.2.2.2; clear h5 o5 o15)
          | fail)
      all_goals
        go_wp2_with fail
        refine bodyPost_ret (v := .tuple #[.agg (tiC true (.slice Av (goneT xs ⟨pn, pg⟩).length cv)), v1, .slice At lt' ct]) (by simp [results, Try.results31, go_sem, z0, z1]) rfl ?_
        have hs := U.out.hs
        have U6' := U6.out
        rw [← ELT.out] at U6'
        exact ⟨_, _, _, rfl, U6'.1.low (by omega), (H5.out.only U6'.2.2.2 (fun g hg => by have := (H5.out.block hg).1; simp; omega)).low (by omega), U6'.2.1.low (by omega), fun g hg => by have := U.out.ap g hg; rw [← ELT.out] at this; exact this, U6'.2.2.1⟩
end Go.Proofs.Ytkodblhompphjaa

namespace Go.Proofs.Ytkodblhompphjaa
open Go.RowKit
set_option maxRecDepth 20000

set_option maxHeartbeats 4000000 in
theorem rlinkL_any (A : Option Addr) (xs : List Te) (cap : Nat) (a b : Pd) (w : World) (h : RdS KT w A xs) (hl : xs.length * 40 + 4096 ≤ 140737488355328) :
    Calls Try.prog 27 #[.agg (tiC true (.slice A xs.length cap)), .agg a.cs, .agg b.cs] w fun e w' => ∃ v, e = .returned (.tuple #[.agg (tiC true v), .int .i64 (linkF xs a b).2]) ∧ LiesT w' w.heap.size v (.slice A xs.length cap) xs (linkF xs a b).1 ∧ Only [] w w' := by
  have hW : ∃ w0, w0 = (((w.alloc (.cells (tiC true (.slice A xs.length cap)) 27)).alloc (.cells a.cs 32)).alloc (.cells b.cs 32)).alloc (.cells (tiC false (.slice none 0 0)) 27) := ⟨_, rfl⟩
  obtain ⟨w0, e0⟩ := hW
  have O := Lib.hid (show Only [] w w0 from e0 ▸ ((((Only.refl [] w).alloc _).alloc _).alloc _).alloc _)
  have BT := Lib.hid (show Bk w0 w.heap.size 27 (tiC true (.slice A xs.length cap)) from e0 ▸ (((Bk.made w _ _).alloc _).alloc _).alloc _)
  have BA := Lib.hid (show Bk w0 (w.heap.size + 1) 32 a.cs from e0 ▸ ((Bk.newAt (by simp)).alloc _).alloc _)
  have BB := Lib.hid (show Bk w0 (w.heap.size + 1 + 1) 32 b.cs from e0 ▸ (Bk.newAt (by simp)).alloc _)
  have BR := Lib.hid (show Bk w0 (w.heap.size + 1 + 1 + 1) 27 (tiC false (.slice none 0 0)) from e0 ▸ Bk.newAt (by simp))
  have H := Lib.hid (h.only O.out (by simp))
  have KP := Lib.hid (rpair_any a b w0)
  clear h
  go_enter Try.func27, Try.ntmps27
  go_upto_region 1 with fail
  rw [← e0]
  clear e0
  have t0 := BT.out.cell0 (i := 0) rfl
  obtain ⟨a0, a1⟩ := BA.out.pid
  obtain ⟨b0, b1⟩ := BB.out.pid
  go_wp2_with fail
  (with_reducible refine KP.out.mono ?_)
  rintro e w1 ⟨rfl, o1⟩
  have O1 := Lib.hid (O.out.trans o1 (by simp))
  have T1 := Lib.hid (BT.out.only o1 (by simp))
  have A1 := Lib.hid (BA.out.only o1 (by simp))
  have B1 := Lib.hid (BB.out.only o1 (by simp))
  have R1 := Lib.hid (BR.out.only o1 (by simp))
  have H1 := Lib.hid (H.out.only o1 (by simp))
  have KLk := Lib.hid (fun w => rlink_any a b w)
  have L1 : w.heap.size ≤ w.heap.size + 1 + 1 + 1 := by omega
  have hl1 : xs.length ≤ 17592186044416 := by omega
  clear o1 KP t0 a0 a1 b0 b1 BT BA BB BR H O
  have HU : Hid (linkF xs a b = linkF xs a b) := Lib.hid rfl
  cases hp : pairT a b with
  | false =>
    have hu : linkF xs a b = (xs, 1) := by unfold linkF; rw [hp]; rfl
    have t0 := T1.out.cell0 (i := 0) rfl
    have t1 := T1.out.cell0 (i := 1) rfl
    have z0 := R1.out.cell0 (i := 0) rfl
    have z1 := R1.out.cell0 (i := 1) rfl
    have zf := R1.out.free
    go_wp2_with fail
    refine bodyPost_ret (v := .tuple #[.agg (tiC true (.slice A xs.length cap)), .int .i64 1]) (by simp [results, Try.results27, go_sem, z0, z1]) rfl ⟨_, by rw [hu], by rw [hu]; exact .inl ⟨rfl, rfl⟩, (O1.out.set (.inr L1) _).set (.inr L1) _⟩
  | true =>
    obtain ⟨t, hd⟩ : ∃ t, decide (linkT a b ∈ xs) = t := ⟨_, rfl⟩
    have HD := Lib.hid hd
    clear hd
    have q1 : (w1.cell? ⟨w.heap.size, 0, none⟩ = some (.bool true) ∧ w1.cell? ⟨w.heap.size, 1, none⟩ = some (.slice A xs.length cap)) ∧ (w1.cell? ⟨w.heap.size + 1, 0, none⟩ = some (.int .i64 a.n) ∧ w1.cell? ⟨w.heap.size + 1, 1, none⟩ = some (.int .i64 a.g)) ∧ (w1.cell? ⟨w.heap.size + 1 + 1, 0, none⟩ = some (.int .i64 b.n) ∧ w1.cell? ⟨w.heap.size + 1 + 1, 1, none⟩ = some (.int .i64 b.g)) := ⟨⟨T1.out.cell0 (i := 0) rfl, T1.out.cell0 (i := 1) rfl⟩, A1.out.pid, B1.out.pid⟩
    go_upto_region 3 with fail
    go_region_held3 (fun w' => (w'.cell? ⟨w.heap.size, 0, none⟩ = some (.bool true) ∧ w'.cell? ⟨w.heap.size, 1, none⟩ = some (.slice A xs.length cap)) ∧ (w'.cell? ⟨w.heap.size + 1, 0, none⟩ = some (.int .i64 a.n) ∧ w'.cell? ⟨w.heap.size + 1, 1, none⟩ = some (.int .i64 a.g)) ∧ (w'.cell? ⟨w.heap.size + 1 + 1, 0, none⟩ = some (.int .i64 b.n) ∧ w'.cell? ⟨w.heap.size + 1 + 1, 1, none⟩ = some (.int .i64 b.g))) (first | assumption | go_keep)
      (first
        | (go_at_call 53; (with_reducible refine (KLk.out _).mono ?_); rintro e w2 ⟨rfl, o2⟩; have D2 : Hid (Only [] w1 w2) := Lib.hid (((Only.refl [] w1).drew).trans o2 (by simp)); have T2 := Lib.hid (T1.out.only D2.out (by simp)); have A2 := Lib.hid (A1.out.only D2.out (by simp)); have B2 := Lib.hid (B1.out.only D2.out (by simp)); have q2 := And.intro (And.intro (T2.out.cell0 (i := 0) (v := .bool true) rfl) (T2.out.cell0 (i := 1) (v := .slice A xs.length cap) rfl)) (And.intro (Bk.pid (x := a) A2.out) (Bk.pid (x := b) B2.out)); have KH := rhas_any true A xs cap (linkT a b) w2 (H1.out.only D2.out (by simp)) hl1; rw [HD.out] at KH; have KH := Lib.hid KH; clear o2)
        | (go_at_call 52; (with_reducible refine KH.out.mono ?_); rintro e w3 ⟨rfl, o3⟩; have D3 := Lib.hid (D2.out.trans o3 (by simp)); have T3 := Lib.hid (T1.out.only D3.out (by simp)); have A3 := Lib.hid (A1.out.only D3.out (by simp)); have B3 := Lib.hid (B1.out.only D3.out (by simp)); have q3 := And.intro (And.intro (T3.out.cell0 (i := 0) (v := .bool true) rfl) (T3.out.cell0 (i := 1) (v := .slice A xs.length cap) rfl)) (And.intro (Bk.pid (x := a) A3.out) (Bk.pid (x := b) B3.out)); clear o3))
    have R3 := Lib.hid (R1.out.only D3.out (by simp))
    have H3 := Lib.hid (H1.out.only D3.out (by simp))
    have O3 := Lib.hid (O1.out.trans D3.out (by simp))
    clear q1 q2 KH
    cases t with
    | true =>
      have hm := of_decide_eq_true HD.out
      have hu : linkF xs a b = (xs, 0) := by unfold linkF; rw [hp, if_pos rfl, if_pos hm]
      obtain ⟨⟨t0, t1⟩, -, -⟩ := q3
      have z0 := R3.out.cell0 (i := 0) rfl
      have z1 := R3.out.cell0 (i := 1) rfl
      have zf := R3.out.free
      go_wp2_with fail
      refine bodyPost_ret (v := .tuple #[.agg (tiC true (.slice A xs.length cap)), .int .i64 0]) (by simp [results, Try.results27, go_sem, z0, z1]) rfl ⟨_, by rw [hu], by rw [hu]; exact .inl ⟨rfl, rfl⟩, (O3.out.set (.inr L1) _).set (.inr L1) _⟩
    | false =>
      have hm := of_decide_eq_false HD.out
      by_cases hb : 1024 ≤ xs.length
      · have hu : linkF xs a b = (xs, 150) := by unfold linkF; rw [hp, if_pos rfl, if_neg hm, if_pos hb]
        obtain ⟨⟨t0, t1⟩, -, -⟩ := q3
        have z0 := R3.out.cell0 (i := 0) rfl
        have z1 := R3.out.cell0 (i := 1) rfl
        have zf := R3.out.free
        have hb' : (1024 : Int) ≤ (xs.length : Int) := by omega
        go_wp2_with fail
        refine bodyPost_ret (v := .tuple #[.agg (tiC true (.slice A xs.length cap)), .int .i64 150]) (by simp [results, Try.results27, go_sem, z0, z1]) rfl ⟨_, by rw [hu], by rw [hu]; exact .inl ⟨rfl, rfl⟩, (O3.out.set (.inr L1) _).set (.inr L1) _⟩
      · have hu : linkF xs a b = (putT xs (linkT a b), 0) := by unfold linkF; rw [hp, if_pos rfl, if_neg hm, if_neg hb]
        have HU := Lib.hid hu
        have hb' : ¬ (1024 : Int) ≤ (xs.length : Int) := by omega
        have tt0 := T3.out.cell0 (i := 0) rfl
        have tt1 := T3.out.cell0 (i := 1) rfl
        clear hu hm
        go_upto_region 7 with fail
        go_region_held3 (fun w' => (w'.cell? ⟨w.heap.size, 0, none⟩ = some (.bool true) ∧ w'.cell? ⟨w.heap.size, 1, none⟩ = some (.slice A xs.length cap)) ∧ (w'.cell? ⟨w.heap.size + 1, 0, none⟩ = some (.int .i64 a.n) ∧ w'.cell? ⟨w.heap.size + 1, 1, none⟩ = some (.int .i64 a.g)) ∧ (w'.cell? ⟨w.heap.size + 1 + 1, 0, none⟩ = some (.int .i64 b.n) ∧ w'.cell? ⟨w.heap.size + 1 + 1, 1, none⟩ = some (.int .i64 b.g))) (first | assumption | go_keep)
          (first
            | (go_at_call 53; (with_reducible refine (KLk.out _).mono ?_); rintro e w5 ⟨rfl, o5⟩; have D5 : Hid (Only [] w3 w5) := Lib.hid (((Only.refl [] w3).drew).trans o5 (by simp)); have T5 := Lib.hid (T3.out.only D5.out (by simp)); have A5 := Lib.hid (A3.out.only D5.out (by simp)); have B5 := Lib.hid (B3.out.only D5.out (by simp)); have q5 := And.intro (And.intro (T5.out.cell0 (i := 0) (v := .bool true) rfl) (T5.out.cell0 (i := 1) (v := .slice A xs.length cap) rfl)) (And.intro (Bk.pid (x := a) A5.out) (Bk.pid (x := b) B5.out)); have KS := Lib.hid (rput_any true A xs cap (linkT a b) w5 (H3.out.only D5.out (by simp)) hl); clear o5)
            | (go_at_call 54; (with_reducible refine KS.out.mono ?_); rintro e w6 ⟨v6, rfl, hv6, o6⟩; obtain ⟨G6, c6, e6, -, -, -, -⟩ := hv6.form; subst e6; have D6 := Lib.hid (D5.out.trans o6 (by simp)); have T6 := Lib.hid (T3.out.only D6.out (by simp)); have A6 := Lib.hid (A3.out.only D6.out (by simp)); have B6 := Lib.hid (B3.out.only D6.out (by simp)); have q6 := And.intro (And.intro (T6.out.cell0 (i := 0) (v := .bool true) rfl) (T6.out.cell0 (i := 1) (v := .slice A xs.length cap) rfl)) (And.intro (Bk.pid (x := a) A6.out) (Bk.pid (x := b) B6.out)); have V6 := Lib.hid hv6; have ZS := Lib.hid (show w3.heap.size ≤ w5.heap.size from D5.out.size); have r6 := R3.out.only D6.out (by simp); have z0 := r6.cell0 (i := 0) rfl; have z1 := r6.cell0 (i := 1) rfl; have zf := r6.free; have y1 := (r6.set 0 (.bool true)).cell0 (i := 1) (v := .slice none 0 0) rfl; have yf := (r6.set 0 (.bool true)).free; have yg := ((r6.set 0 (.bool true)).set 1 (.slice G6 (putT xs (linkT a b)).length c6)).cell0 (i := 0) (v := .bool true) rfl; have T7 := Lib.hid ((T6.out.away (p := ⟨w.heap.size + 1 + 1 + 1, 0, none⟩) (by show _ ≠ w.heap.size + 1 + 1 + 1; omega) (.bool true)).away (p := ⟨w.heap.size + 1 + 1 + 1, 1, none⟩) (by show _ ≠ w.heap.size + 1 + 1 + 1; omega) (.slice G6 (putT xs (linkT a b)).length c6)); have A7 := Lib.hid ((A6.out.away (p := ⟨w.heap.size + 1 + 1 + 1, 0, none⟩) (by show _ ≠ w.heap.size + 1 + 1 + 1; omega) (.bool true)).away (p := ⟨w.heap.size + 1 + 1 + 1, 1, none⟩) (by show _ ≠ w.heap.size + 1 + 1 + 1; omega) (.slice G6 (putT xs (linkT a b)).length c6)); have B7 := Lib.hid ((B6.out.away (p := ⟨w.heap.size + 1 + 1 + 1, 0, none⟩) (by show _ ≠ w.heap.size + 1 + 1 + 1; omega) (.bool true)).away (p := ⟨w.heap.size + 1 + 1 + 1, 1, none⟩) (by show _ ≠ w.heap.size + 1 + 1 + 1; omega) (.slice G6 (putT xs (linkT a b)).length c6)); have q7 := And.intro (And.intro (T7.out.cell0 (i := 0) (v := .bool true) rfl) (T7.out.cell0 (i := 1) (v := .slice A xs.length cap) rfl)) (And.intro (Bk.pid (x := a) A7.out) (Bk.pid (x := b) B7.out)); clear o6 hv6 r6))
        have O6 := Lib.hid (O3.out.trans D6.out (by simp))
        go_wp2_with fail
        refine bodyPost_ret (v := .tuple #[.agg (tiC true (.slice G6 (putT xs (linkT a b)).length c6)), .int .i64 0]) (by simp [results, Try.results27, go_sem, z0, z1]) rfl ⟨_, by rw [HU.out], ?_, (O6.out.set (.inr L1) _).set (.inr L1) _⟩
        rw [HU.out]
        have oo := (((Only.refl [w.heap.size + 1 + 1 + 1] w6).set (p := ⟨w.heap.size + 1 + 1 + 1, 0, none⟩) (.inl (by simp)) (.bool true)).set (p := ⟨w.heap.size + 1 + 1 + 1, 1, none⟩) (.inl (by simp)) (.slice G6 (putT xs (linkT a b)).length c6))
        have hr3 := R3.out.lt
        have hz := ZS.out
        exact .inr ((V6.out.low (by omega)).only oo (fun g' hg' => by have := (V6.out.block hg').1; simp; omega))
end Go.Proofs.Ytkodblhompphjaa
