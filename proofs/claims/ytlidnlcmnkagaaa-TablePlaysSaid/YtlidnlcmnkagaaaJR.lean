/- The law's names of a table of the document's. -/
import Derived.Test.YtlidnlcmnkagaaaJO
namespace Go.Proofs.Ytlidnlcmnkagaaa
open Go.RowKit
set_option maxRecDepth 20000

abbrev namesF (T : List Pl) : List ByteArray := (pidsF T).map (nameOfF T)
set_option maxHeartbeats 8000000 in
theorem lnames_any {w : World} {v1 v2 v3 : Value} {T : List Pl} (r : RT w v1 v2 v3 T) (hl : T.length ≤ 256) : Calls Try.prog 29 #[.agg (rtC T.length v1 v2 v3)] w (RowE KS w (namesF T)) := by
  obtain ⟨A1, c1, A2, c2, A3, c3, rfl, rfl, rfl⟩ := r.forms0
  obtain ⟨W0, hW0⟩ : ∃ W0, W0 = w.alloc (.cells (rtC T.length (.slice A1 T.length c1) (.slice A2 T.length c2) (.slice A3 T.length c3)) 30) := ⟨_, rfl⟩
  have BT : Hid (Bk W0 w.heap.size 30 (rtC T.length (.slice A1 T.length c1) (.slice A2 T.length c2) (.slice A3 T.length c3))) := Lib.hid (by rw [hW0]; exact Bk.made w _ _)
  have O : Hid (Only [] w W0) := Lib.hid (by rw [hW0]; exact (Only.refl [] w).alloc _)
  have R : Hid (RT W0 (.slice A1 T.length c1) (.slice A2 T.length c2) (.slice A3 T.length c3) T) := Lib.hid (r.only O.out rfl)
  have KP' := Lib.hid (rpids_any R.out hl)
  have t0 := BT.out.cell0 (i := 0) rfl
  have t1 := BT.out.cell0 (i := 1) rfl
  have t2 := BT.out.cell0 (i := 2) rfl
  have t3 := BT.out.cell0 (i := 3) rfl
  have hpl : (pidsF T).length ≤ 256 := Nat.le_trans (pidsG_len T 0) hl
  have HPL := Lib.hid hpl
  clear r hpl
  go_enter Try.func29, Try.ntmps29
  go_wp2_with fail
  rw [← hW0]
  clear hW0
  (with_reducible refine KP'.out.mono ?_)
  rintro e w1 ⟨v4, rfl, h4, o1⟩
  obtain ⟨A4, c4, rfl, -, -, rd4, -⟩ := h4.form
  have RD := Lib.hid rd4
  have O1 := Lib.hid (O.out.trans o1 (by simp))
  have R1 := Lib.hid (R.out.only o1 rfl)
  have B1 := Lib.hid (BT.out.only o1 (by simp))
  clear h4 rd4 o1 KP' t0 t1 t2 t3 R BT O
  go_wp2_with fail
  go_loopw [3, 5] (fun ov kv wr => ∃ k : Nat, kv = .int .i64 k ∧ k ≤ (pidsF T).length ∧ OwnS KS wr w1.heap.size ov ((namesF T).take k) ∧ Only [] w1 wr) (fun _ kv _ => (pidsF T).length - (intOf kv).toNat)
  case atStart => exact ⟨0, rfl, Nat.zero_le _, OwnS.nil _ _ _, Only.refl _ _⟩
  case round =>
    obtain ⟨k, rfl, hk, hv, o⟩ := hrel
    have HV := Lib.hid hv
    have O2 := Lib.hid o
    by_cases hlt : k < (pidsF T).length
    · obtain ⟨bP, oP, rfl, hbP, hcP⟩ := RdP.at2 RD.out (by omega)
      obtain ⟨p, hp⟩ := some_at hlt
      obtain ⟨c0, c1'⟩ := hcP k p hp
      have bt := B1.out
      have HCS := Lib.hid (fun (W : World) (oo : Only [] w1 W) => show W.cell? ⟨w.heap.size, 0, none⟩ = some (.int .i64 (T.length : Int)) ∧ W.cell? ⟨w.heap.size, 1, none⟩ = some (.slice A1 T.length c1) ∧ W.cell? ⟨w.heap.size, 2, none⟩ = some (.slice A2 T.length c2) ∧ W.cell? ⟨w.heap.size, 3, none⟩ = some (.slice A3 T.length c3) ∧ W.cell? ⟨bP, oP + k * 2, none⟩ = some (.int .i64 p.n) ∧ W.cell? ⟨bP, oP + k * 2 + 1, none⟩ = some (.int .i64 p.g) from
        ⟨Cm.cell (bt.cell0 (i := 0) rfl) ⟨W, oo⟩, Cm.cell (bt.cell0 (i := 1) rfl) ⟨W, oo⟩, Cm.cell (bt.cell0 (i := 2) rfl) ⟨W, oo⟩, Cm.cell (bt.cell0 (i := 3) rfl) ⟨W, oo⟩, Cm.cell c0 ⟨W, oo⟩, Cm.cell c1' ⟨W, oo⟩⟩)
      have b9 := HCS.out wr o
      have KN := rnameOf_any ((R1.out.only o rfl).only ((Only.refl [] wr).drew) rfl) p
      have HT := Lib.hid (show (namesF T).take (k + 1) = (namesF T).take k ++ [nameOfF T p] from by
        rw [List.take_add_one, List.getElem?_map, hp]; rfl)
      have LL : (((namesF T).take k).length + [nameOfF T p].length) * KS.by' ≤ 140737488355328 := by
        have := HPL.out
        show (_ + 1) * 16 ≤ _
        rw [List.length_take, List.length_map]; omega
      have pk : (k : Int) < ((pidsF T).length : Int) := by omega
      obtain ⟨nm, hnm⟩ : ∃ nm, nm = nameOfF T p := ⟨_, rfl⟩
      rw [← hnm] at KN HT LL
      have KN0 := Lib.hid KN
      have HK := Lib.hid (show k + 1 ≤ (pidsG 0 T).length from hlt)
      have HLK := Lib.hid (show ((namesF T).take k).length = k from by rw [List.length_take, List.length_map]; omega)
      have hsz := o.size
      obtain ⟨pn, pg⟩ := p
      dsimp only at b9
      clear c0 c1' hcP hp bt hv o hnm
      go_wp2_with fail
      have HW1 := Lib.hid hsz
      clear KN hsz
      go_region_held3 (fun w' => w'.cell? ⟨w.heap.size, 0, none⟩ = some (.int .i64 (T.length : Int)) ∧ w'.cell? ⟨w.heap.size, 1, none⟩ = some (.slice A1 T.length c1) ∧ w'.cell? ⟨w.heap.size, 2, none⟩ = some (.slice A2 T.length c2) ∧ w'.cell? ⟨w.heap.size, 3, none⟩ = some (.slice A3 T.length c3) ∧ w'.cell? ⟨bP, oP + k * 2, none⟩ = some (.int .i64 pn) ∧ w'.cell? ⟨bP, oP + k * 2 + 1, none⟩ = some (.int .i64 pg)) (first | assumption | go_keep)
       (first
        | (go_at_call 32; (with_reducible refine KN0.out.mono ?_); rintro e w3 ⟨rfl, o3⟩; have o3' := Only.trans (Only.drew (Only.refl [] wr)) o3 (by simp); have V3 := Lib.hid ((HV.out.only o3' (by simp)).alloc (.cells #[.string nm] 9)); have O3 := Lib.hid ((O2.out.trans o3' (by simp)).alloc (.cells #[.string nm] 9)); have L3 : w1.heap.size ≤ (w3.alloc (.cells #[.string nm] 9)).heap.size := Nat.le_trans HW1.out (o3'.alloc (.cells #[.string nm] 9)).size; have b10 := HCS.out w3 (O2.out.trans o3' (by simp)); (try dsimp only at b10); clear o3 o3')
        | (refine step_appS KS (by rfl) _ _ (by rfl) (base := w1.heap.size) (v := u3) (by rfl) V3.out _ nm (by rfl) (RdS.one (Bk.newAt (by simp)) rfl) L3 LL _ rfl ?_; intro g5 cap5 w5 hown hgrow hat hlt5; have G2 := Lib.hid hown; have G1 := Lib.hid hgrow; have b11 := HCS.out w5 (O3.out.trans (Only.of_grown hgrow) (fun i hi => .inr (V3.out.own_ge i hi).1)); (try dsimp only at b11); clear hgrow hown hat hlt5)
        | fail)
      have hq : (pidsG 0 T).length ≤ 256 := HPL.out
      have hq9 : k + 1 ≤ 256 := Nat.le_trans HK.out hq
      go_wp2_with fail
      go_roundw
      case rel => exact ⟨k + 1, by go_num, HK.out, by have := G2.out; rw [HLK.out, ← HT.out] at this; exact this, O3.out.trans (Only.of_grown G1.out) (fun i hi => .inr (V3.out.own_ge i hi).1)⟩
      case measure =>
        have h9 : k + 1 ≤ (pidsG 0 T).length := HK.out
        simp [intOf]
        omega
    · have e : k = (pidsF T).length := by omega
      subst e
      have E := Lib.hid (show RowE KS w (namesF T) (.returned u3) wr from ⟨u3, rfl, by have := HV.out.low (show w.heap.size ≤ w1.heap.size from O1.out.size); rwa [List.take_of_length_le (by simp)] at this, O1.out.trans o (by simp)⟩)
      clear o hv
      go_wp2_with fail
      go_ret
      exact E.out
end Go.Proofs.Ytlidnlcmnkagaaa
