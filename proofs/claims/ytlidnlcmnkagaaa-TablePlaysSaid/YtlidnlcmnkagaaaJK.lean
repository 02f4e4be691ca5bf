/- The document's table: NameOf, Where, Pids. -/
import Derived.Test.YtlidnlcmnkagaaaJJ
namespace Go.Proofs.Ytlidnlcmnkagaaa
open Go.RowKit
set_option maxRecDepth 20000

set_option maxHeartbeats 4000000 in
theorem rnameOf_any {w : World} {v1 v2 v3 : Value} {T : List Pl} (r : RT w v1 v2 v3 T) (p : Pd) : Calls Try.prog 32 #[.agg (rtC T.length v1 v2 v3), .agg p.cs] w fun e w' => e = .returned (.string (nameOfF T p)) ∧ Only [] w w' := by
  have R := Lib.hid ((r.alloc (.cells (rtC T.length v1 v2 v3) 30)).alloc (.cells p.cs 38))
  have K := ris_any R.out p
  have bt := (Bk.made w 30 (rtC T.length v1 v2 v3)).alloc (.cells p.cs 38)
  have BT := Lib.hid bt
  have t0 := bt.cell0 (i := 0) rfl
  have t1 := bt.cell0 (i := 1) rfl
  have t2 := bt.cell0 (i := 2) rfl
  have t3 := bt.cell0 (i := 3) rfl
  have bp := Bk.newAt (w := w.alloc (.cells (rtC T.length v1 v2 v3) 30)) (t := 38) (cs := p.cs) (b := w.heap.size + 1) (by simp)
  have BP := Lib.hid bp
  obtain ⟨p0, p1⟩ := bp.pid
  have O := Lib.hid (((Only.refl [] w).alloc (.cells (rtC T.length v1 v2 v3) 30)).alloc (.cells p.cs 38))
  clear bt bp
  cases hf : findF T p with
  | none =>
    rw [show isF T p = false from by unfold isF; rw [hf]; rfl] at K
    rw [show nameOfF T p = E0b from by unfold nameOfF; rw [hf]]
    have K := Lib.hid K
    clear hf r
    go_enter Try.func32, Try.ntmps32
    go_wp2_with fail
    (with_reducible refine K.out.mono ?_)
    rintro e w1 ⟨rfl, o1⟩
    go_wp2_with fail
    go_ret
    exact ⟨rfl, O.out.trans o1 (by simp)⟩
  | some x =>
    rw [show isF T p = true from by unfold isF; rw [hf]; rfl] at K
    rw [show nameOfF T p = x.nm from by unfold nameOfF; rw [hf]]
    have K := Lib.hid K
    obtain ⟨h0, hx, -, -⟩ := find_some hf
    obtain ⟨pn, pg⟩ := p
    obtain ⟨k, rfl⟩ := Int.eq_ofNat_of_zero_le h0
    dsimp only at hx
    rw [Int.toNat_natCast] at hx
    have hk := (List.getElem?_eq_some_iff.1 hx).1
    obtain ⟨g1, c1, g2, c2, g3, c3, rfl, rfl, rfl⟩ := r.forms (by omega)
    have HX := Lib.hid hx
    have pk : (k : Int) < (T.length : Int) := by omega
    clear hf r hx
    go_enter Try.func32, Try.ntmps32
    go_wp2_with fail
    (with_reducible refine K.out.mono ?_)
    rintro e w1 ⟨rfl, o1⟩
    have R1 := R.out.only o1 rfl
    have y3 := R1.n.at_ (nm_at HX.out) (j := 0) rfl (q := k) (by show k = k * 1 + 0; omega)
    have b1 := BT.out.only o1 (by simp)
    have s3 := b1.cell0 (i := 3) rfl
    have q0 := ((BP.out.only o1 (by simp)).pid).1
    clear R1 b1
    go_wp2_with fail
    go_ret
    exact ⟨rfl, O.out.trans o1 (by simp)⟩

theorem whereG_drop {T : List Pl} {k : Nat} {x : Pl} (hx : T[k]? = some x) (s : ByteArray) : whereG k (T.drop k) s = if x.al = true ∧ s ≠ E0b ∧ x.nm = s then some ⟨k, x.had⟩ else whereG (k + 1) (T.drop (k + 1)) s := by
  have hk := (List.getElem?_eq_some_iff.1 hx).1
  rw [List.drop_eq_getElem_cons hk, (List.getElem?_eq_some_iff.1 hx).2]
  rfl
set_option maxHeartbeats 8000000 in
theorem rwhere_any {w : World} {v1 v2 v3 : Value} {T : List Pl} (r : RT w v1 v2 v3 T) (hl : T.length ≤ 256) (s : ByteArray) : Calls Try.prog 34 #[.agg (rtC T.length v1 v2 v3), .string s] w fun e w' => e = .returned (whereE (whereF T s)) ∧ Only [] w w' := by
  have R := Lib.hid (((r.alloc (.cells (rtC T.length v1 v2 v3) 30)).alloc (.cells P0.cs 38)).alloc (.cells P0.cs 38))
  have bt := ((Bk.made w 30 (rtC T.length v1 v2 v3)).alloc (.cells P0.cs 38)).alloc (.cells P0.cs 38)
  have BT := Lib.hid bt
  have b4 := (Bk.newAt (w := w.alloc (.cells (rtC T.length v1 v2 v3) 30)) (t := 38) (cs := P0.cs) (b := w.heap.size + 1) (by simp)).alloc (.cells P0.cs 38)
  have b6 := Bk.newAt (w := (w.alloc (.cells (rtC T.length v1 v2 v3) 30)).alloc (.cells P0.cs 38)) (t := 38) (cs := P0.cs) (b := w.heap.size + 1 + 1) (by simp)
  have B4 := Lib.hid b4
  have B6 := Lib.hid b6
  have O := Lib.hid ((((Only.refl [] w).alloc (.cells (rtC T.length v1 v2 v3) 30)).alloc (.cells P0.cs 38)).alloc (.cells P0.cs 38))
  have L1 : w.heap.size ≤ w.heap.size + 1 := by omega
  have HR := Lib.hid r
  clear bt b4 b6 r
  go_enter Try.func34, Try.ntmps34
  go_wp2_with fail
  go_loopw [7] (fun kv wr => ∃ k : Nat, kv = .int .i64 k ∧ k ≤ T.length ∧ whereF T s = whereG k (T.drop k) s ∧ wr = ((w.alloc (.cells (rtC T.length v1 v2 v3) 30)).alloc (.cells P0.cs 38)).alloc (.cells P0.cs 38)) (fun kv _ => T.length - (intOf kv).toNat)
  case atStart => exact ⟨0, rfl, Nat.zero_le _, rfl, rfl⟩
  case round =>
    obtain ⟨k, rfl, hk, heq, rfl⟩ := hrel
    have HEQ := Lib.hid heq
    have t0 := BT.out.cell0 (i := 0) rfl
    clear heq
    by_cases hlt : k < T.length
    · obtain ⟨x, hx⟩ := some_at hlt
      have hst := whereG_drop hx s
      obtain ⟨g1, c1, g2, c2, g3, c3, rfl, rfl, rfl⟩ := HR.out.forms (by omega)
      have t1 := BT.out.cell0 (i := 1) rfl
      have t2 := BT.out.cell0 (i := 2) rfl
      have t3 := BT.out.cell0 (i := 3) rfl
      have y1 := R.out.h.at_ (had_at hx) (j := 0) rfl (q := k) (by show k = k * 1 + 0; omega)
      have y2 := R.out.a.at_ (al_at hx) (j := 0) rfl (q := k) (by show k = k * 1 + 0; omega)
      have y3 := R.out.n.at_ (nm_at hx) (j := 0) rfl (q := k) (by show k = k * 1 + 0; omega)
      have pk : (k : Int) < (T.length : Int) := by omega
      have q1 : decide (k < T.length) = true := decide_eq_true hlt
      obtain ⟨xh, xa, xn⟩ := x
      dsimp only at y1 y2 y3 hst
      clear hx
      cases xa with
      | false =>
        rw [if_neg (fun h => by cases h.1)] at hst
        have HST := Lib.hid (HEQ.out.trans hst)
        clear hst
        go_wp2_with fail
        go_roundw
        case rel => exact ⟨k + 1, by go_num, by omega, HST.out, by trivial⟩
        case measure => simp [intOf]; omega
      | true =>
        cases hse : s.toList.isEmpty with
        | true =>
          rw [if_neg (fun h => h.2.1 (E0b_list hse))] at hst
          have HST := Lib.hid (HEQ.out.trans hst)
          clear hst
          go_wp2_with fail
          go_roundw
          case rel => exact ⟨k + 1, by go_num, by omega, HST.out, by trivial⟩
          case measure => simp [intOf]; omega
        | false =>
          cases hq : (xn.toList == s.toList) with
          | false =>
            rw [if_neg (fun h => by rw [h.2.2, beq_self_eq_true] at hq; cases hq)] at hst
            have HST := Lib.hid (HEQ.out.trans hst)
            clear hst
            go_wp2_with fail
            go_roundw
            case rel => exact ⟨k + 1, by go_num, by omega, HST.out, by trivial⟩
            case measure => simp [intOf]; omega
          | true =>
            have exn : xn = s := by
              have := eq_of_beq hq
              rw [ByteArray.toList_eq, ByteArray.toList_eq] at this
              exact ByteArray.ext (by simpa using this)
            rw [if_pos ⟨rfl, E0b_ne hse, exn⟩] at hst
            have HST := Lib.hid (HEQ.out.trans hst)
            have z0 := B4.out.cell0 (i := 0) rfl
            have z1 := B4.out.cell0 (i := 1) rfl
            have zf := B4.out.free
            clear hst exn
            go_wp2_with fail
            refine bodyPost_ret (v := pidE ⟨k, xh⟩ 0) (by simp [results, Try.results34, go_sem]) rfl ⟨by rw [HST.out]; rfl, ?_⟩
            first | exact (((Only.refl [] w).alloc _).alloc _).alloc _ | exact (O.out.set (.inr L1) _).set (.inr L1) _
    · have ek : k = T.length := by omega
      subst ek
      have HN := Lib.hid (show whereF T s = none by rw [HEQ.out, List.drop_length]; rfl)
      have z0 := B4.out.cell0 (i := 0) rfl
      have z1 := B4.out.cell0 (i := 1) rfl
      have zf := B4.out.free
      obtain ⟨x0, x1⟩ := B6.out.pid
      go_wp2_with fail
      refine bodyPost_ret (v := pidE P0 3) (by simp [results, Try.results34, go_sem]) rfl ⟨by rw [HN.out]; rfl, ?_⟩
      first | exact (((Only.refl [] w).alloc _).alloc _).alloc _ | exact (O.out.set (.inr L1) _).set (.inr L1) _

set_option maxHeartbeats 8000000 in
theorem rpids_any {w : World} {v1 v2 v3 : Value} {T : List Pl} (r : RT w v1 v2 v3 T) (hl : T.length ≤ 256) : Calls Try.prog 30 #[.agg (rtC T.length v1 v2 v3)] w (RowE KP w (pidsF T)) := by
  have BT := Lib.hid (Bk.made w 30 (rtC T.length v1 v2 v3))
  have R := Lib.hid (r.alloc (.cells (rtC T.length v1 v2 v3) 30))
  have O := Lib.hid ((Only.refl [] w).alloc (.cells (rtC T.length v1 v2 v3) 30))
  have HR := Lib.hid r
  clear r
  go_enter Try.func30, Try.ntmps30
  go_wp2_with fail
  go_loopw [3, 4] (fun ov kv wr => ∃ k : Nat, kv = .int .i64 k ∧ k ≤ T.length ∧ OwnS KP wr (w.heap.size + 1) ov (pidsG 0 (T.take k)) ∧ Only [] (w.alloc (.cells (rtC T.length v1 v2 v3) 30)) wr) (fun _ kv _ => T.length - (intOf kv).toNat)
  case atStart => exact ⟨0, rfl, Nat.zero_le _, OwnS.nil _ _ _, Only.refl _ _⟩
  case round =>
    obtain ⟨k, rfl, hk, hv, o⟩ := hrel
    have HV := Lib.hid hv
    have O2 := Lib.hid o
    have hsz := (O.out.trans o (by simp)).size
    have bt := BT.out.only o (by simp)
    have t0 := bt.cell0 (i := 0) rfl
    by_cases hlt : k < T.length
    · obtain ⟨x, hx⟩ := some_at hlt
      obtain ⟨g1, c1, g2, c2, g3, c3, rfl, rfl, rfl⟩ := HR.out.forms (by omega)
      have rr := R.out.only o rfl
      have t1 := bt.cell0 (i := 1) rfl
      have t2 := bt.cell0 (i := 2) rfl
      have y1 := rr.h.at_ (had_at hx) (j := 0) rfl (q := k) (by show k = k * 1 + 0; omega)
      have y2 := rr.a.at_ (al_at hx) (j := 0) rfl (q := k) (by show k = k * 1 + 0; omega)
      have pk : (k : Int) < (T.length : Int) := by omega
      have q1 : decide (k < T.length) = true := decide_eq_true hlt
      have ht := pidsG_take T 0 k x hx
      rw [Nat.zero_add] at ht
      have hle := pidsG_len (T.take k) 0
      rw [List.length_take] at hle
      obtain ⟨xh, xa, xn⟩ := x
      dsimp only at y1 y2 ht
      clear hx rr bt o hv
      cases xa with
      | false =>
        have HT := Lib.hid ht
        clear ht
        go_wp2_with fail
        go_roundw
        case rel => exact ⟨k + 1, by go_num, by omega, by rw [HT.out]; simpa using HV.out, O2.out⟩
        case measure => simp [intOf]; omega
      | true =>
        have HT := Lib.hid ht
        clear ht
        have LL : ((pidsG 0 (T.take k)).length + [(⟨(k : Int), xh⟩ : Pd)].length) * KP.by' ≤ 140737488355328 := by show (_ + 1) * 16 ≤ _; omega
        have L0 : w.heap.size + 1 ≤ wr.heap.size + 1 := by omega
        have HV1 := Lib.hid (HV.out.alloc (.cells #[.int .i64 (k : Int), .int .i64 xh] 38))
        have O1 := Lib.hid (O2.out.alloc (.cells #[.int .i64 (k : Int), .int .i64 xh] 38))
        go_wp2_with (at_builtin; refine wpList_appS KP _ (by rfl) (.tmp 16) (.tmp 24) (by rfl) (by rfl) HV1.out (some ⟨wr.heap.size, 0, none⟩) [⟨(k : Int), xh⟩] 1 1 (by rfl) rfl (RdS.one (Bk.newAt rfl) rfl) (by simp; omega) LL ?_; intro v' w1 hown hgrow hat; have G1 := Lib.hid (O1.out.trans (Only.of_grown hgrow) (fun i hi => .inr (by have := (HV1.out.own_ge i hi).1; simp; omega))); have G2 := Lib.hid hown; clear hgrow hown hat)
        go_roundw
        case rel => exact ⟨k + 1, by go_num, by omega, by rw [HT.out]; exact G2.out, G1.out⟩
        case measure => simp [intOf]; omega
    · have e : k = T.length := by omega
      subst e
      have E := Lib.hid (show RowE KP w (pidsF T) (.returned u3) wr from ⟨u3, rfl, by have := HV.out.low (show w.heap.size ≤ w.heap.size + 1 by omega); rwa [List.take_length] at this, O.out.trans o (by simp)⟩)
      clear o hv bt
      go_wp2_with fail
      go_ret
      exact E.out
end Go.Proofs.Ytlidnlcmnkagaaa
