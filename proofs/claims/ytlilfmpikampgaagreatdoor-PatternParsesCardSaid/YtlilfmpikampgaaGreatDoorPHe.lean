/- The document's walk of a local. The document's walk of any pattern; its Check. -/
import Derived.Test.YtlilfmpikampgaaGreatDoorPHd
import Derived.Test.YtlilfmpikampgaaGreatDoorPH3
namespace Go.Proofs.YtlilfmpikampgaaGreatDoor
open Go.RowKit

theorem lies_news {w : World} {A : Option Addr} {bs : List Int} (h : Lies w A bs) : bs.length ≠ 0 → ∃ ad, A = some ad ∧ ∀ j u, (bs.map fun z => Value.int .i64 z)[j]? = some u → w.cell? (ad.add j) = some u := fun hne => by
  obtain ⟨z, hz⟩ : ∃ z, bs[0]? = some z := ⟨_, List.getElem?_eq_getElem (by omega)⟩
  obtain ⟨g, h1, _⟩ := h 0 z hz
  refine ⟨⟨g, 0, none⟩, h1, fun j u hj => ?_⟩
  rw [List.getElem?_map] at hj
  obtain ⟨y, hy, rfl⟩ := Option.map_eq_some_iff.1 hj
  obtain ⟨g', h2, h3, _⟩ := h j y hy
  rw [h1] at h2
  injection h2 with h2
  injection h2 with h2
  subst h2
  have hadd : (⟨g, 0, none⟩ : Addr).add j = ⟨g, j, none⟩ := by unfold Addr.add; split <;> simp_all
  rw [hadd]
  exact h3
set_option maxRecDepth 20000 in
set_option maxHeartbeats 4000000 in
theorem rw_no (n : Int) (met : Nat) (bs : List Int) (deep : Nat) (A : Option Addr) (cap : Nat) (w : World) (h0 : 0 ≤ n) (h32 : n < 32) (hn : n ∈ bs) (hA : Lies w A bs) (hbm : bs.length ≤ met) (hm : met < 1024) (hd : deep < 64) :
    Calls Tryz.prog 25 #[.agg (vcs n), .int .i64 32, .agg #[.int .i64 met, .slice A bs.length cap], .int .i64 deep] w fun e w' => RWE w (met, bs, 50) e w' := by
  have rs := store_com
  have p1 : ¬ (1024 : Int) ≤ (met : Int) := by omega
  have p2 : ¬ (64 : Int) ≤ (deep : Int) := by omega
  have HM := Lib.hid (fun w => rone_var n w h0 h32)
  have HH := Lib.hid (fun w h => has_any A cap bs n true w h (by omega) (by simpa using hn))
  have HA := Lib.hid hA
  have O0 := Lib.hid ((((Only.refl [] w).alloc (.cells (vcs n) 30)).alloc (.cells #[.int .i64 met, .slice A bs.length cap] 67)).alloc (.cells #[.int .i64 0, .slice none 0 0] 67))
  have B4 := Lib.hid (((Bk.made w 30 (vcs n)).alloc (.cells #[.int .i64 met, .slice A bs.length cap] 67)).alloc (.cells #[.int .i64 0, .slice none 0 0] 67))
  have B6 := Lib.hid ((Bk.madeAt (w := w.alloc (.cells (vcs n) 30)) (t := 67) (cs := #[.int .i64 met, .slice A bs.length cap]) (b := w.heap.size + 1) (by simp)).alloc (.cells #[.int .i64 0, .slice none 0 0] 67))
  have B8 := Lib.hid (Bk.madeAt (w := (w.alloc (.cells (vcs n) 30)).alloc (.cells #[.int .i64 met, .slice A bs.length cap] 67)) (t := 67) (cs := #[.int .i64 0, .slice none 0 0]) (b := w.heap.size + 1 + 1) (by simp))
  clear hA hn h0 h32
  go_enter Tryz.func25, Tryz.ntmps25
  go_wp2_with fail
  (with_reducible refine (HM.out _).mono ?_)
  rintro e w1 ⟨rfl, o1⟩
  have O1 := Lib.hid (O0.out.trans o1 (by simp))
  have C4 := Lib.hid (B4.out.only o1 (by simp))
  have C6 := Lib.hid (B6.out.only o1 (by simp))
  have C8 := Lib.hid (B8.out.only o1 (by simp))
  obtain ⟨z0, z1, z2, z3, z4, z5, z6, z7, z8, z9, z10⟩ := C4.out.elevenH
  have y0 := C6.out.cell0 (i := 0) rfl
  have y1 := C6.out.cell0 (i := 1) rfl
  have t0 := C8.out.cell0 (i := 0) rfl
  have t1 := C8.out.cell0 (i := 1) rfl
  have tf := C8.out.free
  clear o1
  go_wp2_with fail
  (with_reducible refine (HH.out _ (HA.out.same O1.out)).mono ?_)
  rintro e w2 ⟨rfl, rfl⟩
  go_wp2_with fail
  have f8 := (C8.out.set 0 (.int .i64 met)).set 1 (.slice A bs.length cap)
  have OF := Lib.hid ((O1.out.set (p := ⟨w.heap.size + 1 + 1, 0, none⟩) (.inr (by show w.heap.size ≤ w.heap.size + 1 + 1; omega)) (.int .i64 met)).set (p := ⟨w.heap.size + 1 + 1, 1, none⟩) (.inr (by show w.heap.size ≤ w.heap.size + 1 + 1; omega)) (.slice A bs.length cap))
  have LF := Lib.hid (((HA.out.same O1.out).seen C8.out 0 (.int .i64 met)).seen (C8.out.set 0 (.int .i64 met)) 1 (.slice A bs.length cap))
  generalize (w1.setCell ⟨w.heap.size + 1 + 1, 0, none⟩ (.int .i64 met)).setCell ⟨w.heap.size + 1 + 1, 1, none⟩ (.slice A bs.length cap) = W8 at *
  have g0 : W8.cell? ⟨w.heap.size + 1 + 1, 0, none⟩ = some (.int .i64 met) := f8.cell0 rfl
  have g1 : W8.cell? ⟨w.heap.size + 1 + 1, 1, none⟩ = some (.slice A bs.length cap) := f8.cell0 rfl
  exact bodyPost_ret (v := .tuple #[.agg #[.int .i64 met, .slice A bs.length cap], .int .i64 50]) (by simp [results, Tryz.results25, go_sem, g0, g1]) rfl ⟨A, cap, rfl, LF.out, OF.out⟩
set_option maxRecDepth 20000 in
set_option maxHeartbeats 8000000 in
theorem rw_var (n : Int) (met : Nat) (bs : List Int) (deep : Nat) (A : Option Addr) (cap : Nat) (w : World) (h0 : 0 ≤ n) (h32 : n < 32) (hn : n ∉ bs) (hA : Lies w A bs) (hbm : bs.length ≤ met) (hm : met < 1024) (hd : deep < 64) :
    Calls Tryz.prog 25 #[.agg (vcs n), .int .i64 32, .agg #[.int .i64 met, .slice A bs.length cap], .int .i64 deep] w fun e w' => RWE w (met + 1, bs ++ [n], 0) e w' := by
  have rs := store_com
  have p1 : ¬ (1024 : Int) ≤ (met : Int) := by omega
  have p2 : ¬ (64 : Int) ≤ (deep : Int) := by omega
  have h4 : IntKind.i64.wrap ((met : Int) + 1) = (met : Int) + 1 := IntWalk.i64_in _ (by omega)
  have HM := Lib.hid (fun w => rone_var n w h0 h32)
  have HH := Lib.hid (fun w h => has_any A cap bs n false w h (by omega) (by simpa using hn))
  have HK := Lib.hid (show ∀ w, Calls Tryz.prog 42 #[.agg (vcs n)] w fun e w' => (∃ A' c', e = .returned (.slice A' 0 c')) ∧ Only [] w w' from fun w => (kids_any 2 n .zero none none 0 0 0 0 [] [] (fun _ => False) w (QL.nil _ _) (QL.nil _ _) (by simp)).mono fun e w' ⟨⟨A', c', _, h1, _⟩, h2⟩ => ⟨⟨A', c', h1⟩, h2⟩)
  have HA := Lib.hid hA
  have O0 := Lib.hid ((((Only.refl [] w).alloc (.cells (vcs n) 30)).alloc (.cells #[.int .i64 met, .slice A bs.length cap] 67)).alloc (.cells #[.int .i64 0, .slice none 0 0] 67))
  have B4 := Lib.hid (((Bk.made w 30 (vcs n)).alloc (.cells #[.int .i64 met, .slice A bs.length cap] 67)).alloc (.cells #[.int .i64 0, .slice none 0 0] 67))
  have B6 := Lib.hid ((Bk.madeAt (w := w.alloc (.cells (vcs n) 30)) (t := 67) (cs := #[.int .i64 met, .slice A bs.length cap]) (b := w.heap.size + 1) (by simp)).alloc (.cells #[.int .i64 0, .slice none 0 0] 67))
  have B8 := Lib.hid (Bk.madeAt (w := (w.alloc (.cells (vcs n) 30)).alloc (.cells #[.int .i64 met, .slice A bs.length cap] 67)) (t := 67) (cs := #[.int .i64 0, .slice none 0 0]) (b := w.heap.size + 1 + 1) (by simp))
  obtain ⟨i, hi, hz, hz1, hz2⟩ := qinfo qint_info
  have h63 : 0 + bs.length ≤ maxLen := by unfold maxLen; omega
  have h64 : bs.length + 1 ≤ maxLen := by unfold maxLen; omega
  have one1 : ∀ u ∈ bs.map (fun z => Value.int .i64 z), u.oneCell' = true := fun u hu => by
    obtain ⟨z, _, rfl⟩ := List.mem_map.1 hu
    rfl
  clear hA hn h0 h32
  go_enter Tryz.func25, Tryz.ntmps25
  go_wp2_with fail
  (with_reducible refine (HM.out _).mono ?_)
  rintro e w1 ⟨rfl, o1⟩
  have O1 := Lib.hid (O0.out.trans o1 (by simp))
  have C4 := Lib.hid (B4.out.only o1 (by simp))
  have C6 := Lib.hid (B6.out.only o1 (by simp))
  have C8 := Lib.hid (B8.out.only o1 (by simp))
  obtain ⟨z0, z1, z2, z3, z4, z5, z6, z7, z8, z9, z10⟩ := C4.out.elevenH
  have y0 := C6.out.cell0 (i := 0) rfl
  have y1 := C6.out.cell0 (i := 1) rfl
  have yf := C6.out.free
  have n46 : w.heap.size ≠ w.heap.size + 1 := by omega
  clear o1
  go_wp2_with fail
  (with_reducible refine (HH.out _ (HA.out.same O1.out)).mono ?_)
  rintro e w2 ⟨rfl, rfl⟩
  have O2 := Lib.hid (O1.out.set (p := ⟨w.heap.size + 1, 0, none⟩) (.inr (by simp)) (.int .i64 ((met : Int) + 1)))
  have D4 := Lib.hid (C4.out.away (p := ⟨w.heap.size + 1, 0, none⟩) n46 (.int .i64 ((met : Int) + 1)))
  have D6 := Lib.hid (show Bk (w1.setCell ⟨w.heap.size + 1, 0, none⟩ (.int .i64 ((met : Int) + 1))) (w.heap.size + 1) 67 #[.int .i64 ((met + 1 : Nat) : Int), .slice A bs.length cap] from C6.out.set 0 _)
  have D8 := Lib.hid (C8.out.away (p := ⟨w.heap.size + 1, 0, none⟩) (by show w.heap.size + 1 + 1 ≠ w.heap.size + 1; omega) (.int .i64 ((met : Int) + 1)))
  have DA := Lib.hid ((HA.out.same O1.out).seen C6.out 0 (.int .i64 ((met : Int) + 1)))
  go_wp2_with (at_builtin; first
    | (refine wpList_appAny (by rfl) _ _ _ (by rfl) (w.heap.size + 1 + 1 + 1) 3 i _ 1 8 Tryz.underlying58 hi hz hz1 hz2 rfl (by omega) none 0 0 [] (by rfl) ⟨rfl, .inl ⟨rfl, rfl⟩⟩ A bs.length cap (bs.map fun z => Value.int .i64 z) (by rfl) (by simp) (lies_news DA.out) one1 h63 (by omega) (by have := D8.out.lt; omega) ?_; intro A1 c1 w3 own1 o3 g3; have W1 := Lib.hid (show w3.ownsRow (w.heap.size + 1 + 1 + 1) 3 1 (.slice A1 bs.length c1) bs.length (bs.map fun z => Value.int .i64 z) from by simpa using own1); have Q3 := Lib.hid (show Only [] (w1.setCell ⟨w.heap.size + 1, 0, none⟩ (.int .i64 ((met : Int) + 1))) w3 from by simpa [Value.ownBlock] using o3); have E4 := Lib.hid (D4.out.only Q3.out (by simp)); have e1 := E4.out.cell0 (i := 1) rfl; clear own1 o3 g3)
    | (refine wpList_appAny (by rfl) _ _ _ (by rfl) (w.heap.size + 1 + 1 + 1) 3 i _ 1 8 Tryz.underlying58 hi hz hz1 hz2 rfl (by omega) A1 bs.length c1 (bs.map fun z => Value.int .i64 z) (by rfl) (Row.alloc W1.out _) (some ⟨w3.heap.size, 0, none⟩) 1 1 [.int .i64 n] (by rfl) rfl (fun _ => ⟨_, rfl, World.news_of_block (Bk.made w3 3 #[.int .i64 n])⟩) (by simp [Value.oneCell']) h64 (by omega) (by have := D8.out.lt; have := Q3.out.size; simp; omega) ?_; intro A5 c5 w5 own5 o5 g5; have W5 := Lib.hid own5; have R5 := Lib.hid o5; have rl := fun b hb => (Row.block W1.out (g := b) hb).1; have F6 := Lib.hid (((D6.out.only Q3.out (by simp)).alloc (.cells #[.int .i64 n] 3)).only o5 (by intro hm; have := rl _ (by simpa using hm); omega)); have f6 := F6.out.free; have u1 := F6.out.cell0 (i := 1) rfl; have u0 := F6.out.cell0 (i := 0) rfl; have F4 := Lib.hid ((E4.out.alloc (.cells #[.int .i64 n] 3)).only o5 (by intro hm; have := rl _ (by simpa using hm); omega)); have F8 := Lib.hid (((D8.out.only Q3.out (by simp)).alloc (.cells #[.int .i64 n] 3)).only o5 (by intro hm; have := rl _ (by simpa using hm); omega)); obtain ⟨q0, q1, q2, q3, q4, q5, q6, q7, q8, q9, q10⟩ := F4.out.elevenH; clear own5 o5 g5))
  have LW := Lib.hid (show Lies w5 A5 (bs ++ [n]) from Lies.own (base := w.heap.size + 1 + 1 + 1) (c := c5) (by
    have := W5.out
    simp only [List.length_append, List.length_singleton, List.map_append, List.map_cons, List.map_nil]
    exact this))
  have OW5 := Lib.hid (((O2.out.trans Q3.out (by simp)).alloc (.cells #[.int .i64 n] 3)).trans R5.out (fun b hb => .inr (by have := rl b (by simpa using hb); omega)))
  have hn68 : w.heap.size + 1 + 1 ≠ w.heap.size + 1 := by omega
  have G6 := Lib.hid (F6.out.set 1 (.slice A5 (bs.length + 1) c5))
  have G8 := Lib.hid (F8.out.away (p := ⟨w.heap.size + 1, 1, none⟩) hn68 (.slice A5 (bs.length + 1) c5))
  have LG := Lib.hid (LW.out.seen F6.out 1 (.slice A5 (bs.length + 1) c5))
  have OG := Lib.hid (OW5.out.set (p := ⟨w.heap.size + 1, 1, none⟩) (.inr (by show w.heap.size ≤ w.heap.size + 1; omega)) (.slice A5 (bs.length + 1) c5))
  (with_reducible refine (HK.out _).mono ?_)
  rintro e w6 ⟨⟨A6, c6, rfl⟩, o6⟩
  have H6 := Lib.hid (show Bk w6 (w.heap.size + 1) 67 #[.int .i64 ((met + 1 : Nat) : Int), .slice A5 (bs.length + 1) c5] from G6.out.only o6 (by simp))
  have H8 := Lib.hid (G8.out.only o6 (by simp))
  have LH := Lib.hid (LG.out.same o6)
  have OH := Lib.hid (OG.out.trans o6 (by simp))
  have s0 := H6.out.cell0 (i := 0) rfl
  have s1 := H6.out.cell0 (i := 1) rfl
  have t0 := H8.out.cell0 (i := 0) rfl
  have t1 := H8.out.cell0 (i := 1) rfl
  have tf := H8.out.free
  clear o6 q0 q1 q2 q3 q4 q5 q6 q7 q8 q9 q10 u0 u1 f6
  go_wp2_with fail
  refine wp_loop_rounds 1 ?_
  rw [rounds_succ]
  go_wp2_with fail
  have f8 := (H8.out.set 0 (.int .i64 ((met : Int) + 1))).set 1 (.slice A5 (bs.length + 1) c5)
  have OF := Lib.hid ((OH.out.set (p := ⟨w.heap.size + 1 + 1, 0, none⟩) (.inr (by show w.heap.size ≤ w.heap.size + 1 + 1; omega)) (.int .i64 ((met : Int) + 1))).set (p := ⟨w.heap.size + 1 + 1, 1, none⟩) (.inr (by show w.heap.size ≤ w.heap.size + 1 + 1; omega)) (.slice A5 (bs.length + 1) c5))
  have LF := Lib.hid ((LH.out.seen H8.out 0 (.int .i64 ((met : Int) + 1))).seen (H8.out.set 0 (.int .i64 ((met : Int) + 1))) 1 (.slice A5 (bs.length + 1) c5))
  generalize (w6.setCell ⟨w.heap.size + 1 + 1, 0, none⟩ (.int .i64 ((met : Int) + 1))).setCell ⟨w.heap.size + 1 + 1, 1, none⟩ (.slice A5 (bs.length + 1) c5) = W8 at *
  have g0 : W8.cell? ⟨w.heap.size + 1 + 1, 0, none⟩ = some (.int .i64 ((met : Int) + 1)) := f8.cell0 rfl
  have g1 : W8.cell? ⟨w.heap.size + 1 + 1, 1, none⟩ = some (.slice A5 (bs.length + 1) c5) := f8.cell0 rfl
  exact bodyPost_ret (v := .tuple #[.agg #[.int .i64 ((met : Int) + 1), .slice A5 (bs.length + 1) c5], .int .i64 0]) (by simp [results, Tryz.results25, go_sem, g0, g1]) rfl ⟨A5, c5, by simp, LF.out, OF.out⟩
end Go.Proofs.YtlilfmpikampgaaGreatDoor

namespace Go.Proofs.YtlilfmpikampgaaGreatDoor
open Go.RowKit

theorem leaf_small {t : T} (hl : ∀ k l, t ≠ .tup k l) : t.k < 8 := by
  cases t with
  | tup k l => exact absurd rfl (hl k l)
  | _ => simp [T.k]
theorem rwalk_any (t : QT) (hg : t.Good) (hs : t.Sz) : RWOk t := by
  revert hg hs
  refine QT.ind (P := fun t => t.Good → t.Sz → RWOk t) (fun t ht hg hs => ?_) (fun k l r ih ih2 hg hs => ?_) t
  · intro sl sr F met bs deep A cap w hq hF hA hbm hm hd
    by_cases hc : 1024 ≤ met ∨ 64 ≤ deep
    · rw [qthr_full t hc]
      exact rw_full t.k t.n t.t sl sr met bs deep A cap w hA hm hd hc
    · obtain ⟨rfl, rfl⟩ := (QV.leaf ht).1 hq
      have hm1 : met < 1024 := by omega
      have hd1 : deep < 64 := by omega
      cases t with
      | seq k l r => exact absurd rfl (ht _ _ _)
      | zero => exact hg.elim
      | any =>
        rw [show qthr .any met bs deep = (met + 1, bs, 0) by simp only [qthr]; rw [if_neg hc]]
        exact rw_go 1 0 .zero none none 0 0 0 0 [] [] (fun _ => False) met bs deep A cap _ w (by decide) (fun w1 => rone_any w1) (QL.nil _ _) (QL.nil _ _) (fun _ h => h.elim) (by simp) (by simp) trivial hA hbm hm1 hd1 (by simp [qthrs_nil])
      | kind n =>
        rw [show qthr (.kind n) met bs deep = (met + 1, bs, 0) by simp only [qthr]; rw [if_neg hc]]
        exact rw_go 4 n .zero none none 0 0 0 0 [] [] (fun _ => False) met bs deep A cap _ w (by decide) (fun w1 => rone_kind n w1 hg) (QL.nil _ _) (QL.nil _ _) (fun _ h => h.elim) (by simp) (by simp) trivial hA hbm hm1 hd1 (by simp [qthrs_nil])
      | term u =>
        obtain ⟨h1, h2, h3⟩ := hg
        obtain ⟨k0, _, _⟩ := good_kinds h1 h3
        rw [show qthr (.term u) met bs deep = (met + 1, bs, 0) by simp only [qthr]; rw [if_neg hc]]
        exact rw_go 3 0 u none none 0 0 0 0 [] [] (fun _ => False) met bs deep A cap _ w (by decide) (fun w1 => rone_term u w1 h2 h1 k0 (leaf_small h1) (by rw [chk_leaf h1 h2, if_pos h3])) (QL.nil _ _) (QL.nil _ _) (fun _ h => h.elim) (by simp) (by simp) trivial hA hbm hm1 hd1 (by simp [qthrs_nil])
      | var n =>
        by_cases hn : n ∈ bs
        · rw [show qthr (.var n) met bs deep = (met, bs, 50) by simp only [qthr]; rw [if_neg hc, if_pos hn]]
          exact rw_no n met bs deep A cap w hg.1 hg.2 hn hA hbm hm1 hd1
        · rw [show qthr (.var n) met bs deep = (met + 1, bs ++ [n], 0) by simp only [qthr]; rw [if_neg hc, if_neg hn]]
          exact rw_var n met bs deep A cap w hg.1 hg.2 hn hA hbm hm1 hd1
  · intro sl sr F met bs deep A cap w hq hF hA hbm hm hd
    by_cases hc : 1024 ≤ met ∨ 64 ≤ deep
    · rw [qthr_full _ hc]
      exact rw_full k 0 .zero sl sr met bs deep A cap w hA hm hd hc
    · obtain ⟨hq1, hq2⟩ := QV.seq.1 hq
      have hm1 : met < 1024 := by omega
      have hd1 : deep < 64 := by omega
      obtain ⟨hgk, hgl, hgr⟩ := hg
      obtain ⟨hs1, hs2, hsl, hsr⟩ := hs
      have ihh : ∀ u ∈ l ++ r, RWOk u := fun u hu => by
        rcases List.mem_append.1 hu with hu | hu
        · exact ih u hu (QGoods.iff.1 hgl u hu) (QSzs.iff.1 hsl u hu)
        · exact ih2 u hu (QGoods.iff.1 hgr u hu) (QSzs.iff.1 hsr u hu)
      have hgg : QGoods (l ++ r) := QGoods.iff.2 fun u hu => by
        rcases List.mem_append.1 hu with hu | hu
        · exact QGoods.iff.1 hgl u hu
        · exact QGoods.iff.1 hgr u hu
      rw [qthr_seq, if_neg hc]
      obtain ⟨A0, c, rfl, _⟩ := id hq1
      obtain ⟨B0, c', rfl, _⟩ := id hq2
      rcases hgk with ⟨rfl, rfl⟩ | ⟨rfl, hrl⟩
      · exact rw_go 5 0 .zero A0 B0 l.length c 0 c' l [] F met bs deep A cap _ w (by decide) (fun w1 => rone_tup A0 B0 l.length c c' w1) hq1 hq2 hF (by simp; omega) ihh hgg hA hbm hm1 hd1 (qthrs_app _ _ _ _ _)
      · exact rw_go 6 0 .zero A0 B0 l.length c r.length c' l r F met bs deep A cap _ w (by decide) (fun w1 => rone_list A0 B0 l.length c r.length c' w1 hrl) hq1 hq2 hF (by omega) ihh hgg hA hbm hm1 hd1 (qthrs_app _ _ _ _ _)
set_option maxRecDepth 20000 in
set_option maxHeartbeats 4000000 in
theorem r5check_any (t : QT) (hg : t.Good) (hs : t.Sz) (sl sr : Value) (F : Nat → Prop) (w : World) (h : QV w F t sl sr) (hF : ∀ b, F b → b < w.heap.size) :
    Calls Tryz.prog 13 #[.agg (pcs t.k t.n t.t sl sr), .int .i64 32] w fun e w' => e = .returned (.int .i64 (qchk t)) ∧ Only [] w w' := by
  have rs := store_com
  obtain ⟨q, hq⟩ : ∃ q, qthr t 0 [] 0 = q := ⟨_, rfl⟩
  have hchk : qchk t = q.2.2 := by rw [← hq]; rfl
  rw [hchk]
  have o1 : Only [] w (w.alloc (.cells (pcs t.k t.n t.t sl sr) 30)) := (Only.refl [] w).alloc _
  have HT := Lib.hid (show Calls Tryz.prog 25 #[.agg #[.int .i64 t.k, .int .i64 t.n, .int .i64 t.t.k, .int .i64 t.t.n, .complex .f64 t.t.x t.t.y, .string t.t.S, .int .i64 t.t.a, .int .i64 t.t.b, .slice none 0 0, sl, sr], .int .i64 32, .agg #[.int .i64 0, .slice none 0 0], .int .i64 0] (w.alloc (.cells (pcs t.k t.n t.t sl sr) 30)) fun e w' => RWE (w.alloc (.cells (pcs t.k t.n t.t sl sr) 30)) q e w' from (rwalk_any t hg hs).use (deep := 0) (D := 0) (met := 0) (bs := []) (A := none) (cap := 0) (h.same o1) (fun b hb => Nat.lt_of_lt_of_le (hF b hb) o1.size) (fun k z hz => by simp at hz) (by simp) (by omega) (by omega) rfl hq)
  have O1 := Lib.hid o1
  clear h hF hg hs o1 hq hchk
  go_enter Tryz.func13, Tryz.ntmps13
  go_wp2_with fail
  (with_reducible refine (HT.out).mono ?_)
  rintro e w3 ⟨A', cap', rfl, _, o3⟩
  have O3 := Lib.hid ((O1.out.trans o3 (by simp)).alloc (.cells #[.int .i64 q.1, .slice A' q.2.1.length cap'] 67))
  clear o3
  go_wp2_with fail
  go_ret
  exact ⟨rfl, O3.out⟩
end Go.Proofs.YtlilfmpikampgaaGreatDoor
