/- The document: May of any instruction that bytes give; Effect.. code: flow.find, with its goto.. -/
import Derived.Test.YtcdefnbehlcgeaaGreatDoorWbg
import Derived.Test.YtcdefnbehlcgeaaGreatDoorWbe
import Derived.BigQuiet
import Derived.Test.YtcdefnbehlcgeaaGreatDoorWbf
import Derived.WalkMore
import Derived.ScopeJumps
set_option maxHeartbeats 16000000
set_option maxRecDepth 20000
set_option linter.unusedSimpArgs false
set_option linter.unusedVariables false
namespace Go.Proofs.YtcdefnbehlcgeaaGreatDoor
open Go.RowKit
theorem rmay_all (i : In) (hg : i.Good) (nm : ByteArray) (FA : Option Addr) (nf cf : Nat) (fn : ByteArray) (pr L : Int) (S0 : Option Addr) (s1 s2 : Nat) (st sa : Value) (F : Nat → Prop) (r : Bool) (w : World) (ht : TV w F i.t st) (ha : AL w F i.arms sa) (hF : ∀ b, F b → b < w.heap.size) (hr : mayI nf L i = r) :
 Calls Tryz.prog 34 #[.agg #[.string nm, .slice FA nf cf], .agg #[.string fn, .int .i64 pr, .int .i64 L, .slice S0 s1 s2], .agg (ics i.op i.a i.b i.t st sa)] w fun e w' => e = .returned (.bool r) ∧ Only [] w w' := by
 obtain ⟨n, hop, hn1, hn2⟩ := hg.op
 have ha0 := hg.a0
 obtain ⟨A, c, rfl⟩ := ha.slice
 rcases i with ⟨op, a, b, t, arms⟩
 have hop : op = (n : Int) := hop
 have ha0 : 0 ≤ a := ha0
 have hb0 : op ≠ 33 → op ≠ 34 → b = 0 := hg.b0
 have hr0 : op ≠ 27 → op ≠ 33 → arms = [] := hg.r0
 have hr1 : ∀ a ∈ arms, a.Good := hg.r1
 have ht0 : op ≠ 1 → t = .zero := hg.t0
 have ht1 : op = 1 → t.Good := hg.t1
 have haz : hasA op ∨ a = 0 := hg.az
 have hb1 : op ≠ 33 → 0 ≤ b := hg.b1
 dsimp only at ht ha ⊢
 subst hop
 clear hg
 have hz : ((n : Int) ≠ 1) → t = .zero ∧ st = .slice none 0 0 := fun h => by
  obtain rfl := ht0 h
  exact ⟨rfl, (TV.leaf (by simp)).1 ht⟩
 rcases op_class n with rfl | rfl | rfl | rfl | rfl | rfl | rfl | rfl | rfl | rfl | rfl | rfl | rfl | hrest
 ·obtain rfl := hr0 (by decide) (by decide)
  obtain rfl := hb0 (by decide) (by decide)
  have h0 : a = 0 := by
   rcases haz with h | h
   ·unfold hasA at h; omega
   ·exact h
  subst h0
  obtain ⟨A9, m9, z9, rfl⟩ := ht.slice
  exact rmay_push nm FA nf cf fn pr L S0 s1 s2 A c t A9 m9 z9 F r w (ht1 rfl) ht hr
 ·obtain ⟨rfl, rfl⟩ := hz (by decide)
  obtain rfl := hr0 (by decide) (by decide)
  obtain rfl := hb0 (by decide) (by decide)
  exact rmay_dup nm FA nf cf fn pr L S0 s1 s2 A c a r w ha0 hr
 ·obtain ⟨rfl, rfl⟩ := hz (by decide)
  obtain rfl := hr0 (by decide) (by decide)
  obtain rfl := hb0 (by decide) (by decide)
  exact rmay_loc4 nm FA nf cf fn pr L S0 s1 s2 A c a r w ha0 hr
 ·obtain ⟨rfl, rfl⟩ := hz (by decide)
  obtain rfl := hr0 (by decide) (by decide)
  obtain rfl := hb0 (by decide) (by decide)
  exact rmay_loc5 nm FA nf cf fn pr L S0 s1 s2 A c a r w ha0 hr
 ·obtain ⟨rfl, rfl⟩ := hz (by decide)
  obtain rfl := hr0 (by decide) (by decide)
  obtain rfl := hb0 (by decide) (by decide)
  by_cases h1 : 1 ≤ a
  ·exact rmay_kind_yes nm FA nf cf fn pr L S0 s1 s2 A c a r w h1 (by rw [← (show (decide (1 ≤ a) && decide (a ≤ 9)) = r from hr), decide_eq_true h1, Bool.true_and])
  ·exact rmay_kind_no nm FA nf cf fn pr L S0 s1 s2 A c a r w h1 (by rw [← (show (decide (1 ≤ a) && decide (a ≤ 9)) = r from hr), decide_eq_false h1, Bool.false_and])
 ·obtain ⟨rfl, rfl⟩ := hz (by decide)
  obtain rfl := hr0 (by decide) (by decide)
  obtain rfl := hb0 (by decide) (by decide)
  exact rmay_seq18 nm FA nf cf fn pr L S0 s1 s2 A c a r w ha0 hr
 ·obtain ⟨rfl, rfl⟩ := hz (by decide)
  obtain rfl := hr0 (by decide) (by decide)
  obtain rfl := hb0 (by decide) (by decide)
  exact rmay_seq19 nm FA nf cf fn pr L S0 s1 s2 A c a r w ha0 hr
 ·obtain ⟨rfl, rfl⟩ := hz (by decide)
  obtain rfl := hr0 (by decide) (by decide)
  obtain rfl := hb0 (by decide) (by decide)
  exact rmay_jump25 nm FA nf cf fn pr L S0 s1 s2 A c a r w hr
 ·obtain ⟨rfl, rfl⟩ := hz (by decide)
  obtain rfl := hr0 (by decide) (by decide)
  obtain rfl := hb0 (by decide) (by decide)
  exact rmay_jump26 nm FA nf cf fn pr L S0 s1 s2 A c a r w hr
 ·obtain ⟨rfl, rfl⟩ := hz (by decide)
  obtain rfl := hb0 (by decide) (by decide)
  exact rmay_match nm FA nf cf fn pr L S0 s1 s2 A c a arms.length arms F r w hr1 ha hF hr
 ·obtain ⟨rfl, rfl⟩ := hz (by decide)
  obtain rfl := hr0 (by decide) (by decide)
  obtain rfl := hb0 (by decide) (by decide)
  exact rmay_call nm FA nf cf fn pr L S0 s1 s2 A c a r w ha0 hr
 ·obtain ⟨rfl, rfl⟩ := hz (by decide)
  have hr : ((decide (a = 0) || decide (b ≠ -1)) && decide (-1 ≤ b) && decide (b ≤ 1048576) && armsOk L arms) = r := hr
  by_cases h1 : b < -1
  ·exact rmay_recv_lo nm FA nf cf fn pr L S0 s1 s2 A c a b arms.length r w h1 (by rw [← hr, decide_eq_false (p := -1 ≤ b) (by omega), Bool.and_false, Bool.false_and, Bool.false_and])
  by_cases h2 : 1048576 < b
  ·exact rmay_recv_hi nm FA nf cf fn pr L S0 s1 s2 A c a b arms.length r w h1 h2 (by rw [← hr, decide_eq_false (p := b ≤ 1048576) (by omega), Bool.and_false, Bool.false_and])
  rw [decide_eq_true (p := -1 ≤ b) (by omega), decide_eq_true (p := b ≤ 1048576) (by omega), Bool.and_true, Bool.and_true] at hr
  by_cases h3 : b = -1
  ·subst h3
   by_cases h0 : a = 0
   ·subst h0
    exact rmay_recv_z nm FA nf cf fn pr L S0 s1 s2 A c 0 arms.length arms F r w rfl hr1 ha hF (by rw [← hr, decide_eq_true (p := (0 : Int) = 0) rfl, Bool.true_or, Bool.true_and])
   ·exact rmay_recv_a nm FA nf cf fn pr L S0 s1 s2 A c a arms.length r w h0 (by rw [← hr, decide_eq_false h0]; rfl)
  ·exact rmay_recv_ok nm FA nf cf fn pr L S0 s1 s2 A c a b arms.length arms F r w h1 h2 h3 hr1 ha hF (by rw [← hr, decide_eq_true (p := b ≠ -1) h3, Bool.or_true, Bool.true_and])
 ·obtain ⟨rfl, rfl⟩ := hz (by decide)
  obtain rfl := hr0 (by decide) (by decide)
  have hb : 0 ≤ b := hb1 (by decide)
  have hr : (decide (a < (nf : Int)) && decide (b < 3)) = r := hr
  by_cases h1 : a < (nf : Int)
  ·exact rmay_spawn_yes nm FA nf cf fn pr L S0 s1 s2 A c a b r w ha0 hb h1 (by rw [← hr, decide_eq_true h1, Bool.true_and])
  ·exact rmay_spawn_no nm FA nf cf fn pr L S0 s1 s2 A c a b r w ha0 h1 (by rw [← hr, decide_eq_false h1, Bool.false_and])
 ·obtain ⟨n1, n3, n4, n5, n17, n18, n19, n25, n26, n27, n28, n33, n34⟩ := hrest
  obtain ⟨rfl, rfl⟩ := hz (by omega)
  obtain rfl := hr0 (by omega) (by omega)
  obtain rfl := hb0 (by omega) (by omega)
  have h0 : a = 0 := by
   rcases haz with h | h
   ·unfold hasA at h; omega
   ·exact h
  subst h0
  have ne : ∀ k : Nat, n ≠ k → ((n : Int) == (k : Int)) = false := fun k h => by simp; omega
  have bn : ∀ k : Nat, n ≠ k → ((n : Int) != (k : Int)) = true := fun k h => by simp; omega
  refine rmay_rest nm FA nf cf fn pr L S0 s1 s2 A c (n : Int) r w (by omega) (by omega) (ne 1 n1) (ne 3 n3) (ne 4 n4) (ne 5 n5) (ne 17 n17) (ne 18 n18) (ne 19 n19) (ne 25 n25) (ne 26 n26) (ne 27 n27) (ne 28 n28) (ne 33 n33) (ne 34 n34) (bn 1 n1) (bn 27 n27) (bn 33 n33) (bn 34 n34) ?_
  rw [← hr]
  unfold mayI
  dsimp only
  rw [if_neg (show ¬ (n : Int) = 1 by omega), if_neg (show ¬ (n : Int) = 3 by omega), if_neg (show ¬ ((n : Int) = 4 ∨ (n : Int) = 5) by omega), if_neg (show ¬ (n : Int) = 17 by omega), if_neg (show ¬ ((n : Int) = 18 ∨ (n : Int) = 19) by omega), if_neg (show ¬ (n : Int) = 27 by omega), if_neg (show ¬ (n : Int) = 28 by omega), if_neg (show ¬ (n : Int) = 33 by omega), if_neg (show ¬ (n : Int) = 34 by omega)]
open Go.RowKit
theorem least {p : Nat → Prop} : ∀ k, p k → ∃ j, p j ∧ ∀ i, i < j → ¬ p i := by
 intro k
 induction k using Nat.strongRecOn with
 | _ k ih =>
  intro hk
  by_cases h : ∃ i, i < k ∧ p i
  ·obtain ⟨i, hi, hp⟩ := h
   exact ih i hi hp
  ·exact ⟨k, hk, fun i hi hp => h ⟨i, hi, hp⟩⟩
open Classical in
theorem wp_scope_count {P : Program} {a : Act} {w : World} {Q : Exit → Act → World → Prop} {c rest : Code} (l : Nat) (J : Nat → Act → World → Prop) (hf : findLabel c l = some rest)
 (first : c.wp P (Exit.jump l (fun a w => ∃ k, J k a w) Q) a w)
 (pass : ∀ k a w, J k a w → rest.wp P (Exit.jump l (fun a' w' => ∃ k', k' < k ∧ J k' a' w') Q) a w) : (Code.scope c).wp P Q a w := by
 refine wp_scope_jumps l (fun a w => ∃ k, J k a w) (fun a w => if h : ∃ j, J j a w ∧ ∀ i, i < j → ¬ J i a w then Classical.choose h else 0) hf first ?_
 intro a w ⟨k, hk⟩
 have h : ∃ j, J j a w ∧ ∀ i, i < j → ¬ J i a w := least k hk
 obtain ⟨hj, hmin⟩ := Classical.choose_spec h
 refine Code.wp_mono ?_ (pass _ a w hj)
 intro e a' w' hq
 cases e with
 | goto l' =>
  obtain ⟨rfl, k', hlt, hk'⟩ := hq
  refine ⟨rfl, ⟨k', hk'⟩, ?_⟩
  have h' : ∃ j, J j a' w' ∧ ∀ i, i < j → ¬ J i a' w' := least k' hk'
  simp only [dif_pos h, dif_pos h']
  have := (Classical.choose_spec h').2 k'
  refine Nat.lt_of_le_of_lt (Nat.le_of_not_lt fun hh => this hh hk') hlt
 | _ => exact hq
theorem flow_thQ {fs : List Fu} {code : List In} {f : Nat} {h : List Int} {g : List Bool} {t : Nat} (ht : t < code.length) (hn : nextP h g code.length 0 = t) : flowF fs code (f + 1) h g =
 if (thQ fs code (code[t]'ht) t h).1 ≠ 0 then (thQ fs code (code[t]'ht) t h).1 else flowF fs code f (thQ fs code (code[t]'ht) t h).2 (g.set t true) := by
 rw [flow_step ht hn]
 unfold thQ
 split
 ·rw [if_pos (by simp)]
 ·rfl
def Jmp (c : FC) (fl hb vb : Nat) (fs : List Fu) (code : List In) (E : Int) (w0 : World) (k : Nat) (a : Act) (w : World) : Prop :=
 (∃ u1 u2 u3 u4 u5 u6 u7 u8 u9 u10 u11 u12 u13 u14 u15 u16 u17 u18 u19 u20 u21 u22 u23 u24 u25 u26 u27 u28 u29 u30 u31 u32 u33 u34 u35 u36 u37 u38 u39 u40 u41 u42, a = { tmps := #[.pointer (some ⟨fl, 0, none⟩), u1, u2, u3, u4, u5, u6, u7, u8, u9, u10, u11, u12, u13, u14, u15, u16, u17, u18, u19, u20, u21, u22, u23, u24, u25, u26, u27, u28, u29, u30, u31, u32, u33, u34, u35, u36, u37, u38, u39, u40, u41, u42], defers := [] }) ∧ Only [hb, vb, fl] w0 w ∧
  ∃ (H : List Int) (g V : List Bool) (nx f : Nat), HtOk c.n H g V nx ∧ Flw w c fl hb vb H V nx ∧ g.count false ≤ f ∧ flowF fs code f H g = E ∧ k = g.count false * (c.n + 1) + (c.n - nx)
theorem fall2 {c c' n nx nx' : Nat} (h : c' + 1 = c) : c' * (n + 1) + (n - nx') < c * (n + 1) + (n - nx) := by
 subst h
 rw [Nat.succ_mul]
 omega
theorem find_any (w : World) (c : FC) (fl hb vb : Nat) (F : Nat → Prop) (fs : List Fu) (code : List In) (L : Int) (ok : CodeOk fs code L) (hcn : c.n = code.length) (hm : FM w c F fs code) (hFF : ¬ F fl ∧ ¬ F hb ∧ ¬ F vb) (H0 : List Int) (g0 V0 : List Bool) (nx0 f0 : Nat) (E : Int) (hs0 : HtOk c.n H0 g0 V0 nx0) (hf0 : Flw w c fl hb vb H0 V0 nx0) (hcf0 : g0.count false ≤ f0) (hE0 : flowF fs code f0 H0 g0 = E) :
 Calls Tryz.prog 52 #[.pointer (some ⟨fl, 0, none⟩)] w fun e w' => (∃ x : Int, e = .returned (.tuple #[.int .i64 E, .int .i64 x])) ∧ Only [hb, vb, fl] w w' ∧ (E = 0 → ∃ H V nx, Flw w' c fl hb vb H V nx) := by
 have HM := Lib.hid hm
 have HFF := Lib.hid hFF
 have OK := Lib.hid ok
 have hcl := ok.cl
 have HJ := Lib.hid (show ∀ (W : World), Only [hb, vb, fl] w W → ∀ (H : List Int) (g V : List Bool) (nx : Nat) (ht : nx < code.length), HtOk c.n H g V nx → pend H g nx = true → Flw W c fl hb vb H V nx →
  Calls Tryz.prog 87 #[.pointer (some ⟨fl, 0, none⟩), .int .i64 nx] (W.setCell ⟨vb, nx, none⟩ (.bool false)) fun e w' => ThE c fl hb vb (g.set nx true) (W.setCell ⟨vb, nx, none⟩ (.bool false)) (thQ fs code (code[nx]'ht) nx H) e w' from fun W o H g V nx ht s hp f => by
  have o2 : Only [hb, vb, fl] w (W.setCell ⟨vb, nx, none⟩ (.bool false)) := o.set (p := ⟨vb, nx, none⟩) (.inl (by simp)) _
  exact through_any' _ c fl hb vb F fs code L ok (hm.only o2 (by simp; exact ⟨hFF.2.1, hFF.2.2, hFF.1⟩)) H (g.set nx true) (V.set nx false) nx nx ht (s.gone (by rw [hcn]; exact ht) hp) (f.setV nx false))
 have HS0 := Lib.hid hs0
 have HF0 := Lib.hid hf0
 have HC0 := Lib.hid hcf0
 have HE0 := Lib.hid hE0
 have HCN := Lib.hid hcn
 clear hm hFF ok hs0 hf0 hcf0 hE0
 go_enter Tryz.func52, Tryz.ntmps52
 go_wp2_with fail
 refine wp_scope_count 0 (Jmp c fl hb vb fs code E w) rfl ?_ ?_
 ·obtain ⟨ho, hs, hf, hcf, hE⟩ : Only [hb, vb, fl] w w ∧ HtOk c.n H0 g0 V0 nx0 ∧ Flw w c fl hb vb H0 V0 nx0 ∧ g0.count false ≤ f0 ∧ flowF fs code f0 H0 g0 = E := ⟨Only.refl _ _, HS0.out, HF0.out, HC0.out, HE0.out⟩
  clear HS0 HF0 HC0 HE0
  generalize H0 = H at *
  generalize g0 = g at *
  generalize V0 = V at *
  generalize nx0 = nx at *
  generalize f0 = f at *
  have HO := Lib.hid ho
  have HS := Lib.hid hs
  have HFl := Lib.hid hf
  have HC := Lib.hid hcf
  have HE := Lib.hid hE
  obtain ⟨c0, c1, c2, c3, c4, c5⟩ := hf.fs
  obtain ⟨a1, a2, a3⟩ := hf.apart
  have hnl := hs.nl
  have hcn := HCN.out
  obtain ⟨nm, FA, nf, cf, CA, n, cc⟩ := c
  dsimp only at c0 c1 c2 c3 c4 hcn hnl hcl
  subst hcn
  clear ho hs hf hcf hE
  by_cases hn : nx = code.length
  ·subst hn
   have HR := Lib.hid (show (0 : Int) = E by
    rw [← HE.out]
    exact (flow_end (next_is HS.out.lop (Nat.le_refl _) (.inl rfl))).symm)
   go_wp2_with fail
   go_step3
   go_wp2_with fail
   try simp only [Exit.jump]
   try rw [Exit.noGoto_ret]
   exact bodyPost_ret (v := .tuple #[.int .i64 0, .int .i64 0]) (by simp [results, Tryz.results52, go_sem]) rfl ⟨⟨0, by rw [HR.out]⟩, HO.out, fun _ => ⟨_, _, _, HFl.out⟩⟩
  ·have hlt : nx < code.length := by omega
   have e1 : ((nx : Int) == (code.length : Int)) = false := by simp; omega
   have hti : (nx : Int) < (code.length : Int) := by omega
   have k1 := HFl.out.v.cell0 (bA_at (show nx < V.length by have := HS.out.vl; dsimp only at this; omega))
   have k1' : w.cell? ⟨vb, 0 + nx, none⟩ = some (.bool (V.getD nx false)) := by rw [Nat.zero_add]; exact k1
   cases hv : V.getD nx false with
   | false =>
    rw [hv] at k1 k1'
    have q3 := HFl.out.b.free 5
    have q4 : IntKind.i64.wrap ((nx : Int) + 1) = (nx : Int) + 1 := IntWalk.i64_in _ (by omega)
    have HF2 := Lib.hid (HFl.out.setN (nx + 1))
    have HS2 := Lib.hid (HS.out.next hlt hv)
    have HO2 := Lib.hid (HO.out.set (p := ⟨fl, 5, none⟩) (.inl (by simp)) (.int .i64 ((nx + 1 : Nat) : Int)))
    rw [show ((nx + 1 : Nat) : Int) = (nx : Int) + 1 by omega] at HF2 HO2
    clear hn hv
    go_wp2_with fail
    go_step3
    go_wp2_with fail
    go_step3
    exact ⟨rfl, _, ⟨_, _, _, _, _, _, _, _, _, _, _, _, _, _, _, _, _, _, _, _, _, _, _, _, _, _, _, _, _, _, _, _, _, _, _, _, _, _, _, _, _, _, rfl⟩, HO2.out, H, g, V, nx + 1, f, HS2.out, HF2.out, HC.out, HE.out, rfl⟩
   | true =>
    rw [hv] at k1 k1'
    have q1 := HFl.out.v.free nx
    have hp : pend H g nx = true := by rw [← HS.out.pv nx hlt]; exact hv
    have HT := Lib.hid (HJ.out _ HO.out H g V nx hlt HS.out hp HFl.out)
    have hcnt := gone_count (show nx < g.length by have := HS.out.gl; dsimp only at this; omega) (pend_yes hp).2
    have HO0 := Lib.hid (HO.out.set (p := ⟨vb, nx, none⟩) (.inl (by simp)) (.bool false))
    obtain ⟨f', hf'⟩ : ∃ f', f = f' + 1 := ⟨f - 1, by have := HC.out; omega⟩
    have he := HE.out
    rw [hf', flow_thQ hlt (next_is HS.out.lop (by omega) (.inr hp))] at he
    have hc2 : (g.set nx true).count false ≤ f' := by have := HC.out; omega
    obtain ⟨Q, hQ⟩ : ∃ Q, thQ fs code (code[nx]'hlt) nx H = Q := ⟨_, rfl⟩
    rw [hQ] at HT he
    have HE2 := Lib.hid he
    have HCNT := Lib.hid hcnt
    clear hn hv hp hQ he hcnt hf'
    go_wp2_with fail
    go_step3
    go_wp2_with fail
    (with_reducible refine (HT.out).mono ?_)
    rintro e w2 ⟨rfl, o2, h2⟩
    have O2 := Lib.hid (HO0.out.trans o2 (fun i hi => .inl hi))
    have H2 := Lib.hid h2
    clear o2 h2
    obtain ⟨qe, QH⟩ := Q
    dsimp only at H2 HE2 ⊢
    by_cases hz : qe = 0
    ·subst hz
     obtain ⟨V2, nx2, hs2, hf2⟩ := H2.out rfl
     have HS2 := Lib.hid hs2
     have HF2 := Lib.hid hf2
     have he := HE2.out
     rw [if_neg (by decide)] at he
     have HE3 := Lib.hid he
     clear hs2 hf2 he
     go_wp2_with fail
     go_step3
     exact ⟨rfl, _, ⟨_, _, _, _, _, _, _, _, _, _, _, _, _, _, _, _, _, _, _, _, _, _, _, _, _, _, _, _, _, _, _, _, _, _, _, _, _, _, _, _, _, _, rfl⟩, O2.out, QH, g.set nx true, V2, nx2, f', HS2.out, HF2.out, hc2, HE3.out, rfl⟩
    ·have e5 : (qe != 0) = true := by simpa using hz
     have he := HE2.out
     rw [if_pos hz] at he
     have HE3 := Lib.hid he
     have HNZ := Lib.hid hz
     clear he hz
     go_wp2_with fail
     try simp only [Exit.jump]
     try rw [Exit.noGoto_ret]
     exact bodyPost_ret (v := .tuple #[.int .i64 qe, .int .i64 nx]) (by simp [results, Tryz.results52, go_sem]) rfl ⟨⟨nx, by rw [HE3.out]⟩, O2.out, fun e => absurd (HE3.out.trans e) HNZ.out⟩
 ·rintro k a1 w1 ⟨⟨u1, u2, u3, u4, u5, u6, u7, u8, u9, u10, u11, u12, u13, u14, u15, u16, u17, u18, u19, u20, u21, u22, u23, u24, u25, u26, u27, u28, u29, u30, u31, u32, u33, u34, u35, u36, u37, u38, u39, u40, u41, u42, rfl⟩, ho, H, g, V, nx, f, hs, hf, hcf, hE, rfl⟩
  have HO := Lib.hid ho
  have HS := Lib.hid hs
  have HFl := Lib.hid hf
  have HC := Lib.hid hcf
  have HE := Lib.hid hE
  obtain ⟨c0, c1, c2, c3, c4, c5⟩ := hf.fs
  obtain ⟨a1, a2, a3⟩ := hf.apart
  have hnl := hs.nl
  have hcn := HCN.out
  obtain ⟨nm, FA, nf, cf, CA, n, cc⟩ := c
  dsimp only at c0 c1 c2 c3 c4 hcn hnl hcl
  subst hcn
  clear ho hs hf hcf hE
  by_cases hn : nx = code.length
  ·subst hn
   have HR := Lib.hid (show (0 : Int) = E by
    rw [← HE.out]
    exact (flow_end (next_is HS.out.lop (Nat.le_refl _) (.inl rfl))).symm)
   go_wp2_with fail
   try simp only [Exit.jump]
   try rw [Exit.noGoto_ret]
   exact bodyPost_ret (v := .tuple #[.int .i64 0, .int .i64 0]) (by simp [results, Tryz.results52, go_sem]) rfl ⟨⟨0, by rw [HR.out]⟩, HO.out, fun _ => ⟨_, _, _, HFl.out⟩⟩
  ·have hlt : nx < code.length := by omega
   have e1 : ((nx : Int) == (code.length : Int)) = false := by simp; omega
   have hti : (nx : Int) < (code.length : Int) := by omega
   have k1 := HFl.out.v.cell0 (bA_at (show nx < V.length by have := HS.out.vl; dsimp only at this; omega))
   have k1' : w1.cell? ⟨vb, 0 + nx, none⟩ = some (.bool (V.getD nx false)) := by rw [Nat.zero_add]; exact k1
   cases hv : V.getD nx false with
   | false =>
    rw [hv] at k1 k1'
    have q3 := HFl.out.b.free 5
    have q4 : IntKind.i64.wrap ((nx : Int) + 1) = (nx : Int) + 1 := IntWalk.i64_in _ (by omega)
    have HF2 := Lib.hid (HFl.out.setN (nx + 1))
    have HS2 := Lib.hid (HS.out.next hlt hv)
    have HO2 := Lib.hid (HO.out.set (p := ⟨fl, 5, none⟩) (.inl (by simp)) (.int .i64 ((nx + 1 : Nat) : Int)))
    rw [show ((nx + 1 : Nat) : Int) = (nx : Int) + 1 by omega] at HF2 HO2
    clear hn hv
    go_wp2_with fail
    go_step3
    exact ⟨rfl, _, Nat.add_lt_add_left (by show code.length - (nx + 1) < code.length - nx; omega) _, ⟨_, _, _, _, _, _, _, _, _, _, _, _, _, _, _, _, _, _, _, _, _, _, _, _, _, _, _, _, _, _, _, _, _, _, _, _, _, _, _, _, _, _, rfl⟩, HO2.out, H, g, V, nx + 1, f, HS2.out, HF2.out, HC.out, HE.out, rfl⟩
   | true =>
    rw [hv] at k1 k1'
    have q1 := HFl.out.v.free nx
    have hp : pend H g nx = true := by rw [← HS.out.pv nx hlt]; exact hv
    have HT := Lib.hid (HJ.out _ HO.out H g V nx hlt HS.out hp HFl.out)
    have hcnt := gone_count (show nx < g.length by have := HS.out.gl; dsimp only at this; omega) (pend_yes hp).2
    have HO0 := Lib.hid (HO.out.set (p := ⟨vb, nx, none⟩) (.inl (by simp)) (.bool false))
    obtain ⟨f', hf'⟩ : ∃ f', f = f' + 1 := ⟨f - 1, by have := HC.out; omega⟩
    have he := HE.out
    rw [hf', flow_thQ hlt (next_is HS.out.lop (by omega) (.inr hp))] at he
    have hc2 : (g.set nx true).count false ≤ f' := by have := HC.out; omega
    obtain ⟨Q, hQ⟩ : ∃ Q, thQ fs code (code[nx]'hlt) nx H = Q := ⟨_, rfl⟩
    rw [hQ] at HT he
    have HE2 := Lib.hid he
    have HCNT := Lib.hid hcnt
    clear hn hv hp hQ he hcnt hf'
    go_wp2_with fail
    (with_reducible refine (HT.out).mono ?_)
    rintro e w2 ⟨rfl, o2, h2⟩
    have O2 := Lib.hid (HO0.out.trans o2 (fun i hi => .inl hi))
    have H2 := Lib.hid h2
    clear o2 h2
    obtain ⟨qe, QH⟩ := Q
    dsimp only at H2 HE2 ⊢
    by_cases hz : qe = 0
    ·subst hz
     obtain ⟨V2, nx2, hs2, hf2⟩ := H2.out rfl
     have HS2 := Lib.hid hs2
     have HF2 := Lib.hid hf2
     have he := HE2.out
     rw [if_neg (by decide)] at he
     have HE3 := Lib.hid he
     clear hs2 hf2 he
     go_wp2_with fail
     go_step3
     exact ⟨rfl, _, fall2 HCNT.out, ⟨_, _, _, _, _, _, _, _, _, _, _, _, _, _, _, _, _, _, _, _, _, _, _, _, _, _, _, _, _, _, _, _, _, _, _, _, _, _, _, _, _, _, rfl⟩, O2.out, QH, g.set nx true, V2, nx2, f', HS2.out, HF2.out, hc2, HE3.out, rfl⟩
    ·have e5 : (qe != 0) = true := by simpa using hz
     have he := HE2.out
     rw [if_pos hz] at he
     have HE3 := Lib.hid he
     have HNZ := Lib.hid hz
     clear he hz
     go_wp2_with fail
     try simp only [Exit.jump]
     try rw [Exit.noGoto_ret]
     exact bodyPost_ret (v := .tuple #[.int .i64 qe, .int .i64 nx]) (by simp [results, Tryz.results52, go_sem]) rfl ⟨⟨nx, by rw [HE3.out]⟩, O2.out, fun e => absurd (HE3.out.trans e) HNZ.out⟩
end Go.Proofs.YtcdefnbehlcgeaaGreatDoor
