/- text: Print. -/
import Derived.Test.YtlpafnibcmcjgaaGreatDoorP2
import Derived.Test.YtlpafnibcmcjgaaGreatDoorMj
import Derived.Test.YtlpafnibcmcjgaaGreatDoorTail
namespace Go.Proofs.YtlpafnibcmcjgaaGreatDoor
open Go.RowKit

theorem only_of_below {B : Nat} {w w' : World} (h : Below B w w') : ∃ S : List Nat, Only S w w' ∧ ∀ b ∈ S, B ≤ b :=
  ⟨(List.range w.heap.size).filter (fun b => decide (B ≤ b)), ⟨h.os, h.tape, h.output, h.size, fun k hk hn => h.block k (by
    by_cases hb : k < B
    · exact hb
    · exact absurd (by simp; omega) hn)⟩, fun b hb => by simpa using (List.mem_filter.1 hb).2⟩
theorem TV.below {B : Nat} {w w' : World} {F : Nat → Prop} (h : Below B w w') (hF : ∀ b, F b → b < B) {t : T} {sl : Value} (ht : TV w F t sl) : TV w' F t sl := by
  obtain ⟨S, o, hS⟩ := only_of_below h
  exact TV.only o (fun b hb hf => by have := hF b hf; have := hS b hb; omega) (fun _ h => h) t sl ht
theorem Vars.below {B : Nat} {w w' : World} (h : Vars w) (hb : Below B w w') (hB : 9 ≤ B) : Vars w' := by
  obtain ⟨S, o, hS⟩ := only_of_below hb
  exact h.only o (fun b hb => Nat.le_trans hB (hS b hb))
theorem bld_at {B b : Nat} {p : Value} {bs : List Value} {w w' : World} (h : Lib.BuilderAt TB TU B b p bs w) (o : Only [] w w') : Lib.BuilderAt TB TU B b p bs w' := by
  obtain ⟨hB, v, hb, hown, hne⟩ := h
  exact ⟨hB, v, Bk.only (t := TB) (cs := #[p, v]) hb o (by simp), Row.only hown o (by simp), hne⟩
theorem bld_same {B b : Nat} {bs : List Value} {w w' : World} (h : Lib.IsBuilder TB TU B b bs w) (o : Only [] w w') : Lib.IsBuilder TB TU B b bs w' := h.elim (fun h => .inl (bld_at h o)) (fun h => .inr (bld_at h o))
/-- What write lays behind others. -/
def WriteT (t : T) (z : List UInt8) : Prop := ∀ (B b : Nat) (bs : List UInt8) (sl : Value) (F : Nat → Prop) (w : World), Vars w → 9 ≤ B → TV w F t sl → (∀ b, F b → b < B) → Lib.IsBuilder TB TU B b (Lib.byteCells bs) w → bs.length + z.length ≤ 1000 → B ≤ w.heap.size →
  Calls Tryz.prog 51 #[.pointer (some ⟨b, 0, none⟩), .agg (tcs t.k t.n t.x t.y t.S t.a t.b sl)] w fun e w' => e = .returned (.tuple #[]) ∧ Lib.IsBuilder TB TU B b (Lib.byteCells (bs ++ z)) w' ∧ Below B w w'
theorem cells_app (a : List UInt8) (s : ByteArray) : Lib.byteCells a ++ Lib.strCells s = Lib.byteCells (a ++ lst s) := by simp [Lib.byteCells, Lib.strCells, lst]
theorem write_to (B b : Nat) (bs : List UInt8) (s : ByteArray) (zs : List UInt8) (w : World) (h : Lib.IsBuilder TB TU B b (Lib.byteCells bs) w) (hlen : bs.length + s.size ≤ 1000) (hBw : B ≤ w.heap.size) (hz : bs ++ lst s = zs) :
    Calls Tryz.prog 72 #[.pointer (some ⟨b, 0, none⟩), .string s] w fun e w' => e = .returned (.tuple #[.int .i64 s.size, .nilIface]) ∧ Lib.IsBuilder TB TU B b (Lib.byteCells zs) w' ∧ Below B w w' ∧ ∀ U, Far U b w w' := by
  subst hz
  refine (write_string B b _ s w h (by simp [Lib.byteCells]; omega) hBw).mono fun e w' ⟨h1, ⟨h2, h3⟩, h4⟩ => ⟨h1, ?_, h3, h4⟩
  rw [← cells_app]
  exact h2
set_option maxHeartbeats 1000000 in
theorem write_leaf (t : T) (ht : ∀ k l, t ≠ .tup k l) (k8 : t.k ≠ 8) (k9 : t.k ≠ 9) (z : ByteArray) (hL : LeafT t z) : WriteT t (lst z) := by
  intro B b bs sl F w hv h9 htv hF hb hlen hBw
  obtain rfl := (TV.leaf ht).1 htv
  have e8 : (t.k == 8) = false := beq_eq_false_iff_ne.2 k8
  have e9 : (t.k == 9) = false := beq_eq_false_iff_ne.2 k9
  have L := Lib.hid (fun w hv => hL w hv)
  have HB := Lib.hid (bld_same hb ((Only.refl [] w).alloc (.cells (tcs t.k t.n t.x t.y t.S t.a t.b (.slice none 0 0)) 27)))
  have BL := Lib.hid ((Below.refl B w).alloc hBw (.cells (tcs t.k t.n t.x t.y t.S t.a t.b (.slice none 0 0)) 27))
  have hsz : B ≤ (w.alloc (.cells (tcs t.k t.n t.x t.y t.S t.a t.b (.slice none 0 0)) 27)).heap.size := by simp; omega
  rw [lst_len] at hlen
  clear hb htv k8 k9 hL ht
  go_enter Tryz.func51, Tryz.ntmps51
  go_wp2_with fail
  (with_reducible refine (L.out _ (hv.alloc _)).mono ?_)
  rintro e w1 ⟨rfl, o1⟩
  have W := Lib.hid (write_to B b bs z _ w1 (bld_same HB.out o1) hlen (Nat.le_trans hsz o1.size) rfl)
  have BL1 := Lib.hid (BL.out.trans (o1.below.mono hsz))
  clear o1
  go_wp2_with fail
  (with_reducible refine (W.out).mono ?_)
  rintro e w2 ⟨rfl, hw, hbl, _⟩
  have HW := Lib.hid hw
  have BL2 := Lib.hid (BL1.out.trans hbl)
  clear hw hbl
  go_wp2_with fail
  exact bodyPost_end (v := .tuple #[]) (by simp [results, Tryz.results51, go_sem]) rfl ⟨rfl, HW.out, BL2.out⟩
/-- What writeAll lays: the texts with ", " between. -/
def join : List (List UInt8) → List UInt8
  | [] => []
  | [z] => z
  | z :: r => z ++ [44, 32] ++ join r
theorem join_one (z : List UInt8) : join [z] = z := by simp only [join]
theorem join_snoc (z : List UInt8) : ∀ (l : List (List UInt8)), l ≠ [] → join (l ++ [z]) = join l ++ ([44, 32] ++ z)
  | [], h => absurd rfl h
  | [a], _ => by simp [join]
  | a :: b :: r, _ => by
    have := join_snoc z (b :: r) (by simp)
    simp only [List.cons_append, join] at this ⊢
    rw [this]
    simp
/-- A row of terms and their texts. -/
def Pairs (l : List T) (zs : List (List UInt8)) : Prop := l.length = zs.length ∧ ∀ (i : Nat) (t : T) (z : List UInt8), l[i]? = some t → zs[i]? = some z → WriteT t z
set_option maxHeartbeats 4000000 in
theorem write_all (l : List T) (zs : List (List UInt8)) (hp : Pairs l zs) (p1 p2 : ByteArray) (A : Option Addr) (c : Nat) (B b : Nat) (bs : List UInt8) (F : Nat → Prop) (w : World) (hv : Vars w) (h9 : 9 ≤ B) (hF : ∀ b, F b → b < B)
    (hrows : l = [] ∨ ∃ bl off, A = some ⟨bl, off, none⟩ ∧ bl < B ∧ F bl ∧ TVs w F l bl off) (hb : Lib.IsBuilder TB TU B b (Lib.byteCells bs) w) (hlen : bs.length + (p1.size + (join zs).length + p2.size) ≤ 1000) (hl : l.length ≤ 100) (hBw : B ≤ w.heap.size)
    (hpre : ∀ k, (join (zs.take k)).length ≤ (join zs).length) :
    Calls Tryz.prog 71 #[.pointer (some ⟨b, 0, none⟩), .string p1, .slice A l.length c, .string p2] w fun e w' => e = .returned (.tuple #[]) ∧ Lib.IsBuilder TB TU B b (Lib.byteCells (bs ++ lst p1 ++ join zs ++ lst p2)) w' ∧ Below B w w' := by
  have rs := store_com
  have HP := Lib.hid hp
  have HR := Lib.hid hrows
  have HPRE := Lib.hid hpre
  clear hp hrows hpre
  go_enter Tryz.func71, Tryz.ntmps71
  go_wp2_with fail
  (with_reducible refine (write_to B b bs p1 _ w hb (by omega) hBw rfl).mono ?_)
  rintro e w1 ⟨rfl, hb1, bl1, _⟩
  have HB1 := Lib.hid hb1
  have BL1 := Lib.hid bl1
  clear hb1 bl1 hb
  go_wp2_with fail
  go_loopw [15] (fun iv wr => ∃ k : Nat, iv = .int .i64 k ∧ k ≤ l.length ∧ Lib.IsBuilder TB TU B b (Lib.byteCells (bs ++ lst p1 ++ join (zs.take k))) wr ∧ Below B w wr) (fun iv _ => l.length - (intOf iv).toNat)
  case atStart => exact ⟨0, rfl, Nat.zero_le _, by simpa [join] using HB1.out, BL1.out⟩
  case round =>
    obtain ⟨k, rfl, hk, hb2, hbl2⟩ := hrel
    have HB2 := Lib.hid hb2
    have BL2 := Lib.hid hbl2
    have hsz : B ≤ wr.heap.size := Nat.le_trans hBw hbl2.size
    have hv2 := hv.below hbl2 h9
    clear hb2 hbl2
    by_cases hkl : k < l.length
    · rcases HR.out with h0 | ⟨bl, off, rfl, hbl, hFb, hvs⟩
      · rw [h0] at hkl; simp at hkl
      obtain ⟨sl', htv, hcs⟩ := (TVs.iff.1 hvs) k (l[k]'hkl) (List.getElem?_eq_getElem hkl)
      obtain ⟨A', n', c', rfl⟩ := htv.slice
      have hzk : k < zs.length := by rw [← HP.out.1]; exact hkl
      have HW := Lib.hid (HP.out.2 k _ _ (List.getElem?_eq_getElem hkl) (List.getElem?_eq_getElem hzk))
      have hcs2 : ∀ q u, ((l[k]'hkl).cs (.slice A' n' c'))[q]? = some u → wr.cell? ⟨bl, off + k * 7 + q, none⟩ = some u := fun q u hu => by
        obtain ⟨S, o, hS⟩ := only_of_below BL2.out
        refine (o.cell (p := ⟨bl, off + k * 7 + q, none⟩) (by show bl < _; omega) (fun hm => by have := hS _ hm; simp at this; omega)).trans ?_
        rw [Nat.mul_comm k 7]; exact hcs q u hu
      obtain ⟨r0, r1, r2, r3, r4, r5, r6⟩ := cs_seven _ _ hcs2
      have HTV := Lib.hid (htv.below BL2.out hF)
      have HT := Lib.hid (show zs.take (k + 1) = zs.take k ++ [zs[k]'hzk] by rw [List.take_add_one, List.getElem?_eq_getElem hzk]; rfl)
      have HL := Lib.hid (HPRE.out (k + 1))
      clear hcs hcs2 htv hvs
      generalize l[k]'hkl = u at HW HTV r0 r1 r2 r3 r4 r5 r6
      generalize zs[k]'hzk = z at HW HT
      have O13 := Lib.hid ((Only.refl [] wr).alloc (.cells (tcs u.k u.n u.x u.y u.S u.a u.b (.slice A' n' c')) 27))
      have HB3 := Lib.hid (bld_same HB2.out O13.out)
      have BL3 := Lib.hid (BL2.out.trans (O13.out.below.mono hsz))
      have HTV3 := Lib.hid (HTV.out.same O13.out)
      have hsz3 : B ≤ (wr.alloc (.cells (tcs u.k u.n u.x u.y u.S u.a u.b (.slice A' n' c')) 27)).heap.size := by simp; omega
      have N13 := Lib.hid (Bk.made wr 27 (tcs u.k u.n u.x u.y u.S u.a u.b (.slice A' n' c')))
      by_cases hk0 : k = 0
      · subst hk0
        simp only [Nat.zero_mul, Nat.add_zero] at r0 r1 r2 r3 r4 r5 r6
        have hz1 : join (zs.take (0 + 1)) = z := by rw [HT.out]; simp [join]
        have W := Lib.hid (HW.out B b _ _ F _ (hv2.same O13.out) h9 HTV3.out hF HB3.out (by rw [hz1] at HL; have := HL.out; simp [join, lst_len]; omega) hsz3)
        go_wp2_with fail
        (with_reducible refine (W.out).mono ?_)
        rintro e w4 ⟨rfl, hw, hbl4⟩
        have HW4 := Lib.hid hw
        have BL4 := Lib.hid (BL3.out.trans hbl4)
        clear hw hbl4
        go_wp2_with fail
        go_roundw
        case rel => exact ⟨1, by go_num, by omega, by rw [hz1]; simpa [join] using HW4.out, BL4.out⟩
        case measure =>
          simp [intOf]
          omega
      · have hne : zs.take k ≠ [] := by
          intro e
          have := congrArg List.length e
          rw [List.length_take, List.length_nil] at this
          omega
        have hz1 : join (zs.take (k + 1)) = join (zs.take k) ++ ([44, 32] ++ z) := by rw [HT.out, join_snoc z _ hne]
        have hlz := HL.out
        rw [hz1] at hlz
        simp only [List.length_append, List.length_cons, List.length_nil] at hlz
        have W1 := Lib.hid (write_to B b (bs ++ lst p1 ++ join (zs.take k)) ⟨#[44, 32]⟩ (bs ++ lst p1 ++ join (zs.take k) ++ [44, 32]) _ HB3.out (by simp [lst_len]; show _ + 2 ≤ _; omega) hsz3 rfl)
        clear hne
        go_wp2_with fail
        (with_reducible refine (W1.out).mono ?_)
        rintro e w4 ⟨rfl, hw, hbl4, hfar⟩
        have BL4 := Lib.hid (BL3.out.trans hbl4)
        have W := Lib.hid (HW.out B b _ _ F w4 ((hv2.same O13.out).below hbl4 h9) h9 (HTV3.out.below hbl4 hF) hF hw (by simp [lst_len]; omega) (Nat.le_trans hsz3 hbl4.size))
        have N4 : Bk w4 wr.heap.size 27 (tcs u.k u.n u.x u.y u.S u.a u.b (.slice A' n' c')) := by
          refine (hfar wr.heap.size ?_ (fun p v hp g hg => ?_) wr.heap.size (Nat.le_refl _) (by simp)).trans N13.out
          · rcases HB2.out with h | h
            · exact h.lt
            · exact h.lt
          · rcases HB2.out with ⟨_, v', hb', hown', _⟩ | ⟨_, v', hb', hown', _⟩
            all_goals
              have h5 := Bk.only (t := TB) hb' O13.out (by simp)
              unfold Bk at h5
              rw [h5] at hp
              injection hp with h6
              injection h6 with h6
              have h7 : v' = v := by
                have := congrArg (fun a : Array Value => a[1]?) h6
                simpa using this
              rw [← h7] at hg
              exact (Row.block hown' hg).2
        obtain ⟨z0, z1, z2, z3, z4, z5, z6⟩ := N4.seven
        clear hw hbl4 hfar N4
        go_wp2_with fail
        (with_reducible refine (W.out).mono ?_)
        rintro e w5 ⟨rfl, hw, hbl5⟩
        have HW5 := Lib.hid hw
        have BL5 := Lib.hid (BL4.out.trans hbl5)
        clear hw hbl5
        go_wp2_with fail
        go_roundw
        case rel => exact ⟨k + 1, by go_num, by omega, by rw [hz1]; have := HW5.out; simpa using this, BL5.out⟩
        case measure =>
          simp [intOf]
          omega
    · have hke : k = l.length := by omega
      subst hke
      have hzs : zs.take l.length = zs := by rw [HP.out.1, List.take_length]
      rw [hzs] at HB2
      have W := Lib.hid (write_to B b (bs ++ lst p1 ++ join zs) p2 _ wr HB2.out (by simp [lst_len]; omega) hsz rfl)
      clear hk
      go_wp2_with fail
      (with_reducible refine (W.out).mono ?_)
      rintro e w4 ⟨rfl, hw, hbl4, _⟩
      have HW5 := Lib.hid hw
      have BL5 := Lib.hid (BL2.out.trans hbl4)
      clear hw hbl4
      go_wp2_with fail
      exact bodyPost_end (v := .tuple #[]) (by simp [results, Tryz.results71, go_sem]) rfl ⟨rfl, HW5.out, BL5.out⟩
set_option maxHeartbeats 2000000 in
theorem write_tup8 (l : List T) (zs : List (List UInt8)) (hp : Pairs l zs) (hl : l.length ≤ 100) (hpre : ∀ k, (join (zs.take k)).length ≤ (join zs).length) : WriteT (.tup 8 l) ([123] ++ join zs ++ [125]) := by
  intro B b bs sl F w hv h9 htv hF hb hlen hBw
  simp only [TV] at htv
  obtain ⟨A, cap, rfl, _, _, hrows⟩ := htv
  simp only [List.length_append, List.length_cons, List.length_nil] at hlen
  have O0 := Lib.hid ((Only.refl [] w).alloc (.cells (tcs 8 0 0 0 ⟨#[]⟩ 0 0 (.slice A l.length cap)) 27))
  have hsz : B ≤ (w.alloc (.cells (tcs 8 0 0 0 ⟨#[]⟩ 0 0 (.slice A l.length cap)) 27)).heap.size := by simp; omega
  have hr : l = [] ∨ ∃ bl off, A = some ⟨bl, off, none⟩ ∧ bl < B ∧ F bl ∧ TVs (w.alloc (.cells (tcs 8 0 0 0 ⟨#[]⟩ 0 0 (.slice A l.length cap)) 27)) F l bl off := by
    rcases hrows with h | ⟨bl, off, h1, h2, h3, h4⟩
    · exact .inl h
    · refine .inr ⟨bl, off, h1, hF bl h3, h3, ?_⟩
      rw [TVs.iff] at h4 ⊢
      intro i u hu
      obtain ⟨sl', h5, h6⟩ := h4 i u hu
      exact ⟨sl', h5.same O0.out, fun j v hv => (O0.out.cell (p := ⟨bl, off + 7 * i + j, none⟩) h2 (by simp)).trans (h6 j v hv)⟩
  have W := Lib.hid (write_all l zs hp ⟨#[123]⟩ ⟨#[125]⟩ A cap B b bs F _ (hv.same O0.out) h9 hF hr (bld_same hb O0.out) (by show _ + (1 + _ + 1) ≤ _; omega) hl hsz hpre)
  have BL := Lib.hid (O0.out.below.mono hBw)
  clear hb hrows hr hp hpre
  change Calls Tryz.prog 51 #[.pointer (some ⟨b, 0, none⟩), .agg (tcs 8 0 0 0 ⟨#[]⟩ 0 0 (.slice A l.length cap))] w fun e w' => _
  go_enter Tryz.func51, Tryz.ntmps51
  go_wp2_with fail
  (with_reducible refine (W.out).mono ?_)
  rintro e w4 ⟨rfl, hw, hbl4⟩
  have HW5 := Lib.hid hw
  have BL5 := Lib.hid (BL.out.trans hbl4)
  clear hw hbl4
  go_wp2_with fail
  exact bodyPost_end (v := .tuple #[]) (by simp [results, Tryz.results51, go_sem]) rfl ⟨rfl, by have := HW5.out; rw [List.append_assoc, List.append_assoc] at this; simpa [lst] using this, BL5.out⟩
set_option maxHeartbeats 2000000 in
theorem write_tup9 (l : List T) (zs : List (List UInt8)) (hp : Pairs l zs) (hl : l.length ≤ 100) (hpre : ∀ k, (join (zs.take k)).length ≤ (join zs).length) : WriteT (.tup 9 l) ([91] ++ join zs ++ [93]) := by
  intro B b bs sl F w hv h9 htv hF hb hlen hBw
  simp only [TV] at htv
  obtain ⟨A, cap, rfl, _, _, hrows⟩ := htv
  simp only [List.length_append, List.length_cons, List.length_nil] at hlen
  have O0 := Lib.hid ((Only.refl [] w).alloc (.cells (tcs 9 0 0 0 ⟨#[]⟩ 0 0 (.slice A l.length cap)) 27))
  have hsz : B ≤ (w.alloc (.cells (tcs 9 0 0 0 ⟨#[]⟩ 0 0 (.slice A l.length cap)) 27)).heap.size := by simp; omega
  have hr : l = [] ∨ ∃ bl off, A = some ⟨bl, off, none⟩ ∧ bl < B ∧ F bl ∧ TVs (w.alloc (.cells (tcs 9 0 0 0 ⟨#[]⟩ 0 0 (.slice A l.length cap)) 27)) F l bl off := by
    rcases hrows with h | ⟨bl, off, h1, h2, h3, h4⟩
    · exact .inl h
    · refine .inr ⟨bl, off, h1, hF bl h3, h3, ?_⟩
      rw [TVs.iff] at h4 ⊢
      intro i u hu
      obtain ⟨sl', h5, h6⟩ := h4 i u hu
      exact ⟨sl', h5.same O0.out, fun j v hv => (O0.out.cell (p := ⟨bl, off + 7 * i + j, none⟩) h2 (by simp)).trans (h6 j v hv)⟩
  have W := Lib.hid (write_all l zs hp ⟨#[91]⟩ ⟨#[93]⟩ A cap B b bs F _ (hv.same O0.out) h9 hF hr (bld_same hb O0.out) (by show _ + (1 + _ + 1) ≤ _; omega) hl hsz hpre)
  have BL := Lib.hid (O0.out.below.mono hBw)
  clear hb hrows hr hp hpre
  change Calls Tryz.prog 51 #[.pointer (some ⟨b, 0, none⟩), .agg (tcs 9 0 0 0 ⟨#[]⟩ 0 0 (.slice A l.length cap))] w fun e w' => _
  go_enter Tryz.func51, Tryz.ntmps51
  go_wp2_with fail
  (with_reducible refine (W.out).mono ?_)
  rintro e w4 ⟨rfl, hw, hbl4⟩
  have HW5 := Lib.hid hw
  have BL5 := Lib.hid (BL.out.trans hbl4)
  clear hw hbl4
  go_wp2_with fail
  exact bodyPost_end (v := .tuple #[]) (by simp [results, Tryz.results51, go_sem]) rfl ⟨rfl, by have := HW5.out; rw [List.append_assoc, List.append_assoc] at this; simpa [lst] using this, BL5.out⟩
/-- The term of the small text. -/
def trIn : T := .tup 9 [.int 1, .int (-2), .com 3 0]
def ping : ByteArray := ⟨#[112, 105, 110, 103]⟩
def tr : T := .tup 8 [.atom ping, .pid 3 1, trIn, .ref 7]
def zIn : List UInt8 := [91, 49, 44, 32, 45, 50, 44, 32, 51, 43, 48, 105, 93]
def zTr : List UInt8 := [123, 112, 105, 110, 103, 44, 32, 60, 51, 46, 49, 62, 44, 32] ++ zIn ++ [44, 32, 35, 55, 125]
theorem pre_le {zs : List (List UInt8)} (h : ∀ k, k < zs.length → (join (zs.take k)).length ≤ (join zs).length) (k : Nat) : (join (zs.take k)).length ≤ (join zs).length := by
  by_cases hk : k < zs.length
  · exact h k hk
  · rw [List.take_of_length_le (by omega)]
    exact Nat.le_refl _
theorem w_int (n : Int) (z : List UInt8) (h1 : -9223372036854775808 ≤ n) (h2 : n ≤ 9223372036854775807) (hz : Lib.itoa n = z) : WriteT (.int n) z := by
  have := write_leaf (.int n) (by simp) (show (3 : Int) ≠ 8 by decide) (show (3 : Int) ≠ 9 by decide) _ (leaf_int n h1 h2)
  rw [lst_mk, hz] at this
  exact this
theorem itoa_1 : Lib.itoa 1 = [49] := by unfold Lib.itoa; rw [if_neg (by decide)]; exact Lib.decDigits_one (by decide)
theorem itoa_m2 : Lib.itoa (-2) = [45, 50] := by unfold Lib.itoa; rw [if_pos (by decide)]; exact congrArg (List.cons 45) (Lib.decDigits_one (by decide))
theorem w_in : WriteT trIn zIn := by
  refine write_tup9 [.int 1, .int (-2), .com 3 0] [[49], [45, 50], [51, 43, 48, 105]] ⟨rfl, fun i t z h1 h2 => ?_⟩ (by decide) (pre_le (by decide))
  match i, h1, h2 with
  | 0, h1, h2 => injection h1 with h1; injection h2 with h2; subst h1 h2; exact w_int 1 _ (by decide) (by decide) itoa_1
  | 1, h1, h2 => injection h1 with h1; injection h2 with h2; subst h1 h2; exact w_int (-2) _ (by decide) (by decide) itoa_m2
  | 2, h1, h2 => injection h1 with h1; injection h2 with h2; subst h1 h2; exact write_leaf (.com 3 0) (by simp) (show (4 : Int) ≠ 8 by decide) (show (4 : Int) ≠ 9 by decide) _ leaf_com30
theorem w_tr : WriteT tr zTr := by
  refine write_tup8 [.atom ping, .pid 3 1, trIn, .ref 7] [[112, 105, 110, 103], [60, 51, 46, 49, 62], zIn, [35, 55]] ⟨rfl, fun i t z h1 h2 => ?_⟩ (by decide) (pre_le (by decide))
  match i, h1, h2 with
  | 0, h1, h2 => injection h1 with h1; injection h2 with h2; subst h1 h2; exact write_leaf (.atom ping) (by simp) (show (5 : Int) ≠ 8 by decide) (show (5 : Int) ≠ 9 by decide) _ (leaf_atom ping)
  | 1, h1, h2 => injection h1 with h1; injection h2 with h2; subst h1 h2; exact write_leaf (.pid 3 1) (by simp) (show (6 : Int) ≠ 8 by decide) (show (6 : Int) ≠ 9 by decide) _ leaf_pid31
  | 2, h1, h2 => injection h1 with h1; injection h2 with h2; subst h1 h2; exact w_in
  | 3, h1, h2 => injection h1 with h1; injection h2 with h2; subst h1 h2; exact write_leaf (.ref 7) (by simp) (show (7 : Int) ≠ 8 by decide) (show (7 : Int) ≠ 9 by decide) _ leaf_ref7
theorem good_tr : tr.Good := by simp [tr, trIn, T.Good, Goods, okPart]; decide
theorem chk_tr : chk tr = 0 := by decide
set_option maxHeartbeats 2000000 in
theorem print_tr (sl : Value) (F : Nat → Prop) (w : World) (hv : Vars w) (h : TV w F tr sl) (hF : ∀ b, F b → b < w.heap.size) :
    Calls Tryz.prog 22 #[.agg (tcs 8 0 0 0 ⟨#[]⟩ 0 0 sl)] w fun e w' => e = .returned (.tuple #[.string ⟨zTr.toArray⟩, .int .i64 0]) ∧ Only [] w w' := by
  have rs := store_com
  have O0 := Lib.hid ((Only.refl [] w).alloc (.cells (tcs 8 0 0 0 ⟨#[]⟩ 0 0 sl) 27))
  have hT0 := Lib.hid (h.same O0.out)
  have hF0 : Hid (∀ b, F b → b < (w.alloc (.cells (tcs 8 0 0 0 ⟨#[]⟩ 0 0 sl) 27)).heap.size) := Lib.hid (fun b hb => Nat.lt_of_lt_of_le (hF b hb) O0.out.size)
  have C := Lib.hid (show ∀ w, TV w F tr sl → (∀ b, F b → b < w.heap.size) → Calls Tryz.prog 42 #[.agg #[.int .i64 8, .int .i64 0, .complex .f64 0 0, .string ⟨#[]⟩, .int .i64 0, .int .i64 0, sl]] w fun e w' => e = .returned (.int .i64 0) ∧ Only [] w w' from fun w h1 h2 => by
    have := check_any tr good_tr sl F w h1 h2
    rw [chk_tr] at this
    exact this)
  have N0 := Lib.hid (Bk.made w 27 (tcs 8 0 0 0 ⟨#[]⟩ 0 0 sl))
  obtain ⟨A, n, c, rfl⟩ := h.slice
  clear h
  go_enter Tryz.func22, Tryz.ntmps22
  go_wp2_with fail
  (with_reducible refine (C.out _ hT0.out hF0.out).mono ?_)
  rintro e w1 ⟨rfl, o1⟩
  have O1 := Lib.hid (O0.out.trans o1 (by simp))
  have N1 := Lib.hid (N0.out.only o1 (by simp))
  have T1 := Lib.hid (hT0.out.same o1)
  have hF1 : ∀ b, F b → b < w1.heap.size := fun b hb => Nat.lt_of_lt_of_le (hF b hb) O1.out.size
  clear o1
  have HB := Lib.hid (Lib.fresh_isBuilder TB TU w1)
  have O2 := Lib.hid ((Only.refl [] w1).alloc (.cells #[.pointer none, .slice none 0 0] TB))
  have N2 := Lib.hid (N1.out.only O2.out (by simp))
  obtain ⟨z0, z1, z2, z3, z4, z5, z6⟩ := N2.out.seven
  have h9 : 9 ≤ w1.heap.size := Nat.le_trans hv.big O1.out.size
  have hsz : w1.heap.size ≤ (w1.alloc (.cells #[.pointer none, .slice none 0 0] TB)).heap.size := by simp
  have W := Lib.hid (show Calls Tryz.prog 51 #[.pointer (some ⟨w1.heap.size, 0, none⟩), .agg #[.int .i64 8, .int .i64 0, .complex .f64 0 0, .string ⟨#[]⟩, .int .i64 0, .int .i64 0, .slice A n c]] (w1.alloc (.cells #[.pointer none, .slice none 0 0] TB)) fun e w' => e = .returned (.tuple #[]) ∧ Lib.IsBuilder TB TU w1.heap.size w1.heap.size (Lib.byteCells zTr) w' ∧ Below w1.heap.size (w1.alloc (.cells #[.pointer none, .slice none 0 0] TB)) w' from w_tr w1.heap.size w1.heap.size [] (.slice A n c) F _ ((hv.same O1.out).same O2.out) h9 (T1.out.same O2.out) hF1 HB.out (by decide) hsz)
  have BL := Lib.hid (O1.out.below.trans ((O2.out.below).mono O1.out.size))
  go_wp2_with fail
  (with_reducible refine (W.out).mono ?_)
  rintro e w2 ⟨rfl, hw, hbl⟩
  have S := Lib.hid (builder_string w1.heap.size w1.heap.size zTr w2 hw (Nat.le_trans hsz hbl.size))
  have BL2 := Lib.hid (BL.out.trans (hbl.mono O1.out.size))
  have hsz1 := O1.out.size
  clear hw hbl
  go_wp2_with fail
  (with_reducible refine (S.out).mono ?_)
  rintro e w3 ⟨rfl, hbl⟩
  have BL3 := Lib.hid (BL2.out.trans (hbl.mono hsz1))
  clear hbl
  go_wp2_with fail
  go_ret2
  exact ⟨rfl, Only.of_below BL3.out⟩
end Go.Proofs.YtlpafnibcmcjgaaGreatDoor
