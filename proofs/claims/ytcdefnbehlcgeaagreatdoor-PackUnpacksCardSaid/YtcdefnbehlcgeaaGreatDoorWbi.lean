/- slices.Repeat of one number, any number of times; make of Booleans.. code: heightsOf: what it tells of a function.. -/
import Derived.Test.YtcdefnbehlcgeaaGreatDoorWbc
import Derived.Deep.RegionLaw
import Derived.Laws.IdiomCopy
import Derived.Lib.Mul64
import Derived.Laws.Bits64b
import Derived.Test.YtcdefnbehlcgeaaGreatDoorWbh
import Derived.Deep.RegionHeld3
set_option maxHeartbeats 40000000
set_option maxRecDepth 20000
set_option linter.unusedSimpArgs false
namespace Go.Proofs.YtcdefnbehlcgeaaGreatDoor
open Go.RowKit
theorem maskN (a : Nat) (ha : a < 18446744073709551616) : bits .and .u64 (a : Int) 4294967295 = ((a % 4294967296 : Nat) : Int) := by
 have h := bits_and_u64_nat a 4294967295 ha (by omega)
 have e : a &&& 4294967295 = a % 4294967296 := Nat.and_two_pow_sub_one_eq_mod a 32
 rw [e] at h
 exact h
theorem mul_any (n : Nat) (hn : n ≤ 1024) (w : World) : Calls Tryz.prog 86 #[.int .u64 1, .int .u64 (n : Int)] w fun e w' => e = .returned (.tuple #[.int .u64 0, .int .u64 (n : Int)]) ∧ w = w' := by
 go_enter Tryz.func86, Tryz.ntmps86
 have m1 : bits .and .u64 1 4294967295 = 1 := by kernel_rfl
 have m0 : bits .and .u64 0 4294967295 = 0 := by kernel_rfl
 have mn : bits .and .u64 (n : Int) 4294967295 = (n : Int) := by rw [maskN n (by omega), Nat.mod_eq_of_lt (by omega)]
 have wn : IntKind.u64.wrap (n : Int) = (n : Int) := by rw [IntKind.wrap_u64]; omega
 have w0 : IntKind.u64.wrap 0 = 0 := by kernel_rfl
 have dn : (n : Int) / 4294967296 = 0 := by omega
 have M := Lib.hid (And.intro m1 (And.intro m0 (And.intro mn (And.intro wn (And.intro w0 dn)))))
 clear m1 m0 mn wn w0 dn
 go_wp2
 obtain ⟨m1, m0, mn, wn, w0, dn⟩ := M.out
 simp only [m1, mn, Int.one_mul, wn, dn, w0, m0, Int.zero_ediv, Int.mul_zero, Int.add_zero]
 exact bodyPost_ret (v := .tuple #[.int .u64 0, .int .u64 (n : Int)]) (by simp [results, Tryz.results86, go_sem]) rfl ⟨rfl, rfl⟩
/-! ### A run of cells stored -/
def writeAt (cs : Array Value) : Nat → List Value → Array Value
 | _, [] => cs
 | o, v :: r => writeAt (cs.setIfInBounds o v) (o + 1) r
theorem Bk.setCells {b : Nat} {t : TypeId} : ∀ (vs : List Value) (o : Nat) {w : World} {cs : Array Value}, Bk w b t cs → Bk (w.setCells b o vs) b t (writeAt cs o vs)
 | [], _, _, _, h => h
 | v :: r, o, _, _, h => Bk.setCells r (o + 1) (h.set o v)
theorem Only.setCells {S : List Nat} {b : Nat} {w0 : World} (hb : b ∈ S ∨ w0.heap.size ≤ b) : ∀ (vs : List Value) (o : Nat) {w : World}, Only S w0 w → Only S w0 (w.setCells b o vs)
 | [], _, _, h => h
 | v :: r, o, _, h => Only.setCells hb r (o + 1) (h.set (p := ⟨b, o, none⟩) hb v)
theorem writeAt_all {c : Value} : ∀ (vs : List Value) (o : Nat) (cs : Array Value), (∀ v ∈ vs, v = c) → (∀ i, i < o → cs[i]? = some c) → o + vs.length ≤ cs.size → (writeAt cs o vs).size = cs.size ∧ ∀ i, i < o + vs.length → (writeAt cs o vs)[i]? = some c
 | [], o, cs, _, h2, _ => ⟨rfl, fun i hi => h2 i (by simpa using hi)⟩
 | v :: r, o, cs, h1, h2, h3 => by
  rw [List.length_cons] at h3
  obtain ⟨h4, h5⟩ := writeAt_all r (o + 1) (cs.setIfInBounds o v) (fun u hu => h1 u (by simp [hu])) (fun i hi => by
   rw [Array.getElem?_setIfInBounds]
   by_cases e : o = i
   ·subst e
    rw [if_pos rfl, if_pos (by omega), h1 v (by simp)]
   ·rw [if_neg e]
    exact h2 i (by omega)) (by rw [Array.size_setIfInBounds]; omega)
  refine ⟨by rw [writeAt, h4, Array.size_setIfInBounds], fun i hi => ?_⟩
  rw [writeAt]
  exact h5 i (by rw [List.length_cons] at hi; omega)
theorem int_size1 : (Tryz.prog.info? 3).map (·.size) = some 1 := by kernel_rfl
theorem qint_info' : (Tryz.prog.info? 3).map (fun i => (i.zero, i.size, i.bytes)) = some (some (.int .i64 0), 1, 8) := by kernel_rfl
theorem qbool_info : (Tryz.prog.info? 4).map (fun i => (i.zero, i.size, i.bytes)) = some (some (.bool false), 1, 1) := by kernel_rfl
theorem make_ints (n : Nat) (hn : n ≤ 1024) (w : World) : (Instr.makeSlice 74 (.int .i64 (n : Int)) (.int .i64 (n : Int))).run Tryz.prog w = .ok (.slice (some ⟨w.heap.size, 0, none⟩) n n) (w.alloc (.cells (iA (List.replicate n 0)) 3)) := by
 have h := run_make_row' (P := Tryz.prog) 74 3 (.int .i64 0) 8 Tryz.underlying74 qint_info' rfl .i64 .i64 n (by omega) (by omega) w
 rw [show madeCells #[Value.int .i64 0] n = iA (List.replicate n 0) from by
  unfold madeCells iA
  apply Array.ext
  ·simp
  ·intro i h1 h2
   simp [Nat.mod_one]] at h
 exact h
theorem make_bools (n : Nat) (hn : n ≤ 1024) (w : World) : (Instr.makeSlice 104 (.int .i64 (n : Int)) (.int .i64 (n : Int))).run Tryz.prog w = .ok (.slice (some ⟨w.heap.size, 0, none⟩) n n) (w.alloc (.cells (bA (List.replicate n false)) 4)) := by
 have h := run_make_row' (P := Tryz.prog) 104 4 (.bool false) 1 Tryz.underlying104 qbool_info rfl .i64 .i64 n (by omega) (by omega) w
 rw [show madeCells #[Value.bool false] n = bA (List.replicate n false) from by
  unfold madeCells bA
  apply Array.ext
  ·simp
  ·intro i h1 h2
   simp [Nat.mod_one]] at h
 exact h
theorem iA_all {arr : Array Value} {n : Nat} {x : Int} (h1 : arr.size = n) (h2 : ∀ i, i < n → arr[i]? = some (.int .i64 x)) : arr = iA (List.replicate n x) := by
 apply Array.ext
 ·unfold iA; simp [h1]
 ·intro i hi hj
  have := h2 i (by omega)
  rw [Array.getElem?_eq_getElem hi] at this
  rw [Option.some.inj this]
  unfold iA
  simp
theorem setCells_new (w : World) (t : TypeId) (q : Nat) : ∀ (vs : List Value) (o : Nat) (cs : Array Value), ((w.alloc (.cells cs t)).drewN q).setCells w.heap.size o vs = (w.alloc (.cells (writeAt cs o vs) t)).drewN q
 | [], _, _ => rfl
 | v :: r, o, cs => by
  show (((w.alloc (.cells cs t)).drewN q).setCell ⟨w.heap.size, o, none⟩ v).setCells w.heap.size (o + 1) r = _
  rw [show ((w.alloc (.cells cs t)).drewN q).setCell ⟨w.heap.size, o, none⟩ v = ((w.alloc (.cells (cs.setIfInBounds o v) t)).drewN q) from by
   rw [show ((w.alloc (.cells cs t)).drewN q).setCell ⟨w.heap.size, o, none⟩ v = ((w.alloc (.cells cs t)).setCell ⟨w.heap.size, o, none⟩ v).drewN q from rfl, World.setCell_alloc_new]]
  exact setCells_new w t q r (o + 1) _
def RpRel (w : World) (n : Nat) (x : Int) (v : Value) (wr : World) : Prop :=
 ∃ (m q : Nat) (arr : Array Value), v = .int .i64 m ∧ 1 ≤ m ∧ m ≤ n ∧ arr.size = n ∧ (∀ i, i < m → arr[i]? = some (.int .i64 x)) ∧ wr = (w.alloc (.cells arr 3)).drewN q
theorem repeat_any (x : Int) (xb n : Nat) (h1 : 1 ≤ n) (hn : n ≤ 1024) (w : World) (hx : Bk w xb 3 #[.int .i64 x]) : Calls Tryz.prog 50 #[.slice (some ⟨xb, 0, none⟩) 1 1, .int .i64 n] w fun e w' => e = .returned (.slice (some ⟨w.heap.size, 0, none⟩) n n) ∧ ∃ q, w' = (w.alloc (.cells (iA (List.replicate n x)) 3)).drewN q := by
 have HM := Lib.hid (fun w => mul_any n hn w)
 have hmk := fun w => make_ints n hn w
 have hxl := hx.lt
 have BW := Bk.made w 3 (iA (List.replicate n 0))
 have hsz : (iA (List.replicate n 0)).size = n := by unfold iA; simp
 have hcp := run_copy_cells (P := Tryz.prog) (w.alloc (.cells (iA (List.replicate n 0)) 3)) 74 74 3 3 w.heap.size 0 n n ⟨xb, 0, none⟩ 1 1 [.int .i64 x] Tryz.underlying74 int_size1 (Nat.min_eq_left h1).symm
  (fun j v hv => by
    cases j with
    | zero =>
     simp at hv
     subst hv
     rw [show (⟨xb, 0, none⟩ : Addr).add 0 = ⟨xb, 0, none⟩ by simp [Addr.add]]
     exact (hx.alloc _).cell0 rfl
    | succ j => simp at hv)
  (fun j hj => by
    obtain rfl : j = 0 := (by simp at hj; omega)
    rw [BW.cell0 (i := 0) (iA_at (by simp; omega))]
    rfl) (fun j hj => BW.free _) (by simp [Value.oneCell'])
 have he := setCells_new w 3 0 [.int .i64 x] 0 (iA (List.replicate n 0))
 rw [World.drewN_zero, World.drewN_zero] at he
 have hw := writeAt_all (c := .int .i64 x) [.int .i64 x] 0 (iA (List.replicate n 0)) (by simp) (fun i hi => by omega) (by rw [hsz]; simp; omega)
 have HWr := Lib.hid hw
 obtain ⟨arr0, harr⟩ : ∃ arr0, writeAt (iA (List.replicate n 0)) 0 [.int .i64 x] = arr0 := ⟨_, rfl⟩
 rw [harr] at he HWr
 obtain ⟨W1, hW1⟩ : ∃ W1, (w.alloc (.cells (iA (List.replicate n 0)) 3)).setCells w.heap.size 0 [.int .i64 x] = W1 := ⟨_, rfl⟩
 rw [hW1] at he hcp
 have HEq := Lib.hid he
 simp only [List.length_cons, List.length_nil] at hcp
 have p0 : ¬ (n : Int) < 0 := by omega
 have p1 : ¬ (9223372036854775807 : Int) < (n : Int) := by omega
 have p2 : IntKind.u64.wrap (n : Int) = (n : Int) := by rw [IntKind.wrap_u64]; omega
 have p3 : IntKind.i64.wrap (n : Int) = (n : Int) := IntWalk.i64_in _ (by omega)
 clear hx BW hw harr hW1 he
 go_enter Tryz.func50, Tryz.ntmps50
 go_wp2_with fail
 (with_reducible refine (HM.out _).mono ?_)
 rintro e w' ⟨rfl, rfl⟩
 go_wp2_with fail
 go_loopw [8] (fun v wr => RpRel w n x v wr) (fun v _ => n - (intOf v).toNat)
 case atStart => exact ⟨1, 0, arr0, rfl, Nat.le_refl _, h1, by rw [HWr.out.1, hsz], fun i hi => HWr.out.2 i (by simpa using hi), HEq.out⟩
 case round =>
  obtain ⟨m, q, arr, rfl, hm1, hmn, har, hx, hwr⟩ := hrel
  have hb : Bk wr w.heap.size 3 arr := by rw [hwr]; exact (Bk.made w 3 arr).drewN q
  have HWR := Lib.hid hwr
  by_cases hlt : m < n
  ·obtain ⟨k, hk⟩ : ∃ k, Nat.min m (n - m) = k := ⟨_, rfl⟩
   have hk1 : k ≤ m ∧ k ≤ n - m ∧ 1 ≤ k := by
    have h1 := Nat.min_le_left m (n - m)
    have h2 := Nat.min_le_right m (n - m)
    have h3 : Nat.min m (n - m) = m ∨ Nat.min m (n - m) = n - m := by
     rcases Nat.le_total m (n - m) with h | h
     ·exact .inl (Nat.min_eq_left h)
     ·exact .inr (Nat.min_eq_right h)
    have e : (min m (n - m) : Nat) = Nat.min m (n - m) := rfl
    omega
   have hcd := run_copy_cells (P := Tryz.prog) wr.drew 74 74 3 3 w.heap.size m (n - m) (n - m) ⟨w.heap.size, 0, none⟩ m n (List.replicate k (.int .i64 x)) Tryz.underlying74 int_size1 (by rw [List.length_replicate, hk])
    (fun j v hv => by
      have hj : j < k := by
       rw [List.getElem?_replicate] at hv
       split at hv
       ·assumption
       ·cases hv
      rw [List.getElem?_replicate, if_pos hj] at hv
      injection hv with hv
      subst hv
      rw [show (⟨w.heap.size, 0, none⟩ : Addr).add j = ⟨w.heap.size, j, none⟩ by unfold Addr.add; split <;> simp_all]
      exact hb.drew.cell0 (hx j (by omega)))
    (fun j hj => by
      rw [List.length_replicate] at hj
      rw [hb.drew.cell0 (i := m + j) (Array.getElem?_eq_getElem (by omega))]
      rfl) (fun j hj => hb.drew.free _) (fun v hv => by rw [List.eq_of_mem_replicate hv]; rfl)
   have he := setCells_new w 3 (q + 1) (List.replicate k (.int .i64 x)) m arr
   rw [← World.drew_drewN, ← hwr] at he
   have hw := writeAt_all (c := .int .i64 x) (List.replicate k (.int .i64 x)) m arr (fun v hv => List.eq_of_mem_replicate hv) hx (by rw [List.length_replicate, har]; omega)
   rw [List.length_replicate] at hw hcd
   have HW2 := Lib.hid hw
   obtain ⟨W2, hW2⟩ : ∃ W2, wr.drew.setCells w.heap.size m (List.replicate k (.int .i64 x)) = W2 := ⟨_, rfl⟩
   rw [hW2] at he hcd
   have HXR := Lib.hid (show RpRel w n x (.int .i64 ((m : Int) + (k : Int))) W2 from ⟨m + k, q + 1, _, by rw [Int.natCast_add], by omega, by omega, by rw [HW2.out.1, har], HW2.out.2, he⟩)
   have g1 : (m : Int) < (n : Int) := by omega
   have g2 : (m : Int) ≤ (n : Int) := by omega
   have g3 : IntKind.i64.wrap ((m : Int) + (k : Int)) = (m : Int) + (k : Int) := IntWalk.i64_in _ (by omega)
   clear hx hb hwr hw hW2 hk he
   go_wp2_with fail
   go_region
   go_wp2_with fail
   go_roundw
   case rel => exact HXR.out
   case measure => simp [intOf]; omega
  ·have hme : m = n := by omega
   subst hme
   have harr := iA_all har hx
   subst harr
   clear hx hb hwr hmn
   go_wp2_with fail
   go_ret
   exact ⟨rfl, q, HWR.out⟩
open Go.RowKit
theorem md_at {w : World} {b : Nat} {nm : ByteArray} {v : Value} (h : Bk w b 24 #[.string nm, v]) : w.cell? ⟨b, 0, none⟩ = some (.string nm) ∧ w.cell? ⟨b, 1, none⟩ = some v := ⟨h.cell0 (i := 0) rfl, h.cell0 (i := 1) rfl⟩
theorem put6 {w : World} {b : Nat} {t : TypeId} {v0 v1 v2 v3 v4 v5 : Value} (h : Bk w b t #[.string ⟨#[]⟩, .slice none 0 0, .slice none 0 0, .slice none 0 0, .slice none 0 0, .int .i64 0]) : Bk ((((((w.setCell ⟨b, 0, none⟩ v0).setCell ⟨b, 1, none⟩ v1).setCell ⟨b, 2, none⟩ v2).setCell ⟨b, 3, none⟩ v3).setCell ⟨b, 4, none⟩ v4).setCell ⟨b, 5, none⟩ v5) b t #[v0, v1, v2, v3, v4, v5] := by
 simpa using (((((h.set 0 v0).set 1 v1).set 2 v2).set 3 v3).set 4 v4).set 5 v5
theorem away6 {w : World} {b b' : Nat} {t : TypeId} {cs : Array Value} {v0 v1 v2 v3 v4 v5 : Value} (h : Bk w b t cs) (hne : b ≠ b') : Bk ((((((w.setCell ⟨b', 0, none⟩ v0).setCell ⟨b', 1, none⟩ v1).setCell ⟨b', 2, none⟩ v2).setCell ⟨b', 3, none⟩ v3).setCell ⟨b', 4, none⟩ v4).setCell ⟨b', 5, none⟩ v5) b t cs :=
 (((((h.away (p := ⟨b', 0, none⟩) hne v0).away (p := ⟨b', 1, none⟩) hne v1).away (p := ⟨b', 2, none⟩) hne v2).away (p := ⟨b', 3, none⟩) hne v3).away (p := ⟨b', 4, none⟩) hne v4).away (p := ⟨b', 5, none⟩) hne v5
theorem only6 {w0 w : World} {b : Nat} {v0 v1 v2 v3 v4 v5 : Value} (h : Only [] w0 w) (hb : w0.heap.size ≤ b) : Only [] w0 ((((((w.setCell ⟨b, 0, none⟩ v0).setCell ⟨b, 1, none⟩ v1).setCell ⟨b, 2, none⟩ v2).setCell ⟨b, 3, none⟩ v3).setCell ⟨b, 4, none⟩ v4).setCell ⟨b, 5, none⟩ v5) :=
 (((((h.set (p := ⟨b, 0, none⟩) (.inr hb) v0).set (p := ⟨b, 1, none⟩) (.inr hb) v1).set (p := ⟨b, 2, none⟩) (.inr hb) v2).set (p := ⟨b, 3, none⟩) (.inr hb) v3).set (p := ⟨b, 4, none⟩) (.inr hb) v4).set (p := ⟨b, 5, none⟩) (.inr hb) v5
def Made (c : FC) (w : World) (x : Value) (wx : World) : Prop := ∃ fl hb vb, x = .pointer (some ⟨fl, 0, none⟩) ∧ w.heap.size ≤ hb ∧ w.heap.size ≤ vb ∧ w.heap.size ≤ fl ∧ Flw wx c fl hb vb (List.replicate c.n (-1)) (List.replicate c.n false) 0 ∧ Only [] w wx
theorem shut_made {nm : ByteArray} {FA CA : Option Addr} {nf cf n cc : Nat} {w wx : World} {fl hb vb : Nat} (b : Bk wx fl 106 #[.string nm, .slice FA nf cf, .slice CA n cc, .slice (some ⟨hb, 0, none⟩) n n, .slice (some ⟨vb, 0, none⟩) n n, .int .i64 0]) (h : Bk wx hb 3 (iA (List.replicate n (-1)))) (s : Bk wx vb 4 (bA (List.replicate n false))) (o : Only [] w wx) (l1 : w.heap.size ≤ hb) (l2 : w.heap.size ≤ vb) (l3 : w.heap.size ≤ fl) :
 Made ⟨nm, FA, nf, cf, CA, n, cc⟩ w (.pointer (some ⟨fl, 0, none⟩)) wx := ⟨_, _, _, rfl, l1, l2, l3, ⟨b, h, s⟩, o⟩
theorem heights_any (nm : ByteArray) (FA : Option Addr) (nf cf : Nat) (fs : List Fu) (F : Nat → Prop) (k : Nat) (E : Int) (w : World) (hf : FL w F fs (.slice FA nf cf)) (hF : ∀ b, F b → b < w.heap.size) (hk : k < fs.length) (L : Int) (ok : CodeOk fs (fs[k]'hk).code L) (h1 : 1 ≤ (fs[k]'hk).code.length) (h2 : (fs[k]'hk).code.length ≤ 1024) (hE : flE fs (fs[k]'hk) = E) :
 Calls Tryz.prog 26 #[.agg #[.string nm, .slice FA nf cf], .int .i64 k] w fun e w' => ∃ (v : Value) (x : Int), e = .returned (.tuple #[v, .int .i64 E, .int .i64 x]) ∧ Only [] w w' := by
 obtain ⟨bl, off, sc, rfl, hbl, hFb, rfl, h4, c0, c1, c2, c3⟩ := fcs_at hf hk
 obtain ⟨CA, cc, rfl⟩ := h4.slice
 unfold flE at hE
 generalize (fs[k]'hk).code = code at *
 have HFL := Lib.hid hf
 have HIL := Lib.hid h4
 have OK := Lib.hid ok
 have HE := Lib.hid hE
 have HFF := Lib.hid hF
 have hkl : (k : Int) < (fs.length : Int) := by omega
 have hmk := make_bools code.length h2
 have HR := Lib.hid (fun xb w hx => repeat_any (-1) xb code.length h1 h2 w hx)
 have BM := Lib.hid (Bk.made w 24 #[.string nm, .slice (some ⟨bl, off, none⟩) fs.length cf])
 have O0 := Lib.hid ((Only.refl [] w).alloc (.cells #[.string nm, .slice (some ⟨bl, off, none⟩) fs.length cf] 24))
 have x3 : (w.alloc (.cells #[.string nm, .slice (some ⟨bl, off, none⟩) fs.length cf] 24)).cell? ⟨bl, off + k * 4 + 3, none⟩ = some (.slice CA code.length cc) := (O0.out.cell (p := ⟨bl, off + k * 4 + 3, none⟩) hbl (by simp)).trans c3
 obtain ⟨n, hn⟩ : ∃ n, code.length = n := ⟨_, rfl⟩
 obtain ⟨nf, hnf⟩ : ∃ nf, fs.length = nf := ⟨_, rfl⟩
 obtain ⟨ZI, hZI⟩ : ∃ ZI, iA (List.replicate n (-1)) = ZI := ⟨_, rfl⟩
 obtain ⟨ZB, hZB⟩ : ∃ ZB, bA (List.replicate n false) = ZB := ⟨_, rfl⟩
 rw [hn] at hmk HR x3 h1 h2
 rw [hZI] at HR
 rw [hZB] at hmk
 rw [hnf] at BM O0 x3 hkl ⊢
 have HN := Lib.hid hn
 have HNF := Lib.hid hnf
 have HZI := Lib.hid hZI
 have HZB := Lib.hid hZB
 have HK := Lib.hid hk
 clear hf h4 ok hE hF c0 c1 c2 c3 hn hnf hZI hZB hk
 go_enter Tryz.func26, Tryz.ntmps26
 go_upto_region 2 with fail
 go_cut [8] (fun x wx => Made ⟨nm, some ⟨bl, off, none⟩, nf, cf, CA, n, cc⟩ w x wx)
 case first =>
  go_region_held3 (fun w' => w'.cell? ⟨w.heap.size, 0, none⟩ = some (.string nm) ∧ w'.cell? ⟨w.heap.size, 1, none⟩ = some (.slice (some ⟨bl, off, none⟩) nf cf)) (with_reducible (first | exact ⟨by assumption, by assumption⟩ | (refine md_at ?_; (repeat first | exact BM.out | refine Bk.drew ?_ | refine Bk.drewN ?_ _ | refine Bk.alloc ?_ _ | refine away6 ?_ (by omega)); done))) (first | (go_at_call 50; (with_reducible refine (HR.out _ _ ?_).mono ?_); (focus with_reducible (first | (refine Bk.drew (Bk.madeAt ?_); simp; done) | (refine Bk.drew (Bk.alloc (Bk.madeAt ?_) _); simp; done) | (refine Bk.drew (Bk.alloc (Bk.alloc (Bk.madeAt ?_) _) _); simp; done))); rintro e w2 ⟨rfl, q, rfl⟩) | fail)
  all_goals
   clear hmk x3 HR BM
   go_wp2_with fail
   go_meet
   have eI := HZI.out
   have eB := HZB.out
   subst eI eB
   exact shut_made
    (by with_reducible (repeat first | (refine Bk.madeAt ?_; simp; done) | refine put6 ?_ | refine Bk.drew ?_ | refine Bk.drewN ?_ _ | refine Bk.alloc ?_ _))
    (by with_reducible (repeat first | (refine Bk.madeAt ?_; simp; done) | refine Bk.drew ?_ | refine Bk.drewN ?_ _ | refine Bk.alloc ?_ _ | refine away6 ?_ (by omega)))
    (by with_reducible (repeat first | (refine Bk.madeAt ?_; simp; done) | refine Bk.drew ?_ | refine Bk.drewN ?_ _ | refine Bk.alloc ?_ _ | refine away6 ?_ (by omega)))
    (by with_reducible (repeat first | exact Only.refl _ _ | refine Only.drew ?_ | refine Only.drewN ?_ _ | refine Only.alloc ?_ _ | refine only6 ?_ (by omega))) (by omega) (by omega) (by omega)
 case rest =>
  obtain ⟨fl, hb, vb, rfl, l1, l2, l3, hfl, ho⟩ := hcut
  have hlen := HN.out
  have hnf := HNF.out
  subst hlen hnf
  have HO := Lib.hid ho
  have HRE := Lib.hid (reach_new wc ⟨nm, some ⟨bl, off, none⟩, fs.length, cf, CA, code.length, cc⟩ fl hb vb (List.replicate code.length (-1)) (List.replicate code.length false) 0 0 0 0 rfl h1 (by simp) (by simp) hfl (by rw [List.getD_eq_getElem?_getD, List.getElem?_replicate, if_pos (by omega)]; rfl) (by show code.length ≤ 262144; omega) (Nat.zero_le _))
  have hH : (List.replicate code.length (-1 : Int)).set 0 0 = 0 :: List.replicate (code.length - 1) (-1) := by
   obtain ⟨m, hm⟩ : ∃ m, code.length = m + 1 := ⟨code.length - 1, by omega⟩
   rw [hm, List.replicate_succ]
   rfl
  have hV : (List.replicate code.length false).set 0 true = true :: List.replicate (code.length - 1) false := by
   obtain ⟨m, hm⟩ : ∃ m, code.length = m + 1 := ⟨code.length - 1, by omega⟩
   rw [hm, List.replicate_succ]
   rfl
  rw [hH, hV] at HRE
  have HST := Lib.hid (St_init (n := code.length) h1)
  have hne := And.intro l1 (And.intro l2 l3)
  have HFX := Lib.hid (show ∀ W, Only [] w W → FM W ⟨nm, some ⟨bl, off, none⟩, fs.length, cf, CA, code.length, cc⟩ F fs code from fun W o => ⟨HFL.out.same o, HIL.out.same o, fun b hb => Nat.lt_of_lt_of_le (HFF.out b hb) o.size⟩)
  have HNE := Lib.hid (show ¬ F fl ∧ ¬ F hb ∧ ¬ F vb from ⟨fun h => by have := HFF.out _ h; omega, fun h => by have := HFF.out _ h; omega, fun h => by have := HFF.out _ h; omega⟩)
  clear hfl ho hH hV hmk x3
  go_wp2_with fail
  (with_reducible refine (HRE.out).mono ?_)
  rintro e w2 ⟨rfl, o2, hf2⟩
  have O2 := Lib.hid (HO.out.trans o2 (fun i hi => .inr (by simp at hi; omega)))
  have HFI := Lib.hid (find_any w2 ⟨nm, some ⟨bl, off, none⟩, fs.length, cf, CA, code.length, cc⟩ fl hb vb F fs code L OK.out rfl (HFX.out w2 O2.out) HNE.out _ _ _ 0 code.length E HST.out hf2 (by simp) HE.out)
  clear o2 hf2
  go_wp2_with fail
  (with_reducible refine (HFI.out).mono ?_)
  rintro e w3 ⟨⟨x, rfl⟩, o3, hx⟩
  have HX := Lib.hid hx
  have O3 := Lib.hid (O2.out.trans o3 (fun i hi => .inr (by simp at hi; omega)))
  clear o3 hx
  by_cases hz : E = 0
  ·subst hz
   obtain ⟨H, V, nx, hf3⟩ := HX.out rfl
   obtain ⟨c0, c1, c2, c3, c4, c5⟩ := hf3.fs
   dsimp only at c3
   clear hf3
   go_wp2_with fail
   exact bodyPost_ret (v := .tuple #[.slice (some ⟨hb, 0, none⟩) code.length code.length, .int .i64 0, .int .i64 0]) (by simp [results, Tryz.results26, go_sem]) rfl ⟨_, _, rfl, O3.out⟩
  ·have hne2 : (E != 0) = true := by simpa using hz
   clear hz
   go_wp2_with fail
   exact bodyPost_ret (v := .tuple #[.slice none 0 0, .int .i64 E, .int .i64 x]) (by simp [results, Tryz.results26, go_sem]) rfl ⟨_, _, rfl, O3.out⟩
end Go.Proofs.YtcdefnbehlcgeaaGreatDoor
