/- Term of a small term.. From the row's condition to what the walks take of the table of the kinds' names.. -/
import Derived.Test.YtcdefnbehlcgeaaGreatDoorWe
import Derived.Deep.AppendLies
import Derived.Laws.IdiomStrings
import Derived.Test.YtcdefnbehlcgeaaGreatDoorWby
import Derived.Test.YtcdefnbehlcgeaaGreatDoorRows
import Derived.Stop.LaidErr
import Derived.Shelf.Vars
import Derived.MakeChecks
import Derived.Lib.LaidTab
set_option maxHeartbeats 4000000
set_option linter.unusedSimpArgs false
set_option linter.unusedVariables false
namespace Go.Proofs.YtcdefnbehlcgeaaGreatDoor
open Go.RowKit
def BR (w : World) (base : Nat) (v : Value) (xs : List Int) : Prop := w.ownsRow base 5 1 v xs.length (xs.map fun z => Value.int .u8 z)
theorem BR.nil (w : World) (base : Nat) : BR w base (.slice none 0 0) [] := ⟨rfl, .inl ⟨rfl, rfl⟩⟩
theorem BR.alloc {w : World} {base : Nat} {v : Value} {xs : List Int} (h : BR w base v xs) (o : Obj) : BR (w.alloc o) base v xs := Row.only h ((Only.refl [] w).alloc o) (by simp)
theorem u8_info : ∃ i, Tryz.prog.info? 5 = some i ∧ i.zero = some (.int .u8 0) ∧ i.size = 1 ∧ i.bytes = 1 := by
 have h : (Tryz.prog.info? 5).map (fun i => (i.zero, i.size, i.bytes)) = some (some (.int .u8 0), 1, 1) := by kernel_rfl
 cases hi : Tryz.prog.info? 5 with
 | none => rw [hi] at h; cases h
 | some i =>
  rw [hi] at h
  simp only [Option.map_some, Option.some.injEq, Prod.mk.injEq] at h
  exact ⟨i, rfl, h.1, h.2.1, h.2.2⟩
theorem wpList_appB {w : World} {ops : Array Oper} {rest : List Oper} {o : Oper} {a : Act} {Q : Exit → Act → World → Prop} (hgd : o.guard = none) (s x : Operand) (ho : o.op = .call { callee := .builtin .append, args := #[s, x], argTypes := #[69, 69] })
 (base : Nat) (v : Value) (xs : List Int) (hs : a.eval s = v) (hown : BR w base v xs) (g : Nat) (z : Int) (hx : a.eval x = .slice (some ⟨g, 0, none⟩) 1 1) (hb : Bk w g 5 #[.int .u8 z]) (hl : xs.length ≤ 1000) (hbase : base ≤ w.heap.size)
 (h : ∀ g' cap w', BR w' base (.slice (some ⟨g', 0, none⟩) (xs.length + 1) cap) (xs ++ [z]) → Only v.ownBlock.toList w w' → wpList Tryz.prog ops Q rest (a.put o.dst (.slice (some ⟨g', 0, none⟩) (xs.length + 1) cap)) w') :
 wpList Tryz.prog ops Q (o :: rest) a w := by
 obtain ⟨i, hi, hz, hz1, hz2⟩ := u8_info
 refine wpList_append_lies w hgd s x _ ho base 5 i _ 1 1 Tryz.underlying69 hi hz hz1 hz2 rfl (by omega) v xs.length _ hs hown ⟨g, 0, none⟩ 1 1 [.int .u8 z] hx rfl (World.news_of_block hb) (by simp [Value.oneCell']) (by omega) (by unfold maxLen; omega) (by omega) hbase w.heap.size rfl fun g' cap w' h1 h2 _ _ => h g' cap w' ?_ (Only.of_grown h2)
 unfold BR
 simp only [List.length_append, List.length_singleton, List.map_append, List.map_cons, List.map_nil]
 exact h1
theorem addCount_small (n : Int) (hn : n = 3 ∨ n = 5) (base : Nat) (A : Option Addr) (c : Nat) (xs : List Int) (w : World) (hown : BR w base (.slice A xs.length c) xs) (hx : xs.length ≤ 1000) (hbase : base ≤ w.heap.size) :
 Calls Tryz.prog 66 #[.slice A xs.length c, .int .i64 n] w fun e w' => ∃ g cap, e = .returned (.slice (some ⟨g, 0, none⟩) (xs.length + 1) cap) ∧ BR w' base (.slice (some ⟨g, 0, none⟩) (xs.length + 1) cap) (xs ++ [n]) ∧ Only (Value.slice A xs.length c).ownBlock.toList w w' := by
 have HO := Lib.hid hown
 clear hown
 rcases hn with rfl | rfl
 all_goals
  go_enter Tryz.func66, Tryz.ntmps66
  go_wp2_with fail
  refine wp_loop_rounds 1 ?_
  rw [rounds_succ]
  go_wp2_with (at_builtin; refine wpList_appB (by rfl) _ _ (by rfl) base (.slice A xs.length c) xs (by rfl) (HO.out.alloc _) w.heap.size _ (by rfl) (Bk.made w _ _) hx (by simp; omega) ?_; intro g' cap w' i1 o1; have I1 := Lib.hid i1; have O1 := Lib.hid (((Only.refl _ w).alloc _).trans o1 (fun i hi => .inl hi)); clear i1 o1)
  go_ret
  exact ⟨g', cap, rfl, I1.out, O1.out⟩
theorem addNumber_m3 (base : Nat) (A : Option Addr) (c : Nat) (w : World) (hown : BR w base (.slice A 1 c) [3]) (hbase : base ≤ w.heap.size) :
 Calls Tryz.prog 67 #[.slice A 1 c, .int .i64 (-3)] w fun e w' => ∃ g cap, e = .returned (.slice (some ⟨g, 0, none⟩) 2 cap) ∧ BR w' base (.slice (some ⟨g, 0, none⟩) 2 cap) [3, 5] ∧ Only (Value.slice A 1 c).ownBlock.toList w w' := by
 have HC : Hid (Calls Tryz.prog 66 #[.slice A 1 c, .int .i64 5] w fun e w' => ∃ g cap, e = .returned (.slice (some ⟨g, 0, none⟩) 2 cap) ∧ BR w' base (.slice (some ⟨g, 0, none⟩) 2 cap) [3, 5] ∧ Only (Value.slice A 1 c).ownBlock.toList w w') := Lib.hid (addCount_small 5 (.inr rfl) base A c [3] w hown (by simp) hbase)
 clear hown
 go_enter Tryz.func67, Tryz.ntmps67
 go_wp2_with fail
 (with_reducible refine (HC.out).mono ?_)
 rintro e w1 ⟨g, cap, rfl, h1, o1⟩
 have H1 := Lib.hid h1
 have O1 := Lib.hid o1
 clear h1 o1
 go_wp2_with fail
 go_ret
 exact ⟨g, cap, rfl, H1.out, O1.out⟩
abbrev t3 : Array Value := #[.int .i64 3, .int .i64 (-3), .complex .f64 0 0, .string ⟨#[]⟩, .int .i64 0, .int .i64 0, .slice none 0 0]
theorem addTerm3 (w : World) : Calls Tryz.prog 40 #[.slice none 0 0, .agg #[.int .i64 3, .int .i64 (-3), .complex .f64 0 0, .string ⟨#[]⟩, .int .i64 0, .int .i64 0, .slice none 0 0]] w fun e w' => ∃ g cap, e = .returned (.slice (some ⟨g, 0, none⟩) 2 cap) ∧ BR w' w.heap.size (.slice (some ⟨g, 0, none⟩) 2 cap) [3, 5] ∧ Only [] w w' := by
 have B0 := Lib.hid (Bk.made w 52 t3)
 have O0 := Lib.hid ((Only.refl [] w).alloc (.cells t3 52))
 have HC : Hid (Calls Tryz.prog 66 #[.slice none 0 0, .int .i64 3] (w.alloc (.cells t3 52)) fun e w' => ∃ g cap, e = .returned (.slice (some ⟨g, 0, none⟩) 1 cap) ∧ BR w' w.heap.size (.slice (some ⟨g, 0, none⟩) 1 cap) [3] ∧ Only [] (w.alloc (.cells t3 52)) w') := Lib.hid (addCount_small 3 (.inl rfl) w.heap.size none 0 [] _ (BR.nil _ _) (by simp) (by simp))
 go_enter Tryz.func40, Tryz.ntmps40
 go_wp2_with fail
 (with_reducible refine (HC.out).mono ?_)
 rintro e w1 ⟨g, cap, rfl, h1, o1⟩
 have H1 := Lib.hid h1
 have B1 := Lib.hid (B0.out.only o1 (by simp))
 have O1 := Lib.hid (O0.out.trans o1 (by simp))
 have HN := Lib.hid (addNumber_m3 w.heap.size (some ⟨g, 0, none⟩) cap w1 h1 O1.out.size)
 have k0 := B1.out.cell0 (i := 0) rfl
 have k1 := B1.out.cell0 (i := 1) rfl
 clear h1 o1
 go_wp2_with fail
 (with_reducible refine (HN.out).mono ?_)
 rintro e w2 ⟨g2, cap2, rfl, h2, o2⟩
 have H2 := Lib.hid h2
 have O2 := Lib.hid (O1.out.trans o2 (fun i hi => .inr (Row.block H1.out (g := i) (by simpa using hi)).1))
 clear h2 o2 k0 k1
 go_wp2_with fail
 go_ret
 exact ⟨g2, cap2, rfl, H2.out, O2.out⟩
theorem conv3 (g cap base : Nat) (w : World) (h : BR w base (.slice (some ⟨g, 0, none⟩) 2 cap) [3, 5]) : (convert 69 9 (.slice (some ⟨g, 0, none⟩) 2 cap)).run Tryz.prog w = .ok (.string ⟨#[3, 5]⟩) w := by
 refine run_convert_bytes_back (P := Tryz.prog) _ 69 9 5 ⟨g, 0, none⟩ cap [3, 5] Tryz.underlying69 Tryz.underlying5 Tryz.underlying9 (fun j hj => ?_)
 simp only [List.length_cons, List.length_nil] at hj
 obtain rfl | rfl : j = 0 ∨ j = 1 := by omega
 ·exact Row.cell h 0 (.int .u8 3) rfl
 ·exact Row.cell h 1 (.int .u8 5) rfl
theorem term3 (w : World) : Calls Tryz.prog 15 #[.agg #[.int .i64 3, .int .i64 (-3), .complex .f64 0 0, .string ⟨#[]⟩, .int .i64 0, .int .i64 0, .slice none 0 0]] w fun e w' => e = .returned (.tuple #[.string ⟨#[3, 5]⟩, .int .i64 0]) ∧ Only [] w w' := by
 have HC := Lib.hid (show ∀ w, Calls Tryz.prog 39 #[.agg t3] w fun e w' => e = .returned (.int .i64 0) ∧ Only [] w w' from fun w => (check_any (.int (-3)) (by unfold T.Good; trivial) (.slice none 0 0) (fun _ => False) w ((TV.leaf (by simp)).2 rfl) (fun _ h => h.elim)).mono fun e w' h => ⟨h.1.trans (by rw [show chk (.int (-3)) = 0 from by kernel_rfl]), h.2⟩)
 have HT := Lib.hid addTerm3
 have B0 := Lib.hid (Bk.made w 52 t3)
 have O0 := Lib.hid ((Only.refl [] w).alloc (.cells t3 52))
 go_enter Tryz.func15, Tryz.ntmps15
 go_wp2_with fail
 (with_reducible refine (HC.out _).mono ?_)
 rintro e w1 ⟨rfl, o1⟩
 have B1 := Lib.hid (B0.out.only o1 (by simp))
 have O1 := Lib.hid (O0.out.trans o1 (by simp))
 obtain ⟨b0, b1, b2, b3, b4, b5, b6⟩ := Bk.seven B1.out
 clear o1
 go_wp2_with fail
 (with_reducible refine (HT.out _).mono ?_)
 rintro e w2 ⟨g, cap, rfl, h2, o2⟩
 have hcv := conv3 g cap _ w2 h2
 have O2 := Lib.hid (O1.out.trans o2 (by simp))
 clear h2 o2 b0 b1 b2 b3 b4 b5 b6
 go_wp2_with fail
 exact bodyPost_ret (v := .tuple #[.string ⟨#[3, 5]⟩, .int .i64 0]) (by simp [results, Tryz.results15, go_sem]) rfl ⟨rfl, O2.out⟩
open Go.RowKit
theorem own_knob : ownKnob Tryz.prog.godebug = none := by kernel_rfl
theorem laid_out : laidOutB Tryz.prog = true := by kernel_rfl
theorem cells_of_strs {H : Type} {enc : TypeId × Value → H} {P : Program} {w : World} {base : Nat} {sp : Nat → Bool} {held : Bool} {fuel : Nat} {t e : TypeId} {n : Nat} {cs : List Value} {zs : List (List UInt8)} {p : List MemPlace}
 (ht : P.underlying t = some (.array n e)) (he : P.underlying e = some .string) (hce : P.cellsOf e = 1) (hct : P.cellsOf t = n)
 (h : DataW.trod enc P w base sp held fuel t cs = some (.agg (zs.map fun z => .lit (.string z)), p)) : ∀ j z, j < n → zs[j]? = some z → cs[j]? = some (.string ⟨⟨z⟩⟩) := by
 intro j z hj hz
 cases fuel with
 | zero => simp [DataW.trod] at h
 | succ fuel =>
  simp only [DataW.trod, ht, hce, hct, Nat.mul_one] at h
  split at h
  ·obtain ⟨xs, hm, hx⟩ := Option.map_eq_some_iff.1 h
   have hxs : xs.map (·.1) = zs.map fun z => (DataW.lit (.string z) : DataW H) := by
    have := congrArg Prod.fst hx
    simpa using this
   obtain ⟨b, hb, hf⟩ := Lib.mapM_at hm j j (by simp [hj])
   obtain ⟨s, hc, rfl, _⟩ := DataW.trod_string he hf
   have h1 : cs[j]? = some (.string s) := by
    have := congrArg (·[0]?) hc
    simpa [List.getElem?_take, List.getElem?_drop] using this
   have h2 : (xs.map (·.1))[j]? = some (DataW.lit (.string s.data.toList) : DataW H) := by simp [hb]
   rw [hxs] at h2
   simp only [List.getElem?_map, hz, Option.map_some, Option.some.injEq, DataW.lit.injEq, Lit.string.injEq] at h2
   rw [h1, h2]
  ·cases h
theorem gkn : Tryz.prog.globalNamed "carousel/text.kindNames" = some 1 := by kernel_rfl
theorem gkn_ty : (Tryz.prog.globals[1]?).map (·.type) = some 190 := by kernel_rfl
theorem kn_data : (Rows.laid_carousel_text_kindNames : DataW Unit) = .agg (((List.range 10).map fun j => (kn j).data.toList).map fun z => .lit (.string z)) := by kernel_rfl
theorem kn_of {W : World} {r : List (String × DataW Unit)} (hL : laidMet Tryz.prog (("carousel/text.kindNames", Rows.laid_carousel_text_kindNames) :: r) W) : KN W := by
 have h7 := hL
 rw [kn_data] at h7
 obtain ⟨ps, ⟨g', t', cs, fuel, p, q, hg', ht', hvar, hd, _, _⟩, _⟩ := h7
 obtain rfl := Option.some.inj (gkn.symm.trans hg')
 obtain rfl := Option.some.inj (gkn_ty.symm.trans ht')
 intro j hj
 have hn : ((List.range 10).map fun j => (kn j).data.toList)[j]? = some (kn j).data.toList := by
  rw [List.getElem?_map, List.getElem?_range hj]
  rfl
 have hc := cells_of_strs Tryz.underlying190 Tryz.underlying9 (by kernel_rfl) (by kernel_rfl) hd j (kn j).data.toList hj hn
 refine World.var?_cell gkn hvar j |>.trans ?_
 simpa using hc
theorem law_any (s : ByteArray) (w : World) (hk : KN w) : Calls Tryz.prog 3 #[.string s] w fun e w' => e = .returned (.bool true) ∧ Only [] w w' :=
 law_go s w hk fun w hk => awake_go w hk term3 termof3
end Go.Proofs.YtcdefnbehlcgeaaGreatDoor
