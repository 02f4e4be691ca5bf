/- Append of any slice onto a row of the call's own; rows of ints of the call's own.. The document: has; kids.. The document's walk: what it tells; where it stops at once.. -/
import Derived.Test.YtcdefnbehlcgeaaGreatDoorWv
import Derived.Test.YtcdefnbehlcgeaaGreatDoorWu
set_option maxHeartbeats 4000000
set_option maxRecDepth 20000
namespace Go.Proofs.YtcdefnbehlcgeaaGreatDoor
open Go.RowKit
theorem app_none {t e : TypeId} {i : TypeInfo} (ht : Tryz.prog.underlying t = some (.slice e)) (hi : Tryz.prog.info? e = some i) (ty : TypeId) (A B : Option Addr) (n c c' : Nat) (hn : n ≤ c) (hA : A = none → n = 0) (w : World) :
 (Builtin.append_ #[t, t] ty #[.slice A n c, .slice B 0 c']).run Tryz.prog w = .ok (.slice A n c) w := by
 cases A with
 | none =>
  obtain rfl := hA rfl
  cases B <;> simp [Builtin.append_, run_underlying ht, sizeOf, typeInfo, hi, Builtin.lenOf, Builtin.firstCells, loadCells, loadCellsFrom]
 | some a => cases B <;> simp [Builtin.append_, run_underlying ht, sizeOf, typeInfo, hi, Builtin.lenOf, Builtin.firstCells, storeCells, loadCells, loadCellsFrom, hn]
theorem wpList_appAny {w : World} {ops : Array Oper} {rest : List Oper} {o : Oper} {a : Act} {Q : Exit → Act → World → Prop} (hgd : o.guard = none) (s x : Operand) (t : TypeId) (ho : o.op = .call { callee := .builtin .append, args := #[s, x], argTypes := #[t, t] })
 (base : Nat) (e : TypeId) (i : TypeInfo) (z : Value) (size bytes : Nat) (ht : Tryz.prog.underlying t = some (.slice e)) (hi : Tryz.prog.info? e = some i) (hz : i.zero = some z) (hsize : i.size = size) (hby : i.bytes = bytes) (hzs : z.cells.size = size) (hsz : 0 < size)
 (A : Option Addr) (n c : Nat) (xs : List Value) (hs : a.eval s = .slice A n c) (hown : w.ownsRow base e size (.slice A n c) n xs) (X : Option Addr) (m cx : Nat) (news : List Value) (hx : a.eval x = .slice X m cx) (hl : news.length = m * size)
 (hnews : m ≠ 0 → ∃ ad, X = some ad ∧ ∀ j u, news[j]? = some u → w.cell? (ad.add j) = some u) (h1 : ∀ u ∈ news, u.oneCell' = true) (h63 : n + m ≤ maxLen) (hbytes : (n + m) * bytes ≤ 140737488355328) (hbase : base ≤ w.heap.size)
 (h : ∀ A' c' w', w'.ownsRow base e size (.slice A' (n + m) c') (n + m) (xs ++ news) → Only (Value.slice A n c).ownBlock.toList w w' → (∀ g, (Value.slice A' (n + m) c').ownBlock = some g → (Value.slice A n c).ownBlock = some g ∨ w.heap.size ≤ g) → wpList Tryz.prog ops Q rest (a.put o.dst (.slice A' (n + m) c')) w') :
 wpList Tryz.prog ops Q (o :: rest) a w := by
 by_cases hm : m = 0
 ·subst hm
  have hnil : news = [] := List.length_eq_zero_iff.1 (by rw [hl, Nat.zero_mul])
  subst hnil
  have hnc : n ≤ c ∧ (A = none → n = 0) := by
   rcases hown.2 with ⟨hv, h0⟩ | ⟨g, cap, cur, hv, hb, hg, h3, h4⟩
   ·injection hv with _ _ hc
    exact ⟨by omega, fun _ => h0⟩
   ·injection hv with hA _ hc
    subst hc
    exact ⟨h3, fun e => by rw [hA] at e; cases e⟩
  have hr := app_none ht hi o.type A X n c cx hnc.1 hnc.2 w
  refine wpList_plain hgd fun _ hK => ?_
  unfold Oper.wp execOp
  simp only [ho, resolve, invoke, builtin, Sem.run_bind, Sem.run_pure, Result.andThen_ok, List.map_toArray, List.map_cons, List.map_nil, hs, hx, hr]
  refine hK _ _ (h A c w ?_ (Only.refl _ _) fun g hg => .inl hg)
  rw [List.append_nil]
  exact hown
 ·obtain ⟨ad, rfl, hn⟩ := hnews hm
  refine wpList_append_lies w hgd s x t ho base e i z size bytes ht hi hz hsize hby hzs hsz (.slice A n c) n xs hs hown ad m cx news hx hl hn h1 (by omega) h63 hbytes hbase w.heap.size rfl fun g cap w' h2 h3 h4 h5 => ?_
  refine h (some ⟨g, 0, none⟩) cap w' h2 (Only.of_grown h3) fun g' hg' => ?_
  injection hg' with hg'
  subst hg'
  rcases h4 with h4 | h4
  ·exact .inl h4
  ·exact .inr (by rw [h4]; exact Nat.le_refl _)
def IR (w : World) (base : Nat) (v : Value) (xs : List Int) : Prop := w.ownsRow base 3 1 v xs.length (xs.map fun z => Value.int .i64 z)
theorem IR.nil (w : World) (base : Nat) : IR w base (.slice none 0 0) [] := ⟨rfl, .inl ⟨rfl, rfl⟩⟩
theorem IR.only {S : List Nat} {w w' : World} {base : Nat} {v : Value} {xs : List Int} (h : IR w base v xs) (o : Only S w w') (hS : ∀ g, v.ownBlock = some g → g ∉ S) : IR w' base v xs := Row.only h o hS
theorem IR.same {w w' : World} {base : Nat} {v : Value} {xs : List Int} (h : IR w base v xs) (o : Only [] w w') : IR w' base v xs := h.only o (by simp)
theorem IR.slice {w : World} {base : Nat} {v : Value} {xs : List Int} (h : IR w base v xs) : ∃ A cap, v = .slice A xs.length cap ∧ Lies w A xs := by
 rcases h.2 with ⟨hv, h0⟩ | ⟨g, cap, cur, hv, _, hg, _⟩
 ·refine ⟨none, 0, by rw [hv, h0], fun k z hz => ?_⟩
  rw [List.length_eq_zero_iff.1 h0] at hz
  simp at hz
 ·refine ⟨some ⟨g, 0, none⟩, cap, hv, fun k z hz => ⟨g, rfl, ?_, cur, hg⟩⟩
  have hr := h
  unfold IR at hr
  rw [hv] at hr
  exact Row.cell hr k _ (by rw [List.getElem?_map, hz]; rfl)
theorem IR.block {w : World} {base : Nat} {v : Value} {xs : List Int} (h : IR w base v xs) {g : Nat} (hg : v.ownBlock = some g) : base ≤ g ∧ g < w.heap.size := Row.block h hg
theorem IR.made {w : World} {base g : Nat} {z : Int} (h : Bk w g 3 #[.int .i64 z]) (hb : base ≤ g) : IR w base (.slice (some ⟨g, 0, none⟩) 1 1) [z] :=
 ⟨rfl, .inr ⟨g, 1, #[.int .i64 z], rfl, hb, h, Nat.le_refl _, by unfold maxLen; omega, rfl, rfl⟩⟩
theorem ints_one (xs : List Int) : ∀ u ∈ xs.map (fun z => Value.int .i64 z), u.oneCell' = true := fun u hu => by
 obtain ⟨z, _, rfl⟩ := List.mem_map.1 hu
 rfl
theorem lies_news {w : World} {A : Option Addr} {bs : List Int} (h : Lies w A bs) : bs.length ≠ 0 → ∃ ad, A = some ad ∧ ∀ j u, (bs.map fun z => Value.int .i64 z)[j]? = some u → w.cell? (ad.add j) = some u := fun hne => by
 obtain ⟨z, hz⟩ : ∃ z, bs[0]? = some z := ⟨_, List.getElem?_eq_getElem (by omega)⟩
 obtain ⟨g, h1, _⟩ := h 0 z hz
 refine ⟨⟨g, 0, none⟩, h1, fun j u hj => ?_⟩
 rw [List.getElem?_map] at hj
 obtain ⟨y, hy, rfl⟩ := Option.map_eq_some_iff.1 hj
 obtain ⟨g', h2, h3, _⟩ := h j y hy
 rw [h1] at h2
 injection h2 with h2
 injection h2 with h2
 subst h2
 have hadd : (⟨g, 0, none⟩ : Addr).add j = ⟨g, j, none⟩ := by unfold Addr.add; split <;> simp_all
 rw [hadd]
 exact h3
theorem wpList_app1 {w : World} {ops : Array Oper} {rest : List Oper} {o : Oper} {a : Act} {Q : Exit → Act → World → Prop} (hgd : o.guard = none) (s x : Operand) (ho : o.op = .call { callee := .builtin .append, args := #[s, x], argTypes := #[74, 74] })
 (base : Nat) (A : Option Addr) (n c : Nat) (xs : List Int) (hs : a.eval s = .slice A n c) (hown : IR w base (.slice A n c) xs) (hn : xs.length = n) (g : Nat) (z : Int) (hx : a.eval x = .slice (some ⟨g, 0, none⟩) 1 1) (hb : Bk w g 3 #[.int .i64 z]) (hl : n ≤ 1000000) (hbase : base ≤ w.heap.size)
 (h : ∀ A' c' w', IR w' base (.slice A' (n + 1) c') (xs ++ [z]) → Only (Value.slice A n c).ownBlock.toList w w' → (∀ g, (Value.slice A' (n + 1) c').ownBlock = some g → (Value.slice A n c).ownBlock = some g ∨ w.heap.size ≤ g) → wpList Tryz.prog ops Q rest (a.put o.dst (.slice A' (n + 1) c')) w') :
 wpList Tryz.prog ops Q (o :: rest) a w := by
 obtain ⟨i, hi, hz, hz1, hz2⟩ := qinfo qint_info
 subst hn
 refine wpList_appAny hgd s x _ ho base 3 i _ 1 8 Tryz.underlying74 hi hz hz1 hz2 rfl (by omega) A xs.length c _ hs hown (some ⟨g, 0, none⟩) 1 1 [.int .i64 z] hx rfl (fun _ => ⟨_, rfl, World.news_of_block hb⟩) (by simp [Value.oneCell']) (by unfold maxLen; omega) (by omega) hbase fun A' c' w' h1 h2 h3 => h A' c' w' ?_ h2 h3
 unfold IR
 simp only [List.length_append, List.length_singleton, List.map_append, List.map_cons, List.map_nil]
 exact h1
theorem wpList_appL {w : World} {ops : Array Oper} {rest : List Oper} {o : Oper} {a : Act} {Q : Exit → Act → World → Prop} (hgd : o.guard = none) (s x : Operand) (ho : o.op = .call { callee := .builtin .append, args := #[s, x], argTypes := #[74, 74] })
 (base : Nat) (A : Option Addr) (n c : Nat) (xs : List Int) (hs : a.eval s = .slice A n c) (hown : IR w base (.slice A n c) xs) (hn : xs.length = n) (B : Option Addr) (m cm : Nat) (ys : List Int) (hx : a.eval x = .slice B m cm) (hm : ys.length = m) (hy : Lies w B ys) (hl : n + m ≤ 1000000) (hbase : base ≤ w.heap.size)
 (h : ∀ A' c' w', IR w' base (.slice A' (n + m) c') (xs ++ ys) → Only (Value.slice A n c).ownBlock.toList w w' → (∀ g, (Value.slice A' (n + m) c').ownBlock = some g → (Value.slice A n c).ownBlock = some g ∨ w.heap.size ≤ g) → wpList Tryz.prog ops Q rest (a.put o.dst (.slice A' (n + m) c')) w') :
 wpList Tryz.prog ops Q (o :: rest) a w := by
 obtain ⟨i, hi, hz, hz1, hz2⟩ := qinfo qint_info
 subst hn hm
 refine wpList_appAny hgd s x _ ho base 3 i _ 1 8 Tryz.underlying74 hi hz hz1 hz2 rfl (by omega) A xs.length c _ hs hown B ys.length cm (ys.map fun z => Value.int .i64 z) hx (by simp) (lies_news hy) (ints_one ys) (by unfold maxLen; omega) (by omega) hbase fun A' c' w' h1 h2 h3 => h A' c' w' ?_ h2 h3
 unfold IR
 rw [List.length_append, List.map_append]
 exact h1
open Go.RowKit
def HasRel (w : World) (bs : List Int) (n : Int) (v : Value) (wr : World) : Prop := ∃ k : Nat, v = .int .i64 (k : Int) ∧ k ≤ bs.length ∧ (∀ j z, j < k → bs[j]? = some z → z ≠ n) ∧ w = wr
theorem phas_any (A : Option Addr) (cap : Nat) (bs : List Int) (n : Int) (b : Bool) (w : World) (h : Lies w A bs) (hl : bs.length ≤ 1024) (hb : decide (n ∈ bs) = b) : Calls Tryz.prog 118 #[.slice A bs.length cap, .int .i64 n] w fun e w' => e = .returned (.bool b) ∧ w = w' := by
 have H := Lib.hid h
 have HB := Lib.hid hb
 clear h hb
 go_enter Tryz.func118, Tryz.ntmps118
 go_wp2_with fail
 go_loopw [5] (fun v wr => HasRel w bs n v wr) (fun v _ => bs.length - (intOf v).toNat)
 case atStart => exact ⟨0, rfl, Nat.zero_le _, fun j z hj _ => absurd hj (Nat.not_lt_zero _), rfl⟩
 case round =>
  obtain ⟨k, rfl, hk, hn, rfl⟩ := hrel
  by_cases hk3 : k < bs.length
  ·obtain ⟨z, hz⟩ : ∃ z, bs[k]? = some z := ⟨_, List.getElem?_eq_getElem hk3⟩
   obtain ⟨g, rfl, c, _⟩ := H.out k z hz
   have c' : w.cell? ⟨g, 0 + k, none⟩ = some (.int .i64 z) := by rw [Nat.zero_add]; exact c
   have p1 : (k : Int) < (bs.length : Int) := by omega
   have p2 : 0 ≤ (k : Int) := by omega
   by_cases he : z = n
   ·subst he
    have HE := Lib.hid (show true = b from by rw [← HB.out, decide_eq_true (List.mem_of_getElem? hz)])
    clear hn hz
    go_wp2_with fail
    go_ret
    exact ⟨ret_bool HE.out, rfl⟩
   ·have e1 : (z == n) = false := by simpa using he
    have HR := Lib.hid (show HasRel w bs n (.int .i64 ((k : Int) + 1)) w from ⟨k + 1, by go_num, by omega, fun j y hj hy => by
     rcases Nat.lt_succ_iff_lt_or_eq.1 hj with hj | rfl
     ·exact hn j y hj hy
     ·rw [hz] at hy
      injection hy with hy
      rw [← hy]; exact he, rfl⟩)
    have q1 : IntKind.i64.wrap ((k : Int) + 1) = (k : Int) + 1 := IntWalk.i64_in _ (by omega)
    clear hn hz he
    go_wp2_with fail
    go_roundw
    case rel => exact HR.out
    case measure => simp [intOf]; omega
  ·have p1 : ¬ (k : Int) < (bs.length : Int) := by omega
   have HN := Lib.hid (show false = b from by
    rw [← HB.out, decide_eq_false]
    intro hm
    obtain ⟨j, hj, e⟩ := List.getElem_of_mem hm
    exact hn j n (by omega) (by rw [List.getElem?_eq_getElem hj, e]) rfl)
   clear hn
   go_wp2_with fail
   go_ret
   exact ⟨ret_bool HN.out, rfl⟩
theorem flat_length {α β : Type} {f : α → List β} {k : Nat} (hf : ∀ x, (f x).length = k) : ∀ l : List α, (l.flatMap f).length = l.length * k
 | [] => by simp
 | x :: l => by rw [List.flatMap_cons, List.length_append, hf, flat_length hf l, List.length_cons, Nat.succ_mul, Nat.add_comm]
theorem rowV_news {α : Type} {f : α → List D} {w : World} {F : Nat → Prop} {l : List α} {X : Option Addr} {m c : Nat} (h : RowV f w F l (.slice X m c)) : m = l.length ∧ ∃ xs, DVs w F (l.flatMap f) xs ∧ (m ≠ 0 → ∃ ad, X = some ad ∧ ∀ j u, xs[j]? = some u → w.cell? (ad.add j) = some u) := by
 unfold RowV at h
 simp only [DV] at h
 obtain ⟨A, cap, hv, _, _, h4⟩ := h
 injection hv with hA hm _
 subst hA hm
 refine ⟨rfl, ?_⟩
 rcases h4 with ⟨h4, h5⟩ | ⟨bl, off, rfl, _, _, hvs⟩
 ·exact ⟨[], by rw [h5]; rfl, fun h => absurd h4 h⟩
 ·obtain ⟨xs, h5, h6⟩ := DCs.dvs hvs
  refine ⟨xs, h5, fun _ => ⟨_, rfl, fun j u hj => ?_⟩⟩
  have hadd : (⟨bl, off, none⟩ : Addr).add j = ⟨bl, off + j, none⟩ := by unfold Addr.add; split <;> simp_all
  rw [hadd]
  exact h6 j u hj
theorem rowV_of_row {α : Type} {f : α → List D} {w : World} {F : Nat → Prop} {l : List α} {xs : List Value} {A : Option Addr} {c base k : Nat} {e : TypeId} (hr : w.ownsRow base e k (.slice A l.length c) l.length xs) (hp : DVs w F (l.flatMap f) xs) : RowV f w (fun b => F b ∨ (Value.slice A l.length c).ownBlock = some b) l (.slice A l.length c) := by
 unfold RowV
 simp only [DV]
 have hc := @Row.cell w base e k
 rcases hr.2 with ⟨hv, h0⟩ | ⟨g, cap, cur, hv, hb, hg, h3, h4, _⟩
 ·injection hv with hA _ hcc
  subst hA hcc
  have h0 : l.length = 0 := h0
  exact ⟨none, 0, rfl, by omega, by omega, .inl ⟨h0, by rw [List.length_eq_zero_iff.1 h0]; rfl⟩⟩
 ·injection hv with hA _ hcc
  subst hA hcc
  refine ⟨some ⟨g, 0, none⟩, c, rfl, h3, h4, .inr ⟨g, 0, rfl, Bk.lt (t := e) (cs := cur) hg, .inr rfl, DVs.dcs (hp.more fun _ h => .inl h) fun j u hj => ?_⟩⟩
  rw [Nat.zero_add]
  exact hc hr j u hj
theorem info_pat : (Tryz.prog.info? 88).map (fun i => (i.zero, i.size, i.bytes)) = some (some (.agg #[.int .i64 0, .int .i64 0, .int .i64 0, .int .i64 0, .complex .f64 0 0, .string ⟨#[]⟩, .int .i64 0, .int .i64 0, .slice none 0 0, .slice none 0 0, .slice none 0 0]), 11, 152) := by kernel_rfl
theorem q_ones (l : List QT) : ∀ d ∈ l.flatMap QT.ds, d.One := fun d hd => by
 obtain ⟨t, -, h⟩ := List.mem_flatMap.1 hd
 exact qds_one t d h
theorem kids_any (k n : Int) (tt : T) (st : Value) (A B : Option Addr) (m c m2 c2 : Nat) (l r : List QT) (F : Nat → Prop) (w : World) (hl : QL w F l (.slice A m c)) (hr : QL w F r (.slice B m2 c2)) (hs : l.length + r.length ≤ 524288) :
 Calls Tryz.prog 119 #[.agg (qcs k n tt st (.slice A m c) (.slice B m2 c2))] w fun e w' => (∃ A' c' F', e = .returned (.slice A' (l.length + r.length) c') ∧ QL w' F' (l ++ r) (.slice A' (l.length + r.length) c') ∧ (∀ b, F' b → F b ∨ (w.heap.size ≤ b ∧ b < w'.heap.size))) ∧ Only [] w w' := by
 have rs := store_com
 obtain ⟨rfl, xs, hx, hxn⟩ := rowV_news hl
 obtain ⟨rfl, ys, hy, hyn⟩ := rowV_news hr
 obtain ⟨i, hi, hz, hz1, hz2⟩ := qinfo info_pat
 have o0 : Only [] w (w.alloc (.cells (qcs k n tt st (.slice A l.length c) (.slice B r.length c2)) 88)) := (Only.refl [] w).alloc _
 have ol : ∀ {X : Option Addr} {zs : List Value} {q : Nat} {w' : World}, (q ≠ 0 → ∃ ad, X = some ad ∧ ∀ j u, zs[j]? = some u → w.cell? (ad.add j) = some u) → Only [] w w' → (q ≠ 0 → ∃ ad, X = some ad ∧ ∀ j u, zs[j]? = some u → w'.cell? (ad.add j) = some u) := fun h o hq => by
  obtain ⟨ad, h1, h2⟩ := h hq
  refine ⟨ad, h1, fun j u hj => ?_⟩
  have := h2 j u hj
  refine (o.cell (p := ad.add j) ?_ (by simp)).trans this
  apply Nat.lt_of_not_le
  intro hle
  unfold World.cell? at this
  rw [Array.getElem?_eq_none hle] at this
  simp at this
 have B0 := Lib.hid (Bk.made w 88 (qcs k n tt st (.slice A l.length c) (.slice B r.length c2)))
 have O0 := Lib.hid o0
 have HX := Lib.hid hx
 have HY := Lib.hid hy
 have XN := Lib.hid (ol hxn o0)
 have YN := Lib.hid (fun w' (o : Only [] w w') => ol hyn o)
 have hlx : xs.length = l.length * 11 := by rw [DVs.len hx, flat_length qds_len]
 have hly : ys.length = r.length * 11 := by rw [DVs.len hy, flat_length qds_len]
 have h63 : 0 + l.length ≤ maxLen := by unfold maxLen; omega
 have h64 : l.length + r.length ≤ maxLen := by unfold maxLen; omega
 clear hl hr hx hy hxn hyn ol o0
 go_enter Tryz.func119, Tryz.ntmps119
 go_wp2_with (at_builtin; first
  | (refine wpList_appAny (by rfl) _ _ _ (by rfl) (w.heap.size + 1) 88 i _ 11 152 Tryz.underlying86 hi hz hz1 hz2 rfl (by omega) none 0 0 [] (by rfl) ⟨rfl, .inl ⟨rfl, rfl⟩⟩ A l.length c xs (by rfl) hlx XN.out (DVs.one HX.out (q_ones l)) h63 (by omega) (by simp) ?_; intro A1 c1 w1 h1 o1 g1; have H1 := Lib.hid (show w1.ownsRow (w.heap.size + 1) 88 11 (.slice A1 l.length c1) l.length xs from by simpa using h1); have O1 := Lib.hid (O0.out.trans o1 (by simp [Value.ownBlock])); have B1 := Lib.hid (B0.out.only o1 (by simp [Value.ownBlock])); have d10 := B1.out.cell0 (i := 10) rfl; have G1 := Lib.hid g1; clear h1 o1 g1)
  | (refine wpList_appAny (by rfl) _ _ _ (by rfl) (w.heap.size + 1) 88 i _ 11 152 Tryz.underlying86 hi hz hz1 hz2 rfl (by omega) A1 l.length c1 xs (by rfl) H1.out B r.length c2 ys (by rfl) hly (YN.out _ O1.out) (DVs.one HY.out (q_ones r)) h64 (by omega) (by have := B1.out.lt; omega) ?_; intro A2 c3 w2 h2 o2 g2; have H2 := Lib.hid h2; have O2 := Lib.hid o2; clear h2 o2 g2))
 have og := O1.out.trans O2.out (fun i hi => .inr (by
  have := (Row.block H1.out (g := i) (by simpa using hi)).1
  omega))
 have O12 : Only (Value.slice A1 l.length c1).ownBlock.toList w w2 := (O1.out.more (by simp)).trans O2.out (fun i hi => .inl hi)
 have hp := DVs.app (DVs.only og (by simp) (fun _ h => h) HY.out) (DVs.only og (by simp) (fun _ h => h) HX.out)
 rw [← List.flatMap_append] at hp
 have hq := rowV_of_row (l := l ++ r) (e := 88) (k := 11) (base := w.heap.size + 1) (by rw [List.length_append]; exact H2.out) hp
 rw [List.length_append] at hq
 have HQ := Lib.hid hq
 have OG := Lib.hid og
 have HFb := Lib.hid (show ∀ b, (Value.slice A2 (l.length + r.length) c3).ownBlock = some b → w.heap.size ≤ b ∧ b < w2.heap.size from fun b hb => by
  have := Row.block H2.out (g := b) hb
  omega)
 clear hq hp og O12
 go_ret
 exact ⟨⟨A2, c3, _, rfl, HQ.out, fun b hb => hb.imp id (HFb.out b)⟩, OG.out⟩
open Go.RowKit
def RWE (w : World) (q : Nat × List Int × Int) (e : Ending) (w' : World) : Prop := ∃ A' cap', e = .returned (.tuple #[.agg #[.int .i64 q.1, .slice A' q.2.1.length cap'], .int .i64 q.2.2]) ∧ Lies w' A' q.2.1 ∧ Only [] w w'
def RWOk (L : Int) (t : QT) : Prop := ∀ (st sl sr : Value) (F : Nat → Prop) (met : Nat) (bs : List Int) (deep : Nat) (A : Option Addr) (cap : Nat) (w : World), PV w F t st sl sr → (∀ b, F b → b < w.heap.size) → Lies w A bs → bs.length ≤ met → met ≤ 1024 → deep ≤ 64 →
 Calls Tryz.prog 102 #[.agg (qcs t.k t.n t.tm st sl sr), .int .i64 L, .agg #[.int .i64 met, .slice A bs.length cap], .int .i64 deep] w fun e w' => RWE w (qthr L t met bs deep) e w'
theorem RWOk.use {L : Int} {t : QT} (h : RWOk L t) {st sl sr : Value} {F : Nat → Prop} {met : Nat} {bs : List Int} {deep : Nat} {A : Option Addr} {cap : Nat} {D : Int} {w : World} {q : Nat × List Int × Int} (h1 : PV w F t st sl sr) (h2 : ∀ b, F b → b < w.heap.size) (h3 : Lies w A bs) (h6 : bs.length ≤ met) (h7 : met ≤ 1024) (h8 : deep ≤ 64) (hD : D = (deep : Int)) (hq : qthr L t met bs deep = q) :
 Calls Tryz.prog 102 #[.agg #[.int .i64 t.k, .int .i64 t.n, .int .i64 t.tm.k, .int .i64 t.tm.n, .complex .f64 t.tm.x t.tm.y, .string t.tm.S, .int .i64 t.tm.a, .int .i64 t.tm.b, st, sl, sr], .int .i64 L, .agg #[.int .i64 met, .slice A bs.length cap], .int .i64 D] w fun e w' => RWE w q e w' := by
 subst hD hq
 exact h st sl sr F met bs deep A cap w h1 h2 h3 h6 h7 h8
theorem rw_full (L k n : Int) (tt : T) (st sl sr : Value) (met : Nat) (bs : List Int) (deep : Nat) (A : Option Addr) (cap : Nat) (w : World) (hA : Lies w A bs) (hm : met ≤ 1024) (hd : deep ≤ 64) (hc : 1024 ≤ met ∨ 64 ≤ deep) :
 Calls Tryz.prog 102 #[.agg (qcs k n tt st sl sr), .int .i64 L, .agg #[.int .i64 met, .slice A bs.length cap], .int .i64 deep] w fun e w' => RWE w (met, bs, 34) e w' := by
 have HA := Lib.hid hA
 clear hA
 by_cases h1 : 1024 ≤ met
 ·have p1 : (1024 : Int) ≤ (met : Int) := by omega
  clear hc
  go_enter Tryz.func102, Tryz.ntmps102
  go_wp2_with fail
  exact bodyPost_ret (v := .tuple #[.agg #[.int .i64 met, .slice A bs.length cap], .int .i64 34]) (by simp [results, Tryz.results102, go_sem]) rfl ⟨A, cap, rfl, HA.out.same ((((Only.refl [] w).alloc _).alloc _).alloc _), (((Only.refl [] w).alloc _).alloc _).alloc _⟩
 ·have p1 : ¬ (1024 : Int) ≤ (met : Int) := by omega
  have p2 : (64 : Int) ≤ (deep : Int) := by omega
  clear hc h1
  go_enter Tryz.func102, Tryz.ntmps102
  go_wp2_with fail
  exact bodyPost_ret (v := .tuple #[.agg #[.int .i64 met, .slice A bs.length cap], .int .i64 34]) (by simp [results, Tryz.results102, go_sem]) rfl ⟨A, cap, rfl, HA.out.same ((((Only.refl [] w).alloc _).alloc _).alloc _), (((Only.refl [] w).alloc _).alloc _).alloc _⟩
theorem Lies.seen {w : World} {A : Option Addr} {bs : List Int} {b : Nat} {cs : Array Value} (h : Lies w A bs) (hb : Bk w b 163 cs) (i : Nat) (v : Value) : Lies (w.setCell ⟨b, i, none⟩ v) A bs := fun k z hz => by
 obtain ⟨g, h1, h2, cs2, h3⟩ := h k z hz
 have hne : g ≠ b := h3.apart hb (by decide)
 have o1 : Only [b] w (w.setCell ⟨b, i, none⟩ v) := (Only.refl [b] w).set (.inl (by simp)) _
 exact ⟨g, h1, (o1.cell (p := ⟨g, k, none⟩) h3.lt (by simpa using hne)).trans h2, cs2, h3.only o1 (by simpa using hne)⟩
theorem rw_no1 (L k n : Int) (tt : T) (st sl sr : Value) (met : Nat) (bs : List Int) (deep : Nat) (A : Option Addr) (cap : Nat) (w : World) (hA : Lies w A bs) (hm : met < 1024) (hd : deep < 64)
 (hM : ∀ w1, Only [] w w1 → Calls Tryz.prog 117 #[.agg (qcs k n tt st sl sr), .int .i64 L] w1 fun e w' => e = .returned (.bool false) ∧ Only [] w1 w') :
 Calls Tryz.prog 102 #[.agg (qcs k n tt st sl sr), .int .i64 L, .agg #[.int .i64 met, .slice A bs.length cap], .int .i64 deep] w fun e w' => RWE w (met, bs, 50) e w' := by
 have rs := store_com
 have HA := Lib.hid hA
 have HM := Lib.hid hM
 have p1 : ¬ (1024 : Int) ≤ (met : Int) := by omega
 have p2 : ¬ (64 : Int) ≤ (deep : Int) := by omega
 have O0 := Lib.hid ((((Only.refl [] w).alloc (.cells (qcs k n tt st sl sr) 88)).alloc (.cells #[.int .i64 met, .slice A bs.length cap] 163)).alloc (.cells #[.int .i64 0, .slice none 0 0] 163))
 have B6 := Lib.hid ((Bk.madeAt (w := w.alloc (.cells (qcs k n tt st sl sr) 88)) (t := 163) (cs := #[.int .i64 met, .slice A bs.length cap]) (b := w.heap.size + 1) (by simp)).alloc (.cells #[.int .i64 0, .slice none 0 0] 163))
 have B8 := Lib.hid (Bk.madeAt (w := (w.alloc (.cells (qcs k n tt st sl sr) 88)).alloc (.cells #[.int .i64 met, .slice A bs.length cap] 163)) (t := 163) (cs := #[.int .i64 0, .slice none 0 0]) (b := w.heap.size + 1 + 1) (by simp))
 clear hA hM
 go_enter Tryz.func102, Tryz.ntmps102
 go_wp2_with fail
 (with_reducible refine (HM.out _ O0.out).mono ?_)
 rintro e w1 ⟨rfl, o1⟩
 have O1 := Lib.hid (O0.out.trans o1 (by simp))
 have C6 := Lib.hid (B6.out.only o1 (by simp))
 have C8 := Lib.hid (B8.out.only o1 (by simp))
 have y0 := C6.out.cell0 (i := 0) rfl
 have y1 := C6.out.cell0 (i := 1) rfl
 have t0 := C8.out.cell0 (i := 0) rfl
 have t1 := C8.out.cell0 (i := 1) rfl
 have tf := C8.out.free
 clear o1
 go_wp2_with fail
 have f8 := (C8.out.set 0 (.int .i64 met)).set 1 (.slice A bs.length cap)
 have OF := Lib.hid ((O1.out.set (p := ⟨w.heap.size + 1 + 1, 0, none⟩) (.inr (by show w.heap.size ≤ w.heap.size + 1 + 1; omega)) (.int .i64 met)).set (p := ⟨w.heap.size + 1 + 1, 1, none⟩) (.inr (by show w.heap.size ≤ w.heap.size + 1 + 1; omega)) (.slice A bs.length cap))
 have LF := Lib.hid (((HA.out.same O1.out).seen C8.out 0 (.int .i64 met)).seen (C8.out.set 0 (.int .i64 met)) 1 (.slice A bs.length cap))
 generalize (w1.setCell ⟨w.heap.size + 1 + 1, 0, none⟩ (.int .i64 met)).setCell ⟨w.heap.size + 1 + 1, 1, none⟩ (.slice A bs.length cap) = W8 at *
 have g0 : W8.cell? ⟨w.heap.size + 1 + 1, 0, none⟩ = some (.int .i64 met) := f8.cell0 rfl
 have g1 : W8.cell? ⟨w.heap.size + 1 + 1, 1, none⟩ = some (.slice A bs.length cap) := f8.cell0 rfl
 exact bodyPost_ret (v := .tuple #[.agg #[.int .i64 met, .slice A bs.length cap], .int .i64 50]) (by simp [results, Tryz.results102, go_sem, g0, g1]) rfl ⟨A, cap, rfl, LF.out, OF.out⟩
theorem Lies.own {w : World} {A : Option Addr} {bs : List Int} {c base : Nat} (h : w.ownsRow base 3 1 (.slice A bs.length c) bs.length (bs.map fun z => Value.int .i64 z)) : Lies w A bs := fun k z hz => by
 rcases h.2 with ⟨hv, h0⟩ | ⟨g, cap, cur, hv, _, hg, _⟩
 ·rw [List.length_eq_zero_iff.1 h0] at hz
  simp at hz
 ·injection hv with hA _ hc
  subst hA hc
  exact ⟨g, rfl, Row.cell h k _ (by rw [List.getElem?_map, hz]; rfl), cur, hg⟩
end Go.Proofs.YtcdefnbehlcgeaaGreatDoor
