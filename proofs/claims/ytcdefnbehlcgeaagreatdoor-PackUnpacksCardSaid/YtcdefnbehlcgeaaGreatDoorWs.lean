/- Patterns in memory as data; what Check makes of them (pure): for so many locals.. pattern: isZero, isLeaf, isKind, slices.Contains, isFree: of any pattern that bytes give.. -/
import Derived.Test.YtcdefnbehlcgeaaGreatDoorWg
import Derived.Test.YtcdefnbehlcgeaaGreatDoorWr
import Derived.LoopNIn
set_option maxHeartbeats 1000000
set_option maxRecDepth 20000
set_option linter.unusedSimpArgs false
namespace Go.Proofs.YtcdefnbehlcgeaaGreatDoor
open Go.RowKit
/-! ### Rows of things -/
def RowV {α : Type} (f : α → List D) (w : World) (F : Nat → Prop) (l : List α) (u : Value) : Prop := DV w F (.sl l.length (l.flatMap f)) u
theorem DCs.row {α : Type} {f : α → List D} {c : Nat} (hf : ∀ x, (f x).length = c) {w : World} {F : Nat → Prop} {bl : Nat} : ∀ {l : List α} {off : Nat}, DCs w F (l.flatMap f) bl off → ∀ i x, l[i]? = some x → ∃ us, DVs w F (f x) us ∧ ∀ j u, us[j]? = some u → w.cell? ⟨bl, off + i * c + j, none⟩ = some u
 | [], _, _, i, x, hi => by simp at hi
 | y :: l, off, h, i, x, hi => by
  rw [List.flatMap_cons] at h
  obtain ⟨g1, g2⟩ := DCs.split h
  rw [hf] at g2
  cases i with
  | zero =>
   simp at hi
   subst hi
   obtain ⟨us, h1, h2⟩ := DCs.dvs g1
   exact ⟨us, h1, fun j u hj => by rw [Nat.zero_mul, Nat.add_zero]; exact h2 j u hj⟩
  | succ i =>
   obtain ⟨us, h1, h2⟩ := DCs.row hf g2 i x (by simpa using hi)
   exact ⟨us, h1, fun j u hj => by rw [Nat.succ_mul, show off + (i * c + c) + j = off + c + i * c + j by omega]; exact h2 j u hj⟩
theorem RowV.mk {α : Type} {f : α → List D} {c : Nat} (hf : ∀ x, (f x).length = c) {w : World} {F : Nat → Prop} {l : List α} {u : Value} (h : RowV f w F l u) :
 ∃ (A : Option Addr) (cap : Nat), u = .slice A l.length cap ∧ l.length ≤ cap ∧ cap ≤ 9223372036854775807 ∧ (l = [] ∨ ∃ bl off, A = some ⟨bl, off, none⟩ ∧ bl < w.heap.size ∧ F bl ∧ ∀ i x, l[i]? = some x → ∃ us, DVs w F (f x) us ∧ ∀ j u, us[j]? = some u → w.cell? ⟨bl, off + i * c + j, none⟩ = some u) := by
 unfold RowV at h
 simp only [DV] at h
 obtain ⟨A, cap, h1, h2, h3, h4⟩ := h
 refine ⟨A, cap, h1, h2, h3, ?_⟩
 rcases h4 with ⟨h4, -⟩ | ⟨bl, off, h5, h6, h7, h8⟩
 ·exact .inl (List.length_eq_zero_iff.1 h4)
 ·exact .inr ⟨bl, off, h5, h6, h7, DCs.row hf h8⟩
theorem RowV.nil {α : Type} (f : α → List D) (w : World) (F : Nat → Prop) : RowV f w F [] (.slice none 0 0) := by
 unfold RowV
 simp only [DV]
 exact ⟨none, 0, rfl, Nat.le_refl _, by decide, .inl ⟨rfl, rfl⟩⟩
theorem RowV.slice {α : Type} {f : α → List D} {w : World} {F : Nat → Prop} {l : List α} {u : Value} (h : RowV f w F l u) : ∃ A c, u = .slice A l.length c := by
 unfold RowV at h
 simp only [DV] at h
 obtain ⟨A, cap, h1, -⟩ := h
 exact ⟨A, cap, h1⟩
theorem RowV.only {α : Type} {f : α → List D} {S : List Nat} {w w' : World} {F F' : Nat → Prop} (o : Only S w w') (hS : ∀ b ∈ S, ¬ F b) (hF : ∀ b, F b → F' b) {l : List α} {u : Value} (h : RowV f w F l u) : RowV f w' F' l u := DV.only o hS hF _ _ h
theorem RowV.same {α : Type} {f : α → List D} {w w' : World} {F : Nat → Prop} (o : Only [] w w') {l : List α} {u : Value} (h : RowV f w F l u) : RowV f w' F l u := h.only o (by simp) (fun _ h => h)
/-! ### A pattern's eleven cells -/
def QT.k : QT → Int
 | .zero => 0 | .any => 1 | .var _ => 2 | .term _ => 3 | .kind _ => 4 | .seq k _ _ => k
def QT.n : QT → Int
 | .var n => n | .kind n => n | _ => 0
def QT.tm : QT → T
 | .term t => t | _ => .zero
def QT.l : QT → List QT
 | .seq _ l _ => l | _ => []
def QT.r : QT → List QT
 | .seq _ _ r => r | _ => []
def QT.bd : QT → List Int
 | .var n => [n] | _ => []
abbrev qcs (k n : Int) (t : T) (st sl sr : Value) : Array Value := #[.int .i64 k, .int .i64 n, .int .i64 t.k, .int .i64 t.n, .complex .f64 t.x t.y, .string t.S, .int .i64 t.a, .int .i64 t.b, st, sl, sr]
abbrev QL (w : World) (F : Nat → Prop) (l : List QT) (u : Value) : Prop := RowV QT.ds w F l u
theorem DVs.two {w : World} {F : Nat → Prop} {a b : D} {us : List Value} (h : DVs w F [a, b] us) : ∃ u v, us = [u, v] ∧ DV w F a u ∧ DV w F b v := by
 simp only [DVs] at h
 obtain ⟨u, _, rfl, h0, v, _, rfl, h1, rfl⟩ := h
 exact ⟨u, v, rfl, h0, h1⟩
theorem DVs.split {w : World} {F : Nat → Prop} {b : List D} : ∀ {a : List D} {us : List Value}, DVs w F (a ++ b) us → ∃ x y, us = x ++ y ∧ DVs w F a x ∧ DVs w F b y
 | [], us, h => ⟨[], us, rfl, rfl, h⟩
 | d :: a, us, h => by
  obtain ⟨u, r, rfl, h1, h2⟩ := h
  obtain ⟨x, y, rfl, h3, h4⟩ := DVs.split h2
  exact ⟨u :: x, y, rfl, ⟨u, x, rfl, h1, h3⟩, h4⟩
theorem qD_cells {w : World} {F : Nat → Prop} {k n : Int} {t : T} {a b : D} {us : List Value} (h : DVs w F (qD k n t.ds a b) us) : ∃ st sl sr, us = (qcs k n t st sl sr).toList ∧ TV w F t st ∧ DV w F a sl ∧ DV w F b sr := by
 obtain ⟨x, y, rfl, h1, h2⟩ := DVs.split h
 obtain ⟨x1, x2, rfl, h3, h4⟩ := DVs.split h1
 obtain ⟨u0, u1, rfl, h5, h6⟩ := DVs.two h3
 obtain ⟨st, rfl, h7⟩ := tv_of t _ h4
 obtain ⟨sl, sr, rfl, h8, h9⟩ := DVs.two h2
 obtain rfl := DV.v.1 h5
 obtain rfl := DV.v.1 h6
 exact ⟨st, sl, sr, rfl, h7, h8, h9⟩
theorem noD_ql {w : World} {F : Nat → Prop} {u : Value} (h : DV w F noD u) : QL w F [] u := by
 rw [DV.v.1 h]
 exact RowV.nil _ _ _
theorem q_cells {w : World} {F : Nat → Prop} (p : QT) {us : List Value} (h : DVs w F p.ds us) : ∃ st sl sr, us = (qcs p.k p.n p.tm st sl sr).toList ∧ TV w F p.tm st ∧ QL w F p.l sl ∧ QL w F p.r sr := by
 cases p <;> (simp only [QT.ds] at h; obtain ⟨st, sl, sr, rfl, h1, h2, h3⟩ := qD_cells h; refine ⟨st, sl, sr, rfl, h1, ?_, ?_⟩)
 all_goals first
  | exact noD_ql h2
  | exact noD_ql h3
  | (rw [qdss_flat] at h2; exact h2)
  | (rw [qdss_flat] at h3; exact h3)
/-! ### Which bytes give -/
mutual
def QT.Good : QT → Prop
 | .zero => False
 | .any => True
 | .var n => 0 ≤ n
 | .term t => t.Good
 | .kind n => 0 ≤ n
 | .seq k l r => (k = 5 ∧ r = [] ∨ k = 6) ∧ l.length ≤ 262144 ∧ r.length ≤ 1 ∧ QGoods l ∧ QGoods r
def QGoods : List QT → Prop
 | [] => True
 | t :: l => t.Good ∧ QGoods l
end
theorem QGoods.iff {l : List QT} : QGoods l ↔ ∀ t ∈ l, t.Good := by
 induction l with
 | nil => simp [QGoods]
 | cons t l ih => simp [QGoods, ih]
theorem QT.Good.l {p : QT} (h : p.Good) : QGoods p.l := by
 cases p with
 | seq k l r => exact h.2.2.2.1
 | _ => trivial
theorem QT.Good.r {p : QT} (h : p.Good) : QGoods p.r := by
 cases p with
 | seq k l r => exact h.2.2.2.2
 | _ => trivial
theorem QT.Good.len {p : QT} (h : p.Good) : p.l.length ≤ 262144 ∧ p.r.length ≤ 1 := by
 cases p with
 | seq k l r => exact ⟨h.2.1, h.2.2.1⟩
 | _ => exact ⟨Nat.zero_le _, Nat.zero_le _⟩
theorem rPat_good {s : ByteArray} (hs : s.size ≤ 262144) : ∀ {d p : Nat} {t : QT} {q : Nat}, rPat s d p = .ok t q → t.Good
 | 0, p, t, q, h => by cases h
 | d + 1, p, t, q, h => by
  simp only [rPat] at h
  cases hk : rOne 6 s p with
  | bad u => rw [hk] at h; cases h
  | ok k u =>
   rw [hk] at h
   have hk6 := rOne_bd hk
   simp only [Rs.bind, rPK] at h
   split at h
   ·injection h with h1 h2; subst h1; trivial
   split at h
   ·obtain ⟨n, h1, rfl⟩ := map_ok h
    show (0 : Int) ≤ (n : Int)
    omega
   split at h
   ·obtain ⟨x, h1, rfl⟩ := map_ok h
    exact rTerm_good hs h1
   split at h
   ·obtain ⟨n, h1, rfl⟩ := map_ok h
    show (0 : Int) ≤ (n : Int)
    omega
   split at h
   ·obtain ⟨l, h1, rfl⟩ := map_ok h
    obtain ⟨h2, h3⟩ := rSome_all (P := QT.Good) (fun p x q h => rPat_good hs h) h1
    exact ⟨.inl ⟨rfl, rfl⟩, by omega, Nat.zero_le _, QGoods.iff.2 h2, trivial⟩
   ·cases hl : rSome (fun p => rPat s d p) s u with
    | bad v => rw [hl] at h; cases h
    | ok l v =>
     rw [hl] at h
     simp only at h
     obtain ⟨r, h1, rfl⟩ := map_ok h
     obtain ⟨h2, h3⟩ := rSome_all (P := QT.Good) (fun p x q h => rPat_good hs h) hl
     unfold rRest at h1
     cases hf : rFit (fun n q => decide (n ≤ 1 ∧ n ≤ s.size - q)) s v with
     | bad z => rw [hf] at h1; cases h1
     | ok n z =>
      rw [hf] at h1
      simp only [Rs.bind] at h1
      split at h1
      ·injection h1 with h4 h5
       subst h4
       exact ⟨.inr rfl, by omega, Nat.zero_le _, QGoods.iff.2 h2, trivial⟩
      ·obtain ⟨x, h4, rfl⟩ := map_ok h1
       exact ⟨.inr rfl, by omega, Nat.le_refl _, QGoods.iff.2 h2, rPat_good hs h4, trivial⟩
/-! ### What Check makes of one -/
def okQ (L : Int) (bs : List Int) : QT → Bool
 | .zero => false | .any => true | .var n => decide (0 ≤ n) && decide (n < L) && !decide (n ∈ bs) | .term t => decide (t.k ≠ 8) && decide (t.k ≠ 9) && decide (chk t = 0)
 | .kind n => decide (1 ≤ n) && decide (n ≤ 9) | .seq _ _ _ => true
mutual
def qthr (L : Int) : QT → Nat → List Int → Nat → Nat × List Int × Int
 | .seq _ l r, met, bs, deep => if 1024 ≤ met ∨ 64 ≤ deep then (met, bs, 34) else
  if (qthrs L l (met + 1) bs (deep + 1)).2.2 = 0 then qthrs L r (qthrs L l (met + 1) bs (deep + 1)).1 (qthrs L l (met + 1) bs (deep + 1)).2.1 (deep + 1) else qthrs L l (met + 1) bs (deep + 1)
 | .var n, met, bs, deep => if 1024 ≤ met ∨ 64 ≤ deep then (met, bs, 34) else if okQ L bs (.var n) = true then (met + 1, bs ++ [n], 0) else (met, bs, 50)
 | .zero, met, bs, deep => if 1024 ≤ met ∨ 64 ≤ deep then (met, bs, 34) else (met, bs, 50)
 | .any, met, bs, deep => if 1024 ≤ met ∨ 64 ≤ deep then (met, bs, 34) else (met + 1, bs, 0)
 | .term t, met, bs, deep => if 1024 ≤ met ∨ 64 ≤ deep then (met, bs, 34) else if okQ L bs (.term t) = true then (met + 1, bs, 0) else (met, bs, 50)
 | .kind n, met, bs, deep => if 1024 ≤ met ∨ 64 ≤ deep then (met, bs, 34) else if okQ L bs (.kind n) = true then (met + 1, bs, 0) else (met, bs, 50)
def qthrs (L : Int) : List QT → Nat → List Int → Nat → Nat × List Int × Int
 | [], met, bs, _ => (met, bs, 0)
 | t :: l, met, bs, deep => if (qthr L t met bs deep).2.2 = 0 then qthrs L l (qthr L t met bs deep).1 (qthr L t met bs deep).2.1 deep else qthr L t met bs deep
end
section
variable (L : Int)
theorem qthrs_nil (met : Nat) (bs : List Int) (deep : Nat) : qthrs L [] met bs deep = (met, bs, 0) := by simp only [qthrs]
theorem qthrs_cons (t : QT) (l : List QT) (met : Nat) (bs : List Int) (deep : Nat) : qthrs L (t :: l) met bs deep = if (qthr L t met bs deep).2.2 = 0 then qthrs L l (qthr L t met bs deep).1 (qthr L t met bs deep).2.1 deep else qthr L t met bs deep := by simp only [qthrs]
theorem qthrs_app (l r : List QT) (met : Nat) (bs : List Int) (deep : Nat) : qthrs L (l ++ r) met bs deep = if (qthrs L l met bs deep).2.2 = 0 then qthrs L r (qthrs L l met bs deep).1 (qthrs L l met bs deep).2.1 deep else qthrs L l met bs deep := by
 induction l generalizing met bs with
 | nil => simp [qthrs_nil]
 | cons t l ih =>
  rw [List.cons_append, qthrs_cons, qthrs_cons]
  by_cases h : (qthr L t met bs deep).2.2 = 0
  ·rw [if_pos h, if_pos h, ih]
  ·rw [if_neg h, if_neg h, if_neg h]
theorem qthr_full (t : QT) {met : Nat} {bs : List Int} {deep : Nat} (h : 1024 ≤ met ∨ 64 ≤ deep) : qthr L t met bs deep = (met, bs, 34) := by
 cases t <;> simp only [qthr] <;> rw [if_pos h]
theorem qthr_no (t : QT) {met : Nat} {bs : List Int} {deep : Nat} (h : ¬ (1024 ≤ met ∨ 64 ≤ deep)) (ho : okQ L bs t = false) : qthr L t met bs deep = (met, bs, 50) := by
 cases t <;> simp only [qthr] <;> rw [if_neg h]
 all_goals first
  | (rw [if_neg (by rw [ho]; decide)])
  | (simp only [okQ] at ho; cases ho)
theorem qthr_yes (t : QT) {met : Nat} {bs : List Int} {deep : Nat} (h : ¬ (1024 ≤ met ∨ 64 ≤ deep)) (ho : okQ L bs t = true) : qthr L t met bs deep = qthrs L (t.l ++ t.r) (met + 1) (bs ++ t.bd) (deep + 1) := by
 cases t with
 | seq k l r =>
  simp only [qthr, QT.l, QT.r, QT.bd, List.append_nil]
  rw [if_neg h, qthrs_app]
 | zero => simp only [okQ] at ho; cases ho
 | any => simp only [qthr, QT.l, QT.r, QT.bd, List.append_nil, qthrs_nil]; rw [if_neg h]
 | _ => simp only [qthr, QT.l, QT.r, QT.bd, List.append_nil, qthrs_nil]; rw [if_neg h, if_pos ho]
theorem qthr_len (t : QT) : ∀ met bs deep, met ≤ 1024 → bs.length ≤ met → (qthr L t met bs deep).1 ≤ 1024 ∧ (qthr L t met bs deep).2.1.length ≤ (qthr L t met bs deep).1 := by
 have key : ∀ l : List QT, (∀ t ∈ l, ∀ met bs deep, met ≤ 1024 → bs.length ≤ met → (qthr L t met bs deep).1 ≤ 1024 ∧ (qthr L t met bs deep).2.1.length ≤ (qthr L t met bs deep).1) → ∀ met bs deep, met ≤ 1024 → bs.length ≤ met → (qthrs L l met bs deep).1 ≤ 1024 ∧ (qthrs L l met bs deep).2.1.length ≤ (qthrs L l met bs deep).1 := by
  intro l
  induction l with
  | nil => intro _ met bs deep h1 h2; rw [qthrs_nil]; exact ⟨h1, h2⟩
  | cons t l ih =>
   intro hh met bs deep h1 h2
   obtain ⟨a, b⟩ := hh t (by simp) met bs deep h1 h2
   rw [qthrs_cons]
   split
   ·exact ih (fun u hu => hh u (by simp [hu])) _ _ deep a b
   ·exact ⟨a, b⟩
 refine QT.ind (P := fun t => ∀ met bs deep, met ≤ 1024 → bs.length ≤ met → (qthr L t met bs deep).1 ≤ 1024 ∧ (qthr L t met bs deep).2.1.length ≤ (qthr L t met bs deep).1) (fun t ht met bs deep h1 h2 => ?_) (fun k l r ih ih2 met bs deep h1 h2 => ?_) t
 ·by_cases hc : 1024 ≤ met ∨ 64 ≤ deep
  ·rw [qthr_full L t hc]
   exact ⟨h1, h2⟩
  ·cases ho : okQ L bs t with
   | false => rw [qthr_no L t hc ho]; exact ⟨h1, h2⟩
   | true =>
    rw [qthr_yes L t hc ho]
    cases t with
    | seq k l r => exact absurd rfl (ht _ _ _)
    | var n =>
     simp only [QT.l, QT.r, QT.bd, List.nil_append, qthrs_nil, List.length_append, List.length_singleton]
     omega
    | _ =>
     simp only [QT.l, QT.r, QT.bd, List.nil_append, qthrs_nil, List.append_nil]
     omega
 ·by_cases hc : 1024 ≤ met ∨ 64 ≤ deep
  ·rw [qthr_full L _ hc]
   exact ⟨h1, h2⟩
  ·rw [qthr_yes L _ hc rfl]
   simp only [QT.l, QT.r, QT.bd, List.append_nil]
   refine key (l ++ r) (fun u hu => ?_) _ _ _ (by omega) (by omega)
   rcases List.mem_append.1 hu with hu | hu
   ·exact ih u hu
   ·exact ih2 u hu
theorem qthrs_len (l : List QT) : ∀ met bs deep, met ≤ 1024 → bs.length ≤ met → (qthrs L l met bs deep).1 ≤ 1024 ∧ (qthrs L l met bs deep).2.1.length ≤ (qthrs L l met bs deep).1 := by
 induction l with
 | nil => intro met bs deep h1 h2; rw [qthrs_nil]; exact ⟨h1, h2⟩
 | cons t l ih =>
  intro met bs deep h1 h2
  obtain ⟨a, b⟩ := qthr_len L t met bs deep h1 h2
  rw [qthrs_cons]
  split
  ·exact ih _ _ deep a b
  ·exact ⟨a, b⟩
end
def qchk (L : Int) (t : QT) : Int := (qthr L t 0 [] 0).2.2
open Go.RowKit
def knl : List ByteArray := [⟨#[]⟩, ⟨#[110, 105, 108]⟩, ⟨#[98, 111, 111, 108]⟩, ⟨#[105, 110, 116]⟩, ⟨#[99, 111, 109, 112, 108, 101, 120]⟩, ⟨#[97, 116, 111, 109]⟩, ⟨#[112, 105, 100]⟩, ⟨#[114, 101, 102]⟩, ⟨#[116, 117, 112, 108, 101]⟩, ⟨#[108, 105, 115, 116]⟩]
def kn (j : Nat) : ByteArray := knl[j]?.getD ⟨#[]⟩
def KN (w : World) : Prop := ∀ j, j < 10 → w.cell? ⟨1, j, none⟩ = some (.string (kn j))
theorem KN.lt {w : World} (h : KN w) : 1 < w.heap.size := by
 have h0 := h 0 (by decide)
 apply Nat.lt_of_not_le
 intro hle
 simp [World.cell?, Array.getElem?_eq_none hle] at h0
theorem KN.only {S : List Nat} {w w' : World} (h : KN w) (o : Only S w w') (hS : 1 ∉ S) : KN w' :=
 fun j hj => (o.cell (p := ⟨1, j, none⟩) h.lt hS).trans (h j hj)
theorem KN.same {w w' : World} (h : KN w) (o : Only [] w w') : KN w' := h.only o (by simp)
theorem pzero_yes (w : World) : Calls Tryz.prog 130 #[.agg #[.int .i64 0, .int .i64 0, .complex .f64 0 0, .string ⟨#[]⟩, .int .i64 0, .int .i64 0, .slice none 0 0]] w fun e w' => e = .returned (.bool true) ∧ ∃ o, w' = w.alloc o := by
 have z0 := z64
 have e0 := eqPid 0 0 0 0
 go_enter Tryz.func130, Tryz.ntmps130
 go_wp2_with fail
 go_ret
 exact ⟨rfl, _, rfl⟩
theorem pzero_no (k n : Int) (x y : Nat) (S : ByteArray) (a b : Int) (A : Option Addr) (m c : Nat) (w : World) (h : k ≠ 0) : Calls Tryz.prog 130 #[.agg #[.int .i64 k, .int .i64 n, .complex .f64 x y, .string S, .int .i64 a, .int .i64 b, .slice A m c]] w fun e w' => e = .returned (.bool false) ∧ ∃ o, w' = w.alloc o := by
 have e0 : (k == 0) = false := by simpa using h
 clear h
 go_enter Tryz.func130, Tryz.ntmps130
 go_wp2_with fail
 go_ret
 exact ⟨rfl, _, rfl⟩
theorem isLeaf_any (t : T) (hg : t.Good) (A : Option Addr) (m c : Nat) (F : Nat → Prop) (r : Bool) (w : World) (hv : TV w F t (.slice A m c)) (hF : ∀ b, F b → b < w.heap.size) (hr : (decide (t.k ≠ 8) && decide (t.k ≠ 9) && decide (chk t = 0)) = r) :
 Calls Tryz.prog 132 #[.agg #[.int .i64 t.k, .int .i64 t.n, .complex .f64 t.x t.y, .string t.S, .int .i64 t.a, .int .i64 t.b, .slice A m c]] w fun e w' => e = .returned (.bool r) ∧ Only [] w w' := by
 have rs := store_com
 have o1 : Only [] w (w.alloc (.cells #[.int .i64 t.k, .int .i64 t.n, .complex .f64 t.x t.y, .string t.S, .int .i64 t.a, .int .i64 t.b, .slice A m c] 52)) := (Only.refl [] w).alloc _
 have HC := Lib.hid (check_any t hg (.slice A m c) F _ (hv.same o1) (fun b hb => Nat.lt_of_lt_of_le (hF b hb) o1.size))
 have O0 := Lib.hid o1
 by_cases h8 : t.k = 8
 ·have e1 : (t.k != 8) = false := by simp [h8]
  have ER : Hid (false = r) := Lib.hid (by rw [← hr]; simp [h8])
  clear HC h8 hg hv hF o1 hr
  go_enter Tryz.func132, Tryz.ntmps132
  go_wp2_with fail
  go_ret
  exact ⟨ret_bool ER.out, O0.out⟩
 by_cases h9 : t.k = 9
 ·have e1 : (t.k != 8) = true := by simpa using h8
  have e2 : (t.k != 9) = false := by simp [h9]
  have ER : Hid (false = r) := Lib.hid (by rw [← hr]; simp [h9])
  clear HC h8 h9 hg hv hF o1 hr
  go_enter Tryz.func132, Tryz.ntmps132
  go_wp2_with fail
  go_ret
  exact ⟨ret_bool ER.out, O0.out⟩
 have e1 : (t.k != 8) = true := by simpa using h8
 have e2 : (t.k != 9) = true := by simpa using h9
 obtain ⟨z, hz⟩ : ∃ z, chk t = z := ⟨_, rfl⟩
 rw [hz] at HC hr
 have ER : Hid ((z == 0) = r) := Lib.hid (by rw [← hr]; simp only [ne_eq, h8, h9, not_false_eq_true, decide_true, Bool.true_and]; rfl)
 clear h8 h9 hg hv hF o1 hz hr
 go_enter Tryz.func132, Tryz.ntmps132
 go_wp2_with fail
 (with_reducible refine (HC.out).mono ?_)
 rintro e w1 ⟨rfl, o1⟩
 have O1 := Lib.hid (O0.out.trans o1 (by simp))
 clear o1
 go_wp2_with fail
 go_ret
 exact ⟨ret_bool ER.out, O1.out⟩
theorem tkind_yes (j : Nat) (w : World) (h1 : 1 ≤ j) (h2 : j < 10) (hk : KN w) : Calls Tryz.prog 138 #[.int .i64 (j : Int)] w fun e w' => e = .returned (.tuple #[.string (kn j), .int .i64 0]) ∧ w = w' := by
 have c := hk j h2
 have p1 : ¬ (j : Int) < 1 := by omega
 have p2 : ¬ 9 < (j : Int) := by omega
 have p3 : (j : Int) < 10 := by omega
 have p4 : 0 ≤ (j : Int) := by omega
 go_enter Tryz.func138, Tryz.ntmps138
 go_wp2_with fail
 exact bodyPost_ret (v := .tuple #[.string (kn j), .int .i64 0]) (by simp [results, Tryz.results138, go_sem]) rfl ⟨rfl, rfl⟩
theorem tkind_no (n : Int) (w : World) (h : ¬ (1 ≤ n ∧ n ≤ 9)) : Calls Tryz.prog 138 #[.int .i64 n] w fun e w' => e = .returned (.tuple #[.string ⟨#[]⟩, .int .i64 3]) ∧ w = w' := by
 by_cases h1 : n < 1
 ·clear h
  go_enter Tryz.func138, Tryz.ntmps138
  go_wp2_with fail
  exact bodyPost_ret (v := .tuple #[.string ⟨#[]⟩, .int .i64 3]) (by simp [results, Tryz.results138, go_sem]) rfl ⟨rfl, rfl⟩
 ·have h2 : 9 < n := by omega
  clear h
  go_enter Tryz.func138, Tryz.ntmps138
  go_wp2_with fail
  exact bodyPost_ret (v := .tuple #[.string ⟨#[]⟩, .int .i64 3]) (by simp [results, Tryz.results138, go_sem]) rfl ⟨rfl, rfl⟩
theorem isKind_any (n : Int) (r : Bool) (w : World) (hk : KN w) (hr : (decide (1 ≤ n) && decide (n ≤ 9)) = r) : Calls Tryz.prog 133 #[.int .i64 n] w fun e w' => e = .returned (.bool r) ∧ w = w' := by
 by_cases h : 1 ≤ n ∧ n ≤ 9
 ·obtain rfl : true = r := by rw [← hr]; simp [h]
  obtain ⟨j, rfl⟩ : ∃ j : Nat, n = (j : Int) := ⟨n.toNat, by omega⟩
  have HK := Lib.hid (tkind_yes j w (by omega) (by omega) hk)
  clear h hk hr
  go_enter Tryz.func133, Tryz.ntmps133
  go_wp2_with fail
  (with_reducible refine (HK.out).mono ?_)
  rintro e w1 ⟨rfl, rfl⟩
  go_wp2_with fail
  go_ret
  exact ⟨rfl, rfl⟩
 ·obtain rfl : false = r := by
   rw [← hr]
   by_cases h1 : 1 ≤ n
   ·rw [decide_eq_false (p := n ≤ 9) (fun h2 => h ⟨h1, h2⟩), Bool.and_false]
   ·rw [decide_eq_false h1, Bool.false_and]
  have HK := Lib.hid (tkind_no n w h)
  clear h hk hr
  go_enter Tryz.func133, Tryz.ntmps133
  go_wp2_with fail
  (with_reducible refine (HK.out).mono ?_)
  rintro e w1 ⟨rfl, rfl⟩
  go_wp2_with fail
  go_ret
  exact ⟨rfl, rfl⟩
def Lies (w : World) (A : Option Addr) (bs : List Int) : Prop := ∀ k z, bs[k]? = some z → ∃ g, A = some ⟨g, 0, none⟩ ∧ w.cell? ⟨g, k, none⟩ = some (.int .i64 z) ∧ ∃ cs, Bk w g 3 cs
def IRel (w : World) (bs : List Int) (n : Int) (v : Value) (wr : World) : Prop := ∃ k : Nat, v = .int .i64 (k : Int) ∧ k ≤ bs.length ∧ (∀ j z, j < k → bs[j]? = some z → z ≠ n) ∧ w = wr
def IEnd (bs : List Int) (n : Int) (e : Ending) : Prop := ∃ r : Int, e = .returned (.int .i64 r) ∧ ((n ∈ bs ∧ 0 ≤ r) ∨ (n ∉ bs ∧ r = -1))
theorem index_any (A : Option Addr) (cap : Nat) (bs : List Int) (n : Int) (w : World) (h : Lies w A bs) (hl : bs.length ≤ 1024) : Calls Tryz.prog 139 #[.slice A bs.length cap, .int .i64 n] w fun e w' => IEnd bs n e ∧ w = w' := by
 have H := Lib.hid h
 clear h
 go_enter Tryz.func139, Tryz.ntmps139
 go_wp2_with fail
 go_loopw [8] (fun v wr => IRel w bs n v wr) (fun v _ => bs.length - (intOf v).toNat)
 case atStart => exact ⟨0, rfl, Nat.zero_le _, fun j z hj _ => absurd hj (Nat.not_lt_zero _), rfl⟩
 case round =>
  obtain ⟨k, rfl, hk, hn, rfl⟩ := hrel
  by_cases hk3 : k < bs.length
  ·obtain ⟨z, hz⟩ : ∃ z, bs[k]? = some z := ⟨_, List.getElem?_eq_getElem hk3⟩
   obtain ⟨g, rfl, c, _⟩ := H.out k z hz
   have c' : w.cell? ⟨g, 0 + k, none⟩ = some (.int .i64 z) := by rw [Nat.zero_add]; exact c
   have p1 : (k : Int) < (bs.length : Int) := by omega
   have p2 : 0 ≤ (k : Int) := by omega
   by_cases he : n = z
   ·subst he
    go_wp2_with fail
    go_ret
    exact ⟨⟨_, rfl, .inl ⟨List.mem_of_getElem? hz, p2⟩⟩, rfl⟩
   ·have e1 : (n == z) = false := by simpa using he
    have HR := Lib.hid (show IRel w bs n (.int .i64 ((k : Int) + 1)) w from ⟨k + 1, by go_num, by omega, fun j y hj hy => by
     rcases Nat.lt_succ_iff_lt_or_eq.1 hj with hj | rfl
     ·exact hn j y hj hy
     ·rw [hz] at hy
      injection hy with hy
      rw [← hy]; exact fun e => he e.symm, rfl⟩)
    have q1 : IntKind.i64.wrap ((k : Int) + 1) = (k : Int) + 1 := IntWalk.i64_in _ (by omega)
    clear hn hz he
    go_wp2_with fail
    go_roundw
    case rel => exact HR.out
    case measure => simp [intOf]; omega
  ·have p1 : ¬ (k : Int) < (bs.length : Int) := by omega
   have HN := Lib.hid (show n ∉ bs from fun hm => by
    obtain ⟨j, hj, e⟩ := List.getElem_of_mem hm
    exact hn j n (by omega) (by rw [List.getElem?_eq_getElem hj, e]) rfl)
   clear hn
   go_wp2_with fail
   go_ret
   exact ⟨⟨_, rfl, .inr ⟨HN.out, rfl⟩⟩, rfl⟩
theorem contains_any (A : Option Addr) (cap : Nat) (bs : List Int) (n : Int) (b : Bool) (w : World) (h : Lies w A bs) (hl : bs.length ≤ 1024) (hb : decide (n ∈ bs) = b) : Calls Tryz.prog 137 #[.slice A bs.length cap, .int .i64 n] w fun e w' => e = .returned (.bool b) ∧ w = w' := by
 have HI := Lib.hid (index_any A cap bs n w h hl)
 clear h
 go_enter Tryz.func137, Tryz.ntmps137
 go_wp2_with fail
 (with_reducible refine (HI.out).mono ?_)
 rintro e w1 ⟨⟨r, rfl, hr⟩, rfl⟩
 have e1 : decide ((0 : Int) ≤ r) = b := by
  rw [← hb]
  rcases hr with ⟨h1, h2⟩ | ⟨h1, h2⟩
  ·rw [decide_eq_true h1, decide_eq_true h2]
  ·rw [decide_eq_false h1, decide_eq_false (by omega)]
 clear hr hb
 go_wp2_with fail
 go_ret
 exact ⟨rfl, rfl⟩
theorem isFree_any (wb : Nat) (L met : Int) (A : Option Addr) (cap : Nat) (bs : List Int) (n : Int) (r : Bool) (w : World) (hb : Bk w wb 172 #[.int .i64 L, .int .i64 met, .slice A bs.length cap]) (h : Lies w A bs) (hl : bs.length ≤ 1024) (hr : (decide (0 ≤ n) && decide (n < L) && !decide (n ∈ bs)) = r) :
 Calls Tryz.prog 131 #[.pointer (some ⟨wb, 0, none⟩), .int .i64 n] w fun e w' => e = .returned (.bool r) ∧ w = w' := by
 have c0 := hb.cell0 (i := 0) rfl
 have c2 := hb.cell0 (i := 2) rfl
 by_cases h0 : 0 ≤ n
 ·by_cases h1 : n < L
  ·obtain ⟨b, hd⟩ : ∃ b, decide (n ∈ bs) = b := ⟨_, rfl⟩
   have HC := Lib.hid (contains_any A cap bs n b w h hl hd)
   have ER : Hid ((!b) = r) := Lib.hid (by rw [← hr, hd, decide_eq_true h0, decide_eq_true h1]; rfl)
   clear h hd hb hr
   go_enter Tryz.func131, Tryz.ntmps131
   go_wp2_with fail
   (with_reducible refine (HC.out).mono ?_)
   rintro e w1 ⟨rfl, rfl⟩
   go_wp2_with fail
   go_ret
   exact ⟨ret_bool ER.out, rfl⟩
  ·have ER : Hid (false = r) := Lib.hid (by rw [← hr, decide_eq_false h1, Bool.and_false, Bool.false_and])
   clear h hb hr
   go_enter Tryz.func131, Tryz.ntmps131
   go_wp2_with fail
   go_ret
   exact ⟨ret_bool ER.out, rfl⟩
 ·have ER : Hid (false = r) := Lib.hid (by rw [← hr, decide_eq_false h0, Bool.false_and, Bool.false_and])
  have h0' : ¬ (n ≥ 0) := h0
  clear h hb hr
  go_enter Tryz.func131, Tryz.ntmps131
  go_wp2_with fail
  go_ret
  exact ⟨ret_bool ER.out, rfl⟩
end Go.Proofs.YtcdefnbehlcgeaaGreatDoor
