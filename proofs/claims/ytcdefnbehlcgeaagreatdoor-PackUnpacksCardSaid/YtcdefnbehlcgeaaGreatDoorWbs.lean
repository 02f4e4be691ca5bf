/- The document's reader of an instruction. -/
import Derived.Test.YtcdefnbehlcgeaaGreatDoorWbr
set_option maxHeartbeats 16000000
set_option maxRecDepth 20000
set_option linter.unusedSimpArgs false
set_option linter.unusedVariables false
namespace Go.Proofs.YtcdefnbehlcgeaaGreatDoor
open Go.RowKit
def Nx {α : Type} (s : ByteArray) (V : α → Int) (r : Nat → Rs α) (p : Nat) (bd n : Int) (p' : Nat) (bd' : Int) : Prop :=
 (bd = -1 ∧ match r p with
   | .ok x q => n = V x ∧ p' = q ∧ bd' = -1 ∧ q ≤ s.size
   | .bad t => n = 0 ∧ bd' = (t : Int)) ∨ ∃ t : Nat, bd = (t : Int) ∧ bd' = (t : Int) ∧ n = 0
def Gd (s : ByteArray) (p : Nat) (bd : Int) : Prop := (bd = -1 ∧ p ≤ s.size) ∨ ∃ t : Nat, bd = (t : Int)
theorem Nx.gd {α : Type} {s : ByteArray} {V : α → Int} {r : Nat → Rs α} {p p' : Nat} {bd n bd' : Int} (h : Nx s V r p bd n p' bd') : Gd s p' bd' := by
 rcases h with ⟨h1, h2⟩ | ⟨t, h1, h2, h3⟩
 ·cases hr : r p with
  | ok x q =>
   rw [hr] at h2
   obtain ⟨rfl, rfl, rfl, h4⟩ := h2
   exact .inl ⟨rfl, h4⟩
  | bad t =>
   rw [hr] at h2
   exact .inr ⟨t, h2.2⟩
 ·exact .inr ⟨t, h2⟩
theorem DS.gd {α : Type} {s : ByteArray} {ds : α → List D} {r : Rs α} {l : List D} {p : Nat} {bd : Int} (h : StOk s ds r l p bd) : Gd s p bd := by
 cases r with
 | ok x q =>
  obtain ⟨h1, rfl, h2, h3⟩ := h
  exact .inl ⟨h2, h3⟩
 | bad t => exact .inr ⟨t, h⟩
def NE {α : Type} (b : Nat) (s : ByteArray) (V : α → Int) (r : Nat → Rs α) (p : Nat) (bd : Int) (w : World) (e : Ending) (w' : World) : Prop :=
 ∃ (n : Int) (p' : Nat) (bd' : Int), e = .returned (.int .i64 n) ∧ Rdc w' b s p' bd' ∧ Only [b] w w' ∧ Nx s V r p bd n p' bd'
theorem NE.of {α : Type} {b : Nat} {s : ByteArray} {V : α → Int} {r : Nat → Rs α} {p : Nat} {f : FuncId} {args : Array Value} {w : World} (h : Calls Tryz.prog f args w fun e w' => DeE b s (.int .i64 0) (fun x => .int .i64 (V x)) (r p) w e w') : Calls Tryz.prog f args w fun e w' => NE b s V r p (-1) w e w' :=
 h.mono fun e w' h => by
  cases hr : r p with
  | ok x q =>
   rw [hr] at h
   obtain ⟨h1, h2, h3, h4⟩ := h
   exact ⟨V x, q, -1, h1, h2, h3, .inl ⟨rfl, by rw [hr]; exact ⟨rfl, rfl, rfl, h4⟩⟩⟩
  | bad t =>
   rw [hr] at h
   obtain ⟨h1, ⟨q, h2⟩, h3⟩ := h
   exact ⟨0, q, t, h1, h2, h3, .inl ⟨rfl, by rw [hr]; exact ⟨rfl, rfl⟩⟩⟩
theorem NE.no {α : Type} {b : Nat} {s : ByteArray} {V : α → Int} {r : Nat → Rs α} {p t : Nat} {f : FuncId} {args : Array Value} {w : World} (hb : Rdc w b s p (t : Int)) (h : Calls Tryz.prog f args w fun e w' => e = .returned (.int .i64 0) ∧ Only [] w w') : Calls Tryz.prog f args w fun e w' => NE b s V r p (t : Int) w e w' :=
 h.mono fun e w' ⟨h1, h2⟩ => ⟨0, p, t, h1, Bk.only hb h2 (by simp), h2.more (by simp), .inr ⟨t, rfl, rfl, rfl⟩⟩
theorem same_only {f : FuncId} {args : Array Value} {w : World} {v : Value} (h : Calls Tryz.prog f args w fun e w' => e = .returned v ∧ w = w') : Calls Tryz.prog f args w fun e w' => e = .returned v ∧ Only [] w w' :=
 h.mono fun e w' ⟨h1, h2⟩ => ⟨h1, h2 ▸ Only.refl [] w⟩
section
variable (b : Nat) (s : ByteArray) (p : Nat) (bd : Int) (w : World) (hb : Rdc w b s p bd) (hg : Gd s p bd) (hs : s.size ≤ 262144)
include hb hg hs
theorem dcnt_x : Calls Tryz.prog 30 #[.pointer (some ⟨b, 0, none⟩)] w fun e w' => NE b s (fun n : Nat => (n : Int)) (rCnt s) p bd w e w' := by
 rcases hg with ⟨rfl, hp⟩ | ⟨t, rfl⟩
 ·exact NE.of (dcount_any b s p w hb hp hs)
 ·exact NE.no hb (same_only (dcount_bad b s p t w hb))
theorem dnum_x : Calls Tryz.prog 54 #[.pointer (some ⟨b, 0, none⟩)] w fun e w' => NE b s (fun n : Int => n) (rNum s) p bd w e w' := by
 rcases hg with ⟨rfl, hp⟩ | ⟨t, rfl⟩
 ·exact NE.of (dnum_any b s p w hb hp hs)
 ·exact NE.no hb (same_only (dnum_bad b s p t w hb))
theorem dmany_x : Calls Tryz.prog 29 #[.pointer (some ⟨b, 0, none⟩)] w fun e w' => NE b s (fun n : Nat => (n : Int)) (rLen s) p bd w e w' := by
 rcases hg with ⟨rfl, hp⟩ | ⟨t, rfl⟩
 ·exact NE.of (dmany_any b s p w hb hp hs)
 ·exact NE.no hb (dmany_bad b s p t w hb)
end
theorem Nx.nat {s : ByteArray} {p p' : Nat} {bd n bd' : Int} (h : Nx s (fun n : Nat => (n : Int)) (rLen s) p bd n p' bd') : ∃ m : Nat, n = m ∧ m ≤ s.size := by
 rcases h with ⟨h1, h2⟩ | ⟨t, h1, h2, h3⟩
 ·cases hr : rLen s p with
  | ok x q =>
   rw [hr] at h2
   have := rLen_bd hr
   exact ⟨x, h2.1, by omega⟩
  | bad t =>
   rw [hr] at h2
   exact ⟨0, h2.1, by omega⟩
 ·exact ⟨0, h3, by omega⟩
def rFrom {α : Type} (one : Nat → Rs α) (m p : Nat) (bd : Int) : Rs (List α) := if bd = -1 then rMany one m p else .bad bd.toNat
theorem Nx.some {α : Type} {one : Nat → Rs α} {s : ByteArray} {p p' m : Nat} {bd bd' : Int} (h : Nx s (fun n : Nat => (n : Int)) (rLen s) p bd (m : Int) p' bd') : (bd = -1 → rFrom one m p' bd' = rSome one s p) ∧ ∀ t : Nat, bd = (t : Int) → rFrom one m p' bd' = .bad t := by
 rcases h with ⟨rfl, h2⟩ | ⟨t, rfl, rfl, h3⟩
 ·refine ⟨fun _ => ?_, fun t ht => by omega⟩
  unfold rSome
  cases hr : rLen s p with
  | ok x q =>
   rw [hr] at h2
   obtain ⟨h3, rfl, rfl, h4⟩ := h2
   have h3' : (m : Int) = (x : Int) := h3
   obtain rfl : m = x := by omega
   rfl
  | bad t =>
   rw [hr] at h2
   obtain ⟨h3, rfl⟩ := h2
   unfold rFrom
   rw [if_neg (by omega)]
   rfl
 ·refine ⟨fun h => by omega, fun u hu => ?_⟩
  unfold rFrom
  rw [if_neg (by omega)]
  congr 1
  omega
noncomputable def KAr : DK where
 e := 90
 t := 53
 k := 12
 by' := 160
 i := (Tryz.prog.info? 90).getD default
 z := .agg ZA
 ht := Tryz.underlying53
 hi := by kernel_rfl
 hz := by kernel_rfl
 hk := by kernel_rfl
 hb := by kernel_rfl
 hzs := by kernel_rfl
 h0 := by decide
 hb1 := by decide
theorem wpList_appC (K : DK) {w : World} {ops : Array Oper} {rest : List Oper} {o : Oper} {a : Act} {Q : Exit → Act → World → Prop} (hgd : o.guard = none) (s x : Operand)
 (ho : o.op = .call { callee := .builtin .append, args := #[s, x], argTypes := #[K.t, K.t] })
 {base : Nat} {v : Value} {cs : List (Ck K.k)} (hs : a.eval s = v) (hown : OwnC K w base v cs) (gb : Nat) (us : Array Value) (l : List D) (hx : a.eval x = .slice (some ⟨gb, 0, none⟩) 1 1) (hB : Bk w gb K.e us) (w1 : World) (o1 : w1.heap.size ≤ w.heap.size) (hv1 : ∀ g, v.ownBlock = some g → g < w1.heap.size) (hbase : base ≤ w1.heap.size) (hd : DVs w (fun g => w1.heap.size ≤ g) l us.toList)
 (hl : l.length = K.k) (hone : ∀ d ∈ l, d.One) (hlen : cs.length ≤ 262144) (H : Nat) (hH : w.heap.size = H)
 (h : ∀ g cap w', OwnC K w' base (.slice (some ⟨g, 0, none⟩) (cs.length + 1) cap) (cs ++ [⟨l, hl, hone⟩]) → w.grownBy w' v.ownBlock → wpList Tryz.prog ops Q rest (a.put o.dst (.slice (some ⟨g, 0, none⟩) (cs.length + 1) cap)) w') :
 wpList Tryz.prog ops Q (o :: rest) a w := by
 obtain ⟨xsC, hrow, hdv⟩ := OwnD.row hown
 have hul : us.toList.length = K.k := by rw [DVs.len hd, hl]
 have hb2 : (cs.length + 1) * K.by' ≤ 140737488355328 := Nat.le_trans (Nat.mul_le_mul (show cs.length + 1 ≤ 262145 by omega) K.hb1) (by decide)
 refine wpList_append_lies (P := Tryz.prog) w hgd s x K.t ho base K.e K.i K.z K.k K.by' K.ht K.hi K.hz K.hk K.hb K.hzs K.h0 v cs.length xsC hs hrow ⟨gb, 0, none⟩ 1 1 us.toList hx (by rw [hul]; omega) (row_at hB) (DVs.one hd hone) (by omega) (by unfold maxLen; omega) hb2 (Nat.le_trans hbase o1) H hH ?_
 intro g cap w' h1 h2 h3 h4
 refine h g cap w' ?_ h2
 have := own_step (ds := fun c : Ck K.k => c.1) (x := ⟨l, hl, hone⟩) (wr := w1) (w2 := w) (W4 := w) hd hbase (Only.refl _ _) hv1 hdv h1 h2 (by rcases h3 with h3 | h3; exact .inl h3; exact .inr (by omega))
 unfold OwnC
 simpa using this
theorem LW.same {K : DK} {ty : TypeId} {zs : Array Value} {f : Value → Array Value} {s : ByteArray} {b m : Nat} {w wr w' : World} {lv : Value} {cs : List (Ck K.k)} {p : Nat} {bad : Int} (h : LW K ty zs f s b m w wr lv cs p bad) (o : Only [] wr w') : LW K ty zs f s b m w w' lv cs p bad :=
 ⟨h.fr.onlyS o (by simp), Bk.only h.rd o (by simp), h.on.trans o (by simp), h.own.only o (by simp)⟩
abbrev iD (op a b : Int) (td : List D) (d : D) : List D := [.v (.int .i64 op), .v (.int .i64 a), .v (.int .i64 b)] ++ td ++ [d]
theorem iD_dvs {w : World} {F : Nat → Prop} (op a b : Int) {td : List D} {d : D} {t0 t1 t2 t3 t4 t5 t6 u : Value} (ht : DVs w F td [t0, t1, t2, t3, t4, t5, t6]) (h : DV w F d u) : DVs w F (iD op a b td d) [.int .i64 op, .int .i64 a, .int .i64 b, t0, t1, t2, t3, t4, t5, t6, u] :=
 DVs.app (l' := [d]) (vs := [u]) (l := [.v (.int .i64 op), .v (.int .i64 a), .v (.int .i64 b)] ++ td) (us := [.int .i64 op, .int .i64 a, .int .i64 b, t0, t1, t2, t3, t4, t5, t6]) ⟨_, _, rfl, h, rfl⟩ (DVs.app (l := [.v (.int .i64 op), .v (.int .i64 a), .v (.int .i64 b)]) (us := [.int .i64 op, .int .i64 a, .int .i64 b]) ht ⟨_, _, rfl, DV.v.2 rfl, _, _, rfl, DV.v.2 rfl, _, _, rfl, DV.v.2 rfl, rfl⟩)
theorem iD_one (op a b : Int) {td : List D} {d : D} (ht : ∀ d ∈ td, d.One) (h : d.One) : ∀ d' ∈ iD op a b td d, d'.One := by
 intro d' hd
 simp only [List.mem_append, List.mem_cons, List.not_mem_nil, or_false] at hd
 rcases hd with ((rfl | rfl | rfl) | hd) | rfl
 ·rfl
 ·rfl
 ·rfl
 ·exact ht d' hd
 ·exact h
theorem iD_len (op a b : Int) {td : List D} (d : D) (h : td.length = 7) : (iD op a b td d).length = 11 := by simp [h]
theorem sl_one (n : Nat) (l : List D) : D.One (.sl n l) := trivial
theorem in_ds (x : In) : x.ds = iD x.op x.a x.b x.t.ds (.sl x.arms.length (x.arms.flatMap Arm.ds)) := rfl
abbrev DI := DSt 55 ZI
def hasAB (op : Nat) : Bool := decide (op = 3 ∨ op = 4 ∨ op = 5 ∨ op = 17 ∨ op = 18 ∨ op = 19 ∨ op = 25 ∨ op = 26 ∨ op = 28)
theorem hasA_any (op : Nat) (w : World) : Calls Tryz.prog 56 #[.int .i64 op] w fun e w' => e = .returned (.bool (hasAB op)) ∧ w = w' := by
 by_cases hin : op = 3 ∨ op = 4 ∨ op = 5 ∨ op = 17 ∨ op = 18 ∨ op = 19 ∨ op = 25 ∨ op = 26 ∨ op = 28
 ·rw [show hasAB op = true from decide_eq_true hin]
  rcases hin with rfl | rfl | rfl | rfl | rfl | rfl | rfl | rfl | rfl
  all_goals
   go_enter Tryz.func56, Tryz.ntmps56
   go_wp2_with fail
   go_ret
   exact ⟨rfl, rfl⟩
 ·rw [show hasAB op = false from decide_eq_false hin]
  have n3 : ¬ (op : Int) = 3 := by omega
  have n4 : ¬ (op : Int) = 4 := by omega
  have n5 : ¬ (op : Int) = 5 := by omega
  have n17 : ¬ (op : Int) = 17 := by omega
  have n18 : ¬ (op : Int) = 18 := by omega
  have n19 : ¬ (op : Int) = 19 := by omega
  have n25 : ¬ (op : Int) = 25 := by omega
  have n26 : ¬ (op : Int) = 26 := by omega
  have n28 : ¬ (op : Int) = 28 := by omega
  go_enter Tryz.func56, Tryz.ntmps56
  go_wp2_with fail
  go_ret
  exact ⟨rfl, rfl⟩
theorem nx_a {s : ByteArray} {q p' : Nat} {op n bd' : Int} (h : Nx s (fun n : Nat => (n : Int)) (rCnt s) q (-1) n p' bd') : StOk s In.ds (rFlds s [.a] ⟨op, 0, 0, .zero, []⟩ q) (iD op n 0 T.zero.ds (.sl 0 [])) p' bd' := by
 rcases h with ⟨-, h⟩ | ⟨t, h, -⟩
 ·cases hr : rCnt s q with
  | ok x q' =>
   rw [hr] at h
   obtain ⟨rfl, rfl, rfl, h4⟩ := h
   simp only [rFlds, rFld, hr, Rs.map, Rs.bind]
   exact ⟨rfl, rfl, rfl, h4⟩
  | bad t =>
   rw [hr] at h
   simp only [rFlds, rFld, hr, Rs.map, Rs.bind]
   exact h.2
 ·omega
theorem nx_ab {s : ByteArray} {q p1 p2 : Nat} {op n1 n2 bd1 bd2 : Int} (h : Nx s (fun n : Nat => (n : Int)) (rCnt s) q (-1) n1 p1 bd1) (h2 : Nx s (fun n : Nat => (n : Int)) (rCnt s) p1 bd1 n2 p2 bd2) : StOk s In.ds (rFlds s [.a, .b] ⟨op, 0, 0, .zero, []⟩ q) (iD op n1 n2 T.zero.ds (.sl 0 [])) p2 bd2 := by
 rcases h with ⟨-, h⟩ | ⟨t, h, -⟩
 ·cases hr : rCnt s q with
  | ok x q' =>
   rw [hr] at h
   obtain ⟨rfl, rfl, rfl, h4⟩ := h
   rcases h2 with ⟨-, h⟩ | ⟨t, h, -⟩
   ·cases hr2 : rCnt s p1 with
    | ok y q2 =>
     rw [hr2] at h
     obtain ⟨rfl, rfl, rfl, h5⟩ := h
     simp only [rFlds, rFld, hr, hr2, Rs.map, Rs.bind]
     exact ⟨rfl, rfl, rfl, h5⟩
    | bad t =>
     rw [hr2] at h
     simp only [rFlds, rFld, hr, hr2, Rs.map, Rs.bind]
     exact h.2
   ·omega
  | bad t =>
   rw [hr] at h
   obtain ⟨rfl, rfl⟩ := h
   simp only [rFlds, rFld, hr, Rs.map, Rs.bind]
   rcases h2 with ⟨h, -⟩ | ⟨u, h, h3, -⟩
   ·omega
   ·show bd2 = _
    omega
 ·omega
theorem nx_arms {s : ByteArray} {p1 p2 p4 m : Nat} {bd1 bd2 bd4 : Int} {x : In} {l : List D} (h : Nx s (fun n : Nat => (n : Int)) (rLen s) p1 bd1 (m : Int) p2 bd2)
 (hx : (bd4 = -1 ∧ p4 ≤ s.size ∧ ∃ xs, rFrom (rArm s) m p2 bd2 = .ok xs p4 ∧ l = In.ds { x with arms := xs }) ∨ ∃ t : Nat, bd4 = (t : Int) ∧ rFrom (rArm s) m p2 bd2 = .bad t) :
 (bd1 = -1 → StOk s In.ds (rFlds s [.arms] x p1) l p4 bd4) ∧ ∀ t : Nat, bd1 = (t : Int) → bd4 = (t : Int) := by
 obtain ⟨h1, h2⟩ := Nx.some (one := rArm s) h
 constructor
 ·intro hb
  rw [h1 hb] at hx
  rcases hx with ⟨h3, h4, xs, h5, h6⟩ | ⟨t, h3, h4⟩
  ·simp only [rFlds, rFld, h5, Rs.map, Rs.bind]
   exact ⟨h6, rfl, h3, h4⟩
  ·simp only [rFlds, rFld, h4, Rs.map, Rs.bind]
   exact h3
 ·intro t ht
  rw [h2 t ht] at hx
  rcases hx with ⟨-, -, xs, h5, -⟩ | ⟨u, h3, h4⟩
  ·cases h5
  ·injection h4 with h4
   rw [h3, h4]
theorem nx_27 {s : ByteArray} {q p1 p4 : Nat} {n1 bd1 bd4 : Int} {l : List D} (h : Nx s (fun n : Nat => (n : Int)) (rCnt s) q (-1) n1 p1 bd1)
 (hx : (bd1 = -1 → StOk s In.ds (rFlds s [.arms] ⟨27, n1, 0, .zero, []⟩ p1) l p4 bd4) ∧ ∀ t : Nat, bd1 = (t : Int) → bd4 = (t : Int)) : StOk s In.ds (rFlds s [.a, .arms] ⟨27, 0, 0, .zero, []⟩ q) l p4 bd4 := by
 rcases h with ⟨-, h⟩ | ⟨t, h, -⟩
 ·cases hr : rCnt s q with
  | ok x q' =>
   rw [hr] at h
   obtain ⟨rfl, rfl, rfl, h4⟩ := h
   have := hx.1 rfl
   show StOk s In.ds (((rCnt s q).map _).bind _) l p4 bd4
   rw [hr]
   exact this
  | bad t =>
   rw [hr] at h
   have := hx.2 t h.2
   show StOk s In.ds (((rCnt s q).map _).bind _) l p4 bd4
   rw [hr]
   exact this
 ·omega
theorem nx_33 {s : ByteArray} {q p1 p2 p4 : Nat} {n1 n2 bd1 bd2 bd4 : Int} {l : List D} (h : Nx s (fun n : Nat => (n : Int)) (rCnt s) q (-1) n1 p1 bd1) (h2 : Nx s (fun n : Int => n) (rNum s) p1 bd1 n2 p2 bd2)
 (hx : (bd2 = -1 → StOk s In.ds (rFlds s [.arms] ⟨33, n1, n2, .zero, []⟩ p2) l p4 bd4) ∧ ∀ t : Nat, bd2 = (t : Int) → bd4 = (t : Int)) : StOk s In.ds (rFlds s [.a, .ticks, .arms] ⟨33, 0, 0, .zero, []⟩ q) l p4 bd4 := by
 rcases h with ⟨-, h⟩ | ⟨t, h, -⟩
 ·cases hr : rCnt s q with
  | ok x q' =>
   rw [hr] at h
   obtain ⟨rfl, rfl, rfl, h4⟩ := h
   show StOk s In.ds (((rCnt s q).map _).bind _) l p4 bd4
   rw [hr]
   show StOk s In.ds (((rNum s p1).map _).bind _) l p4 bd4
   rcases h2 with ⟨-, h⟩ | ⟨t, h, -⟩
   ·cases hr2 : rNum s p1 with
    | ok y q2 =>
     rw [hr2] at h
     obtain ⟨rfl, rfl, rfl, h5⟩ := h
     exact hx.1 rfl
    | bad t =>
     rw [hr2] at h
     exact hx.2 t h.2
   ·omega
  | bad t =>
   rw [hr] at h
   obtain ⟨-, rfl⟩ := h
   rcases h2 with ⟨h, -⟩ | ⟨u, h, h3, -⟩
   ·omega
   ·have := hx.2 u h3
    show StOk s In.ds (((rCnt s q).map _).bind _) l p4 bd4
    rw [hr]
    show bd4 = _
    omega
 ·omega
theorem nx_arm {s : ByteArray} {q p1 p2 : Nat} {n bd1 bd2 : Int} {l : List D} (h : StOk s QT.ds (rPat s 64 q) l p1 bd1) (h2 : Nx s (fun n : Nat => (n : Int)) (rCnt s) p1 bd1 n p2 bd2) : StOk s Arm.ds (rArm s q) (l ++ [.v (.int .i64 n)]) p2 bd2 := by
 unfold rArm
 cases hr : rPat s 64 q with
 | ok x q' =>
  rw [hr] at h
  obtain ⟨rfl, rfl, rfl, h3⟩ := h
  show StOk s Arm.ds ((rCnt s p1).map _) _ p2 bd2
  rcases h2 with ⟨-, h⟩ | ⟨t, h, -⟩
  ·cases hr2 : rCnt s p1 with
   | ok y q2 =>
    rw [hr2] at h
    obtain ⟨rfl, rfl, rfl, h5⟩ := h
    exact ⟨rfl, rfl, rfl, h5⟩
   | bad t =>
    rw [hr2] at h
    exact h.2
  ·omega
 | bad t =>
  rw [hr] at h
  have h' : bd1 = (t : Int) := h
  rcases h2 with ⟨h, -⟩ | ⟨u, h, h3, -⟩
  ·omega
  ·show bd2 = _
   omega
def DILp (s : ByteArray) (b m : Nat) (w : World) (op a bv : Int) (n : Nat) (R : Rs (List Arm)) (iv : Value) (wr : World) : Prop :=
 ∃ (cs : List (Ck 12)) (lv : Value) (p : Nat) (bad : Int), iv = .int .i64 cs.length ∧ cs.length ≤ n ∧ Fr2 wr m 55 ZI #[.int .i64 op, .int .i64 a, .int .i64 bv, .int .i64 0, .int .i64 0, .complex .f64 0 0, .string ⟨#[]⟩, .int .i64 0, .int .i64 0, .slice none 0 0, lv] ∧ Rdc wr b s p bad ∧ Only [b] w wr ∧ OwnC KAr wr (m + 2) lv cs ∧
  ((bad = -1 ∧ p ≤ s.size ∧ ∃ xs : List Arm, xs.length = cs.length ∧ cs.flatMap (fun c => c.1) = xs.flatMap Arm.ds ∧ (rMany (rArm s) (n - cs.length) p).map (fun l => xs ++ l) = R) ∨ ∃ t : Nat, bad = (t : Int) ∧ R = .bad t)
def DInOk (s : ByteArray) : Prop := ∀ (b p : Nat) (w : World), Rdc w b s p (-1) → p ≤ s.size → s.size ≤ 262144 →
 Calls Tryz.prog 31 #[.pointer (some ⟨b, 0, none⟩)] w fun e w' => DS b s 11 In.ds (rIn s p) w e w'
theorem din_bad (s : ByteArray) (b p : Nat) (w : World) (hb : Rdc w b s p (-1)) (hp : p ≤ s.size) (hs : s.size ≤ 262144) (t : Nat) (h1 : rCnt s p = .bad t) :
 Calls Tryz.prog 31 #[.pointer (some ⟨b, 0, none⟩)] w fun e w' => DS b s 11 In.ds (rIn s p) w e w' := by
 have hbl := Bk.lt hb
 have KS0 : Hid (DI s b w.heap.size w ((w.alloc (.cells ZI 55)).alloc (.cells ZI 55)) p (-1) (iD 0 0 0 T.zero.ds (.sl 0 [])) ZI) := Lib.hid (DSt.made hb (iD_dvs _ _ _ (ZT7 _ _) (DV.none0 _ _)))
 obtain ⟨R, hR⟩ : ∃ R, rIn s p = R := ⟨_, rfl⟩
 rw [hR]
 obtain ⟨b0, b1, b2⟩ := Rdc.three KS0.out.rd
 have HK := Lib.hid (dcount_any b s p _ KS0.out.rd hp hs)
 rw [h1] at HK
 have HRE : Hid (R = .bad t) := Lib.hid (by rw [← hR]; unfold rIn; rw [rOne_bad h1]; rfl)
 clear hR h1
 go_enter Tryz.func31, Tryz.ntmps31
 go_wp2_with fail
 clear b0 b1 b2
 (with_reducible refine HK.out.mono ?_)
 rintro e w1 ⟨rfl, ⟨p2, g3⟩, g4⟩
 have KC := Lib.hid (KS0.out.call g4 g3 hbl)
 have KN := Lib.hid (KC.out.put (l' := iD 0 0 0 T.zero.ds (.sl 0 [])) (us' := #[.int .i64 0, .int .i64 0, .int .i64 0, .int .i64 0, .int .i64 0, .complex .f64 0 0, .string ⟨#[]⟩, .int .i64 0, .int .i64 0, .slice none 0 0, .slice none 0 0]) rfl hbl 0 (.int .i64 0) rfl (iD_dvs _ _ _ (ZT7 _ _) (DV.none0 _ _)))
 obtain ⟨x0, x1, x2, x3, x4, x5, x6, x7, x8, x9, x10⟩ := Bk.eleven KC.out.fr.t
 obtain ⟨c0, c1, c2⟩ := Rdc.three KC.out.rd
 have k0 := KC.out.fr.t.free 0
 have k1 := KC.out.fr.t.free 1
 have k2 := KC.out.fr.t.free 2
 have k3 := KC.out.fr.t.free 3
 have k4 := KC.out.fr.t.free 4
 have k5 := KC.out.fr.t.free 5
 have k6 := KC.out.fr.t.free 6
 have k7 := KC.out.fr.t.free 7
 have k8 := KC.out.fr.t.free 8
 have k9 := KC.out.fr.t.free 9
 have k10 := KC.out.fr.t.free 10
 clear g3 g4 HK KS0
 have hone : (#[.int .i64 0, .int .i64 0, .int .i64 0, .int .i64 0, .int .i64 0, .complex .f64 0 0, .string ⟨#[]⟩, .int .i64 0, .int .i64 0, .slice none 0 0, .slice none 0 0] : Array Value).all (·.oneCell') = true := by simp [Value.oneCell']
 have HE := Lib.hid (fun W' => DSt.fin (w' := W') KN.out rfl hbl)
 go_wp2_with (first
  | (refine wpList_load_row (by rfl) 55 _ (by rfl) (w.heap.size + 1) (by rfl) 55 #[.int .i64 0, .int .i64 0, .int .i64 0, .int .i64 0, .int .i64 0, .complex .f64 0 0, .string ⟨#[]⟩, .int .i64 0, .int .i64 0, .slice none 0 0, .slice none 0 0] (0, 0) _ KN.out.fr.t Tryz.underlying55 (by rfl) (by rw [size11i]; rfl) ?_)
  | (refine wpList_store_row (by rfl) _ _ _ (by rfl) w.heap.size #[.int .i64 0, .int .i64 0, .int .i64 0, .int .i64 0, .int .i64 0, .complex .f64 0 0, .string ⟨#[]⟩, .int .i64 0, .int .i64 0, .slice none 0 0, .slice none 0 0] (by rfl) (by rfl) 55 ZI KN.out.fr.o (by rw [size11i]; rfl) (by rfl) hone ?_; have HE2 := HE.out _ rfl; generalize World.setRow _ _ _ = W5 at HE2 ⊢; clear HE; obtain ⟨e1, e2⟩ := HE2; have E2 := Lib.hid e2; obtain ⟨z0, z1, z2, z3, z4, z5, z6, z7, z8, z9, z10⟩ := Bk.eleven e1; clear e1 e2))
 refine bodyPost_ret (v := .agg #[.int .i64 0, .int .i64 0, .int .i64 0, .int .i64 0, .int .i64 0, .complex .f64 0 0, .string ⟨#[]⟩, .int .i64 0, .int .i64 0, .slice none 0 0, .slice none 0 0]) (by simp [results, Tryz.results31, go_sem, z0, z1, z2, z3, z4, z5, z6, z7, z8, z9, z10]) rfl ?_
 rw [HRE.out]
 exact ⟨#[.int .i64 0, .int .i64 0, .int .i64 0, .int .i64 0, .int .i64 0, .complex .f64 0 0, .string ⟨#[]⟩, .int .i64 0, .int .i64 0, .slice none 0 0, .slice none 0 0], _, _, _, rfl, rfl, iD_len _ _ _ _ zt_len, iD_one _ _ _ zt_one (sl_one _ _), E2.out.1, E2.out.2.1, E2.out.2.2, rfl⟩
theorem din_no (s : ByteArray) (b p : Nat) (w : World) (hb : Rdc w b s p (-1)) (hp : p ≤ s.size) (hs : s.size ≤ 262144) (k q : Nat) (h1 : rCnt s p = .ok k q) (hin : ¬ (1 ≤ k ∧ k ≤ 46)) :
 Calls Tryz.prog 31 #[.pointer (some ⟨b, 0, none⟩)] w fun e w' => DS b s 11 In.ds (rIn s p) w e w' := by
 have hbl := Bk.lt hb
 have KS0 : Hid (DI s b w.heap.size w ((w.alloc (.cells ZI 55)).alloc (.cells ZI 55)) p (-1) (iD 0 0 0 T.zero.ds (.sl 0 [])) ZI) := Lib.hid (DSt.made hb (iD_dvs _ _ _ (ZT7 _ _) (DV.none0 _ _)))
 obtain ⟨R, hR⟩ : ∃ R, rIn s p = R := ⟨_, rfl⟩
 rw [hR]
 obtain ⟨b0, b1, b2⟩ := Rdc.three KS0.out.rd
 have HK := Lib.hid (dcount_any b s p _ KS0.out.rd hp hs)
 rw [h1] at HK
 have HRE : Hid (R = .bad p) := Lib.hid (by rw [← hR]; unfold rIn; rw [rOne_no h1 hin]; rfl)
 have HW := Lib.hid (fun w1 (h : Rdc w1 b s q (-1)) => wrong_any b s q p w1 h)
 clear hR h1
 have hcase : (k : Int) < 1 ∨ (¬ (k : Int) < 1 ∧ (46 : Int) < (k : Int)) := by omega
 clear hin
 rcases hcase with n1 | ⟨n1, n9⟩
 all_goals
  go_enter Tryz.func31, Tryz.ntmps31
  go_wp2_with fail
  clear b0 b1 b2
  (with_reducible refine HK.out.mono ?_)
  rintro e w1 ⟨rfl, g3, g4, hq⟩
  have KC := Lib.hid (KS0.out.call g4 g3 hbl)
  have KA := Lib.hid (KC.out.put (l' := iD (k : Int) 0 0 T.zero.ds (.sl 0 [])) (us' := #[.int .i64 k, .int .i64 0, .int .i64 0, .int .i64 0, .int .i64 0, .complex .f64 0 0, .string ⟨#[]⟩, .int .i64 0, .int .i64 0, .slice none 0 0, .slice none 0 0]) rfl hbl 0 (.int .i64 k) rfl (iD_dvs _ _ _ (ZT7 _ _) (DV.none0 _ _)))
  obtain ⟨x0, x1, x2, x3, x4, x5, x6, x7, x8, x9, x10⟩ := Bk.eleven KC.out.fr.t
  obtain ⟨c0, c1, c2⟩ := Rdc.three KC.out.rd
  have k0 := KC.out.fr.t.free 0
  have k1 := KC.out.fr.t.free 1
  have k2 := KC.out.fr.t.free 2
  have k3 := KC.out.fr.t.free 3
  have k4 := KC.out.fr.t.free 4
  have k5 := KC.out.fr.t.free 5
  have k6 := KC.out.fr.t.free 6
  have k7 := KC.out.fr.t.free 7
  have k8 := KC.out.fr.t.free 8
  have k9 := KC.out.fr.t.free 9
  have k10 := KC.out.fr.t.free 10
  clear g3 g4 HK KS0
  go_wp2_with fail
  clear x0 x1 x2 x3 x4 x5 x6 x7 x8 x9 x10 c0 c1 c2 k0 k1 k2 k3 k4 k5 k6 k7 k8 k9 k10
  (with_reducible refine (HW.out _ KA.out.rd).mono ?_)
  rintro e w2 ⟨rfl, g3, g4⟩
  have KN := Lib.hid (KA.out.call g4 g3 hbl)
  obtain ⟨x0, x1, x2, x3, x4, x5, x6, x7, x8, x9, x10⟩ := Bk.eleven KN.out.fr.t
  obtain ⟨c0, c1, c2⟩ := Rdc.three KN.out.rd
  have k0 := KN.out.fr.t.free 0
  have k1 := KN.out.fr.t.free 1
  have k2 := KN.out.fr.t.free 2
  have k3 := KN.out.fr.t.free 3
  have k4 := KN.out.fr.t.free 4
  have k5 := KN.out.fr.t.free 5
  have k6 := KN.out.fr.t.free 6
  have k7 := KN.out.fr.t.free 7
  have k8 := KN.out.fr.t.free 8
  have k9 := KN.out.fr.t.free 9
  have k10 := KN.out.fr.t.free 10
  clear g3 g4 HW KC KA
  have hone : (#[.int .i64 k, .int .i64 0, .int .i64 0, .int .i64 0, .int .i64 0, .complex .f64 0 0, .string ⟨#[]⟩, .int .i64 0, .int .i64 0, .slice none 0 0, .slice none 0 0] : Array Value).all (·.oneCell') = true := by simp [Value.oneCell']
  have HE := Lib.hid (fun W' => DSt.fin (w' := W') KN.out rfl hbl)
  go_wp2_with (first
   | (refine wpList_load_row (by rfl) 55 _ (by rfl) (w.heap.size + 1) (by rfl) 55 #[.int .i64 k, .int .i64 0, .int .i64 0, .int .i64 0, .int .i64 0, .complex .f64 0 0, .string ⟨#[]⟩, .int .i64 0, .int .i64 0, .slice none 0 0, .slice none 0 0] (0, 0) _ KN.out.fr.t Tryz.underlying55 (by rfl) (by rw [size11i]; rfl) ?_)
   | (refine wpList_store_row (by rfl) _ _ _ (by rfl) w.heap.size #[.int .i64 k, .int .i64 0, .int .i64 0, .int .i64 0, .int .i64 0, .complex .f64 0 0, .string ⟨#[]⟩, .int .i64 0, .int .i64 0, .slice none 0 0, .slice none 0 0] (by rfl) (by rfl) 55 ZI KN.out.fr.o (by rw [size11i]; rfl) (by rfl) hone ?_; have HE2 := HE.out _ rfl; generalize World.setRow _ _ _ = W5 at HE2 ⊢; clear HE; obtain ⟨e1, e2⟩ := HE2; have E2 := Lib.hid e2; obtain ⟨z0, z1, z2, z3, z4, z5, z6, z7, z8, z9, z10⟩ := Bk.eleven e1; clear e1 e2))
  refine bodyPost_ret (v := .agg #[.int .i64 k, .int .i64 0, .int .i64 0, .int .i64 0, .int .i64 0, .complex .f64 0 0, .string ⟨#[]⟩, .int .i64 0, .int .i64 0, .slice none 0 0, .slice none 0 0]) (by simp [results, Tryz.results31, go_sem, z0, z1, z2, z3, z4, z5, z6, z7, z8, z9, z10]) rfl ?_
  rw [HRE.out]
  exact ⟨#[.int .i64 k, .int .i64 0, .int .i64 0, .int .i64 0, .int .i64 0, .complex .f64 0 0, .string ⟨#[]⟩, .int .i64 0, .int .i64 0, .slice none 0 0, .slice none 0 0], _, _, _, rfl, rfl, iD_len _ _ _ _ zt_len, iD_one _ _ _ zt_one (sl_one _ _), E2.out.1, E2.out.2.1, E2.out.2.2, rfl⟩
theorem din_1 (s : ByteArray) (b p : Nat) (w : World) (hb : Rdc w b s p (-1)) (hp : p ≤ s.size) (hs : s.size ≤ 262144) (q : Nat) (h1 : rCnt s p = .ok 1 q) :
 Calls Tryz.prog 31 #[.pointer (some ⟨b, 0, none⟩)] w fun e w' => DS b s 11 In.ds (rIn s p) w e w' := by
 have hbl := Bk.lt hb
 have KS0 : Hid (DI s b w.heap.size w ((w.alloc (.cells ZI 55)).alloc (.cells ZI 55)) p (-1) (iD 0 0 0 T.zero.ds (.sl 0 [])) ZI) := Lib.hid (DSt.made hb (iD_dvs _ _ _ (ZT7 _ _) (DV.none0 _ _)))
 obtain ⟨R, hR⟩ : ∃ R, rIn s p = R := ⟨_, rfl⟩
 rw [hR]
 obtain ⟨b0, b1, b2⟩ := Rdc.three KS0.out.rd
 have HK := Lib.hid (dcount_any b s p _ KS0.out.rd hp hs)
 rw [h1] at HK
 have HRE : Hid (R = rFlds s [.term] ⟨1, 0, 0, .zero, []⟩ q) := Lib.hid (by rw [← hR]; unfold rIn; rw [rOne_ok h1 (by omega)]; rfl)
 clear hR h1
 go_enter Tryz.func31, Tryz.ntmps31
 go_wp2_with fail
 clear b0 b1 b2
 (with_reducible refine HK.out.mono ?_)
 rintro e w1 ⟨rfl, g3, g4, hq⟩
 have KC := Lib.hid (KS0.out.call g4 g3 hbl)
 have KA := Lib.hid (KC.out.put (l' := iD 1 0 0 T.zero.ds (.sl 0 [])) (us' := #[.int .i64 1, .int .i64 0, .int .i64 0, .int .i64 0, .int .i64 0, .complex .f64 0 0, .string ⟨#[]⟩, .int .i64 0, .int .i64 0, .slice none 0 0, .slice none 0 0]) rfl hbl 0 (.int .i64 1) rfl (iD_dvs _ _ _ (ZT7 _ _) (DV.none0 _ _)))
 obtain ⟨x0, x1, x2, x3, x4, x5, x6, x7, x8, x9, x10⟩ := Bk.eleven KC.out.fr.t
 obtain ⟨c0, c1, c2⟩ := Rdc.three KC.out.rd
 have k0 := KC.out.fr.t.free 0
 have k1 := KC.out.fr.t.free 1
 have k2 := KC.out.fr.t.free 2
 have k3 := KC.out.fr.t.free 3
 have k4 := KC.out.fr.t.free 4
 have k5 := KC.out.fr.t.free 5
 have k6 := KC.out.fr.t.free 6
 have k7 := KC.out.fr.t.free 7
 have k8 := KC.out.fr.t.free 8
 have k9 := KC.out.fr.t.free 9
 have k10 := KC.out.fr.t.free 10
 clear g3 g4 HK KS0
 have HT := Lib.hid (show Calls Tryz.prog _ #[.pointer (some ⟨b, 0, none⟩), .int .i64 0] _ fun e w' => DS b s 7 T.ds (rTerm s 64 q) _ e w' from dterm_any s 64 b q 0 _ rfl KA.out.rd hq hs)
 go_wp2_with fail
 clear x0 x1 x2 x3 x4 x5 x6 x7 x8 x9 x10 c0 c1 c2 k0 k1 k2 k3 k4 k5 k6 k7 k8 k9 k10
 (with_reducible refine HT.out.mono ?_)
 rintro e w3 ⟨us, l3, p3, bd3, rfl, hus, hl3, ho3, hd3, hr3, on3, hst3⟩
 have hu := DVs.one hd3 ho3
 obtain ⟨v0, v1, v2, v3, v4, v5, v6, rfl⟩ := seven_of hus
 have hu1 : (#[v0, v1, v2, v3, v4, v5, v6] : Array Value).all (·.oneCell') = true := by
  rw [Array.all_eq_true']
  intro v hv
  exact hu v (Array.mem_toList_iff.2 hv)
 have KC := Lib.hid (KA.out.call on3 hr3 hbl)
 have sz1 := Bk.lt KA.out.fr.t
 have hd2 := DVs.more (F' := fun g => w.heap.size + 1 < g) (fun g hg => by omega) hd3
 have hth : w3.there (w.heap.size + 1) 3 7 := fun j hj => by
  obtain rfl | rfl | rfl | rfl | rfl | rfl | rfl : j = 0 ∨ j = 1 ∨ j = 2 ∨ j = 3 ∨ j = 4 ∨ j = 5 ∨ j = 6 := by omega
  all_goals exact ⟨by rw [Bk.cell KC.out.fr.t]; rfl, Bk.free KC.out.fr.t _⟩
 have K0 := Lib.hid (KC.out.puts (l' := iD 1 0 0 l3 (.sl 0 [])) (us' := #[.int .i64 1, .int .i64 0, .int .i64 0, v0, v1, v2, v3, v4, v5, v6, .slice none 0 0]) rfl hbl 3 [v0, v1, v2, v3, v4, v5, v6] (by simp) (iD_dvs _ _ _ hd2 (DV.none0 _ _)))
 have hone0 : ∀ u ∈ (#[.int .i64 1, .int .i64 0, .int .i64 0, v0, v1, v2, v3, v4, v5, v6, .slice none 0 0] : Array Value), u.oneCell' = true := by
  intro v hv
  simp only [List.mem_toArray, List.mem_cons, List.not_mem_nil, or_false] at hv
  rcases hv with rfl | rfl | rfl | rfl | rfl | rfl | rfl | rfl | rfl | rfl | rfl <;> first | rfl | exact hu _ (by simp)
 have STK : Hid (StOk s In.ds (rFlds s [.term] ⟨1, 0, 0, .zero, []⟩ q) (iD 1 0 0 l3 (.sl 0 [])) p3 bd3) := Lib.hid (by
  cases hr : rTerm s 64 q with
  | ok x t =>
   rw [hr] at hst3
   obtain ⟨rfl, rfl, rfl, hps⟩ := hst3
   simp only [rFlds, rFld, hr, Rs.map, Rs.bind]
   exact ⟨rfl, rfl, rfl, hps⟩
  | bad t =>
   rw [hr] at hst3
   simp only [rFlds, rFld, hr, Rs.map, Rs.bind]
   exact hst3)
 clear hd3 hr3 on3 hst3 hd2 hu HT
 have hone : (#[.int .i64 1, .int .i64 0, .int .i64 0, v0, v1, v2, v3, v4, v5, v6, .slice none 0 0] : Array Value).all (·.oneCell') = true := by rw [Array.all_eq_true']; exact hone0
 go_wp2_with (first
  | (refine wpList_store_mid (by rfl) _ _ _ (by rfl) (w.heap.size + 1) 3 #[v0, v1, v2, v3, v4, v5, v6] (by rfl) (by rfl) hth (by rw [size7]; rfl) hu1 ?_; have key2 := K0.out; generalize World.setCells _ _ _ _ = W3 at key2 ⊢; clear K0; have KN := Lib.hid key2; have HE := Lib.hid (fun W' => DSt.fin (w' := W') key2 rfl hbl); clear key2)
  | (refine wpList_load_row (by rfl) 55 _ (by rfl) (w.heap.size + 1) (by rfl) 55 #[.int .i64 1, .int .i64 0, .int .i64 0, v0, v1, v2, v3, v4, v5, v6, .slice none 0 0] (0, 0) _ KN.out.fr.t Tryz.underlying55 (by rfl) (by rw [size11i]; rfl) ?_)
  | (refine wpList_store_row (by rfl) _ _ _ (by rfl) w.heap.size #[.int .i64 1, .int .i64 0, .int .i64 0, v0, v1, v2, v3, v4, v5, v6, .slice none 0 0] (by rfl) (by rfl) 55 ZI KN.out.fr.o (by rw [size11i]; rfl) (by rfl) hone ?_; have HE2 := HE.out _ rfl; generalize World.setRow _ _ _ = W5 at HE2 ⊢; clear HE; obtain ⟨e1, e2⟩ := HE2; have E2 := Lib.hid e2; obtain ⟨z0, z1, z2, z3, z4, z5, z6, z7, z8, z9, z10⟩ := Bk.eleven e1; clear e1 e2))
 refine bodyPost_ret (v := .agg #[.int .i64 1, .int .i64 0, .int .i64 0, v0, v1, v2, v3, v4, v5, v6, .slice none 0 0]) (by simp [results, Tryz.results31, go_sem, z0, z1, z2, z3, z4, z5, z6, z7, z8, z9, z10]) rfl ?_
 rw [HRE.out]
 exact ⟨#[.int .i64 1, .int .i64 0, .int .i64 0, v0, v1, v2, v3, v4, v5, v6, .slice none 0 0], _, _, _, rfl, rfl, iD_len _ _ _ _ hl3, iD_one _ _ _ ho3 (sl_one _ _), E2.out.1, E2.out.2.1, E2.out.2.2, STK.out⟩
theorem din_34 (s : ByteArray) (b p : Nat) (w : World) (hb : Rdc w b s p (-1)) (hp : p ≤ s.size) (hs : s.size ≤ 262144) (q : Nat) (h1 : rCnt s p = .ok 34 q) :
 Calls Tryz.prog 31 #[.pointer (some ⟨b, 0, none⟩)] w fun e w' => DS b s 11 In.ds (rIn s p) w e w' := by
 have hbl := Bk.lt hb
 have KS0 : Hid (DI s b w.heap.size w ((w.alloc (.cells ZI 55)).alloc (.cells ZI 55)) p (-1) (iD 0 0 0 T.zero.ds (.sl 0 [])) ZI) := Lib.hid (DSt.made hb (iD_dvs _ _ _ (ZT7 _ _) (DV.none0 _ _)))
 obtain ⟨R, hR⟩ : ∃ R, rIn s p = R := ⟨_, rfl⟩
 rw [hR]
 obtain ⟨b0, b1, b2⟩ := Rdc.three KS0.out.rd
 have HK := Lib.hid (dcount_any b s p _ KS0.out.rd hp hs)
 rw [h1] at HK
 have HRE : Hid (R = rFlds s [.a, .b] ⟨34, 0, 0, .zero, []⟩ q) := Lib.hid (by rw [← hR]; unfold rIn; rw [rOne_ok h1 (by omega)]; rfl)
 clear hR h1
 go_enter Tryz.func31, Tryz.ntmps31
 go_wp2_with fail
 clear b0 b1 b2
 (with_reducible refine HK.out.mono ?_)
 rintro e w1 ⟨rfl, g3, g4, hq⟩
 have KC := Lib.hid (KS0.out.call g4 g3 hbl)
 have KA := Lib.hid (KC.out.put (l' := iD 34 0 0 T.zero.ds (.sl 0 [])) (us' := #[.int .i64 34, .int .i64 0, .int .i64 0, .int .i64 0, .int .i64 0, .complex .f64 0 0, .string ⟨#[]⟩, .int .i64 0, .int .i64 0, .slice none 0 0, .slice none 0 0]) rfl hbl 0 (.int .i64 34) rfl (iD_dvs _ _ _ (ZT7 _ _) (DV.none0 _ _)))
 obtain ⟨x0, x1, x2, x3, x4, x5, x6, x7, x8, x9, x10⟩ := Bk.eleven KC.out.fr.t
 obtain ⟨c0, c1, c2⟩ := Rdc.three KC.out.rd
 have k0 := KC.out.fr.t.free 0
 have k1 := KC.out.fr.t.free 1
 have k2 := KC.out.fr.t.free 2
 have k3 := KC.out.fr.t.free 3
 have k4 := KC.out.fr.t.free 4
 have k5 := KC.out.fr.t.free 5
 have k6 := KC.out.fr.t.free 6
 have k7 := KC.out.fr.t.free 7
 have k8 := KC.out.fr.t.free 8
 have k9 := KC.out.fr.t.free 9
 have k10 := KC.out.fr.t.free 10
 clear g3 g4 HK KS0
 have G1 : Hid (Gd s q (-1)) := Lib.hid (.inl ⟨rfl, hq⟩)
 have HX1 := Lib.hid (dcnt_x b s _ _ _ KA.out.rd G1.out hs)
 go_wp2_with fail
 clear x0 x1 x2 x3 x4 x5 x6 x7 x8 x9 x10 c0 c1 c2 k0 k1 k2 k3 k4 k5 k6 k7 k8 k9 k10
 (with_reducible refine HX1.out.mono ?_)
 rintro e w2 ⟨n1, p1, bd1, rfl, g3, g4, N1⟩
 have KC1 := Lib.hid (KA.out.call g4 g3 hbl)
 have KB := Lib.hid (KC1.out.put (l' := iD 34 n1 0 T.zero.ds (.sl 0 [])) (us' := #[.int .i64 34, .int .i64 n1, .int .i64 0, .int .i64 0, .int .i64 0, .complex .f64 0 0, .string ⟨#[]⟩, .int .i64 0, .int .i64 0, .slice none 0 0, .slice none 0 0]) rfl hbl 1 (.int .i64 n1) rfl (iD_dvs _ _ _ (ZT7 _ _) (DV.none0 _ _)))
 obtain ⟨x0, x1, x2, x3, x4, x5, x6, x7, x8, x9, x10⟩ := Bk.eleven KC1.out.fr.t
 obtain ⟨c0, c1, c2⟩ := Rdc.three KC1.out.rd
 have k0 := KC1.out.fr.t.free 0
 have k1 := KC1.out.fr.t.free 1
 have k2 := KC1.out.fr.t.free 2
 have k3 := KC1.out.fr.t.free 3
 have k4 := KC1.out.fr.t.free 4
 have k5 := KC1.out.fr.t.free 5
 have k6 := KC1.out.fr.t.free 6
 have k7 := KC1.out.fr.t.free 7
 have k8 := KC1.out.fr.t.free 8
 have k9 := KC1.out.fr.t.free 9
 have k10 := KC1.out.fr.t.free 10
 have G2 := Lib.hid (Nx.gd N1)
 have M1 := Lib.hid N1
 clear g3 g4 HX1 N1
 have HX2 := Lib.hid (dcnt_x b s _ _ _ KB.out.rd G2.out hs)
 go_wp2_with fail
 clear x0 x1 x2 x3 x4 x5 x6 x7 x8 x9 x10 c0 c1 c2 k0 k1 k2 k3 k4 k5 k6 k7 k8 k9 k10
 (with_reducible refine HX2.out.mono ?_)
 rintro e w3 ⟨n2, p2, bd2, rfl, g3, g4, N2⟩
 have KC2 := Lib.hid (KB.out.call g4 g3 hbl)
 have KN := Lib.hid (KC2.out.put (l' := iD 34 n1 n2 T.zero.ds (.sl 0 [])) (us' := #[.int .i64 34, .int .i64 n1, .int .i64 n2, .int .i64 0, .int .i64 0, .complex .f64 0 0, .string ⟨#[]⟩, .int .i64 0, .int .i64 0, .slice none 0 0, .slice none 0 0]) rfl hbl 2 (.int .i64 n2) rfl (iD_dvs _ _ _ (ZT7 _ _) (DV.none0 _ _)))
 obtain ⟨x0, x1, x2, x3, x4, x5, x6, x7, x8, x9, x10⟩ := Bk.eleven KC2.out.fr.t
 obtain ⟨c0, c1, c2⟩ := Rdc.three KC2.out.rd
 have k0 := KC2.out.fr.t.free 0
 have k1 := KC2.out.fr.t.free 1
 have k2 := KC2.out.fr.t.free 2
 have k3 := KC2.out.fr.t.free 3
 have k4 := KC2.out.fr.t.free 4
 have k5 := KC2.out.fr.t.free 5
 have k6 := KC2.out.fr.t.free 6
 have k7 := KC2.out.fr.t.free 7
 have k8 := KC2.out.fr.t.free 8
 have k9 := KC2.out.fr.t.free 9
 have k10 := KC2.out.fr.t.free 10
 have G3 := Lib.hid (Nx.gd N2)
 have M2 := Lib.hid N2
 clear g3 g4 HX2 N2
 have hone : (#[.int .i64 34, .int .i64 n1, .int .i64 n2, .int .i64 0, .int .i64 0, .complex .f64 0 0, .string ⟨#[]⟩, .int .i64 0, .int .i64 0, .slice none 0 0, .slice none 0 0] : Array Value).all (·.oneCell') = true := by simp [Value.oneCell']
 have HE := Lib.hid (fun W' => DSt.fin (w' := W') KN.out rfl hbl)
 go_wp2_with (first
  | (refine wpList_load_row (by rfl) 55 _ (by rfl) (w.heap.size + 1) (by rfl) 55 #[.int .i64 34, .int .i64 n1, .int .i64 n2, .int .i64 0, .int .i64 0, .complex .f64 0 0, .string ⟨#[]⟩, .int .i64 0, .int .i64 0, .slice none 0 0, .slice none 0 0] (0, 0) _ KN.out.fr.t Tryz.underlying55 (by rfl) (by rw [size11i]; rfl) ?_)
  | (refine wpList_store_row (by rfl) _ _ _ (by rfl) w.heap.size #[.int .i64 34, .int .i64 n1, .int .i64 n2, .int .i64 0, .int .i64 0, .complex .f64 0 0, .string ⟨#[]⟩, .int .i64 0, .int .i64 0, .slice none 0 0, .slice none 0 0] (by rfl) (by rfl) 55 ZI KN.out.fr.o (by rw [size11i]; rfl) (by rfl) hone ?_; have HE2 := HE.out _ rfl; generalize World.setRow _ _ _ = W5 at HE2 ⊢; clear HE; obtain ⟨e1, e2⟩ := HE2; have E2 := Lib.hid e2; obtain ⟨z0, z1, z2, z3, z4, z5, z6, z7, z8, z9, z10⟩ := Bk.eleven e1; clear e1 e2))
 refine bodyPost_ret (v := .agg #[.int .i64 34, .int .i64 n1, .int .i64 n2, .int .i64 0, .int .i64 0, .complex .f64 0 0, .string ⟨#[]⟩, .int .i64 0, .int .i64 0, .slice none 0 0, .slice none 0 0]) (by simp [results, Tryz.results31, go_sem, z0, z1, z2, z3, z4, z5, z6, z7, z8, z9, z10]) rfl ?_
 rw [HRE.out]
 exact ⟨#[.int .i64 34, .int .i64 n1, .int .i64 n2, .int .i64 0, .int .i64 0, .complex .f64 0 0, .string ⟨#[]⟩, .int .i64 0, .int .i64 0, .slice none 0 0, .slice none 0 0], _, _, _, rfl, rfl, iD_len _ _ _ _ zt_len, iD_one _ _ _ zt_one (sl_one _ _), E2.out.1, E2.out.2.1, E2.out.2.2, nx_ab M1.out M2.out⟩
theorem din_a (s : ByteArray) (b p : Nat) (w : World) (hb : Rdc w b s p (-1)) (hp : p ≤ s.size) (hs : s.size ≤ 262144) (op q : Nat) (h1 : rCnt s p = .ok op q) (hin : 1 ≤ op ∧ op ≤ 46) (ha : hasAB op = true) :
 Calls Tryz.prog 31 #[.pointer (some ⟨b, 0, none⟩)] w fun e w' => DS b s 11 In.ds (rIn s p) w e w' := by
 have hbl := Bk.lt hb
 have KS0 : Hid (DI s b w.heap.size w ((w.alloc (.cells ZI 55)).alloc (.cells ZI 55)) p (-1) (iD 0 0 0 T.zero.ds (.sl 0 [])) ZI) := Lib.hid (DSt.made hb (iD_dvs _ _ _ (ZT7 _ _) (DV.none0 _ _)))
 obtain ⟨R, hR⟩ : ∃ R, rIn s p = R := ⟨_, rfl⟩
 rw [hR]
 obtain ⟨b0, b1, b2⟩ := Rdc.three KS0.out.rd
 have HK := Lib.hid (dcount_any b s p _ KS0.out.rd hp hs)
 rw [h1] at HK
 have n1 : ¬ (op : Int) = 1 := by have := of_decide_eq_true ha; omega
 have n34 : ¬ (op : Int) = 34 := by have := of_decide_eq_true ha; omega
 have n27 : ¬ (op : Int) = 27 := by have := of_decide_eq_true ha; omega
 have n33 : ¬ (op : Int) = 33 := by have := of_decide_eq_true ha; omega
 have r1 : ¬ (op : Int) < 1 := by omega
 have r46 : ¬ (46 : Int) < (op : Int) := by omega
 have HA := Lib.hid (fun W => hasA_any op W)
 have HRE : Hid (R = rFlds s [.a] ⟨op, 0, 0, .zero, []⟩ q) := Lib.hid (by rw [← hR]; unfold rIn; rw [rOne_ok h1 (by omega)]; show rFlds s (fldsOf op) _ q = _; rw [show fldsOf op = [.a] by unfold fldsOf; rw [if_neg (by omega), if_pos (of_decide_eq_true ha)]])
 clear hR h1
 go_enter Tryz.func31, Tryz.ntmps31
 go_wp2_with fail
 clear b0 b1 b2
 (with_reducible refine HK.out.mono ?_)
 rintro e w1 ⟨rfl, g3, g4, hq⟩
 have KC := Lib.hid (KS0.out.call g4 g3 hbl)
 have KA := Lib.hid (KC.out.put (l' := iD op 0 0 T.zero.ds (.sl 0 [])) (us' := #[.int .i64 op, .int .i64 0, .int .i64 0, .int .i64 0, .int .i64 0, .complex .f64 0 0, .string ⟨#[]⟩, .int .i64 0, .int .i64 0, .slice none 0 0, .slice none 0 0]) rfl hbl 0 (.int .i64 op) rfl (iD_dvs _ _ _ (ZT7 _ _) (DV.none0 _ _)))
 obtain ⟨x0, x1, x2, x3, x4, x5, x6, x7, x8, x9, x10⟩ := Bk.eleven KC.out.fr.t
 obtain ⟨c0, c1, c2⟩ := Rdc.three KC.out.rd
 have k0 := KC.out.fr.t.free 0
 have k1 := KC.out.fr.t.free 1
 have k2 := KC.out.fr.t.free 2
 have k3 := KC.out.fr.t.free 3
 have k4 := KC.out.fr.t.free 4
 have k5 := KC.out.fr.t.free 5
 have k6 := KC.out.fr.t.free 6
 have k7 := KC.out.fr.t.free 7
 have k8 := KC.out.fr.t.free 8
 have k9 := KC.out.fr.t.free 9
 have k10 := KC.out.fr.t.free 10
 clear g3 g4 HK KS0
 have G1 : Hid (Gd s q (-1)) := Lib.hid (.inl ⟨rfl, hq⟩)
 rw [ha] at HA
 go_wp2_with fail
 (with_reducible refine (HA.out _).mono ?_)
 rintro e w9 ⟨rfl, rfl⟩
 have HX1 := Lib.hid (dcnt_x b s _ _ _ KA.out.rd G1.out hs)
 go_wp2_with fail
 clear x0 x1 x2 x3 x4 x5 x6 x7 x8 x9 x10 c0 c1 c2 k0 k1 k2 k3 k4 k5 k6 k7 k8 k9 k10
 (with_reducible refine HX1.out.mono ?_)
 rintro e w2 ⟨n1, p1, bd1, rfl, g3, g4, N1⟩
 have KC1 := Lib.hid (KA.out.call g4 g3 hbl)
 have KN := Lib.hid (KC1.out.put (l' := iD op n1 0 T.zero.ds (.sl 0 [])) (us' := #[.int .i64 op, .int .i64 n1, .int .i64 0, .int .i64 0, .int .i64 0, .complex .f64 0 0, .string ⟨#[]⟩, .int .i64 0, .int .i64 0, .slice none 0 0, .slice none 0 0]) rfl hbl 1 (.int .i64 n1) rfl (iD_dvs _ _ _ (ZT7 _ _) (DV.none0 _ _)))
 obtain ⟨x0, x1, x2, x3, x4, x5, x6, x7, x8, x9, x10⟩ := Bk.eleven KC1.out.fr.t
 obtain ⟨c0, c1, c2⟩ := Rdc.three KC1.out.rd
 have k0 := KC1.out.fr.t.free 0
 have k1 := KC1.out.fr.t.free 1
 have k2 := KC1.out.fr.t.free 2
 have k3 := KC1.out.fr.t.free 3
 have k4 := KC1.out.fr.t.free 4
 have k5 := KC1.out.fr.t.free 5
 have k6 := KC1.out.fr.t.free 6
 have k7 := KC1.out.fr.t.free 7
 have k8 := KC1.out.fr.t.free 8
 have k9 := KC1.out.fr.t.free 9
 have k10 := KC1.out.fr.t.free 10
 have G2 := Lib.hid (Nx.gd N1)
 have M1 := Lib.hid N1
 clear g3 g4 HX1 N1
 have hone : (#[.int .i64 op, .int .i64 n1, .int .i64 0, .int .i64 0, .int .i64 0, .complex .f64 0 0, .string ⟨#[]⟩, .int .i64 0, .int .i64 0, .slice none 0 0, .slice none 0 0] : Array Value).all (·.oneCell') = true := by simp [Value.oneCell']
 have HE := Lib.hid (fun W' => DSt.fin (w' := W') KN.out rfl hbl)
 go_wp2_with (first
  | (refine wpList_load_row (by rfl) 55 _ (by rfl) (w.heap.size + 1) (by rfl) 55 #[.int .i64 op, .int .i64 n1, .int .i64 0, .int .i64 0, .int .i64 0, .complex .f64 0 0, .string ⟨#[]⟩, .int .i64 0, .int .i64 0, .slice none 0 0, .slice none 0 0] (0, 0) _ KN.out.fr.t Tryz.underlying55 (by rfl) (by rw [size11i]; rfl) ?_)
  | (refine wpList_store_row (by rfl) _ _ _ (by rfl) w.heap.size #[.int .i64 op, .int .i64 n1, .int .i64 0, .int .i64 0, .int .i64 0, .complex .f64 0 0, .string ⟨#[]⟩, .int .i64 0, .int .i64 0, .slice none 0 0, .slice none 0 0] (by rfl) (by rfl) 55 ZI KN.out.fr.o (by rw [size11i]; rfl) (by rfl) hone ?_; have HE2 := HE.out _ rfl; generalize World.setRow _ _ _ = W5 at HE2 ⊢; clear HE; obtain ⟨e1, e2⟩ := HE2; have E2 := Lib.hid e2; obtain ⟨z0, z1, z2, z3, z4, z5, z6, z7, z8, z9, z10⟩ := Bk.eleven e1; clear e1 e2))
 refine bodyPost_ret (v := .agg #[.int .i64 op, .int .i64 n1, .int .i64 0, .int .i64 0, .int .i64 0, .complex .f64 0 0, .string ⟨#[]⟩, .int .i64 0, .int .i64 0, .slice none 0 0, .slice none 0 0]) (by simp [results, Tryz.results31, go_sem, z0, z1, z2, z3, z4, z5, z6, z7, z8, z9, z10]) rfl ?_
 rw [HRE.out]
 exact ⟨#[.int .i64 op, .int .i64 n1, .int .i64 0, .int .i64 0, .int .i64 0, .complex .f64 0 0, .string ⟨#[]⟩, .int .i64 0, .int .i64 0, .slice none 0 0, .slice none 0 0], _, _, _, rfl, rfl, iD_len _ _ _ _ zt_len, iD_one _ _ _ zt_one (sl_one _ _), E2.out.1, E2.out.2.1, E2.out.2.2, nx_a M1.out⟩
theorem din_z (s : ByteArray) (b p : Nat) (w : World) (hb : Rdc w b s p (-1)) (hp : p ≤ s.size) (hs : s.size ≤ 262144) (op q : Nat) (h1 : rCnt s p = .ok op q) (hin : 1 ≤ op ∧ op ≤ 46) (ha : hasAB op = false) (h0 : op ≠ 1 ∧ op ≠ 34 ∧ op ≠ 27 ∧ op ≠ 33) :
 Calls Tryz.prog 31 #[.pointer (some ⟨b, 0, none⟩)] w fun e w' => DS b s 11 In.ds (rIn s p) w e w' := by
 have hbl := Bk.lt hb
 have KS0 : Hid (DI s b w.heap.size w ((w.alloc (.cells ZI 55)).alloc (.cells ZI 55)) p (-1) (iD 0 0 0 T.zero.ds (.sl 0 [])) ZI) := Lib.hid (DSt.made hb (iD_dvs _ _ _ (ZT7 _ _) (DV.none0 _ _)))
 obtain ⟨R, hR⟩ : ∃ R, rIn s p = R := ⟨_, rfl⟩
 rw [hR]
 obtain ⟨b0, b1, b2⟩ := Rdc.three KS0.out.rd
 have HK := Lib.hid (dcount_any b s p _ KS0.out.rd hp hs)
 rw [h1] at HK
 have n1 : ¬ (op : Int) = 1 := by omega
 have n34 : ¬ (op : Int) = 34 := by omega
 have n27 : ¬ (op : Int) = 27 := by omega
 have n33 : ¬ (op : Int) = 33 := by omega
 have r1 : ¬ (op : Int) < 1 := by omega
 have r46 : ¬ (46 : Int) < (op : Int) := by omega
 have HA := Lib.hid (fun W => hasA_any op W)
 have HRE : Hid (R = rFlds s [] ⟨op, 0, 0, .zero, []⟩ q) := Lib.hid (by rw [← hR]; unfold rIn; rw [rOne_ok h1 (by omega)]; show rFlds s (fldsOf op) _ q = _; rw [show fldsOf op = [] by unfold fldsOf; rw [if_neg (by omega), if_neg (of_decide_eq_false ha), if_neg (by omega), if_neg (by omega), if_neg (by omega)]])
 clear hR h1
 go_enter Tryz.func31, Tryz.ntmps31
 go_wp2_with fail
 clear b0 b1 b2
 (with_reducible refine HK.out.mono ?_)
 rintro e w1 ⟨rfl, g3, g4, hq⟩
 have KC := Lib.hid (KS0.out.call g4 g3 hbl)
 have KA := Lib.hid (KC.out.put (l' := iD op 0 0 T.zero.ds (.sl 0 [])) (us' := #[.int .i64 op, .int .i64 0, .int .i64 0, .int .i64 0, .int .i64 0, .complex .f64 0 0, .string ⟨#[]⟩, .int .i64 0, .int .i64 0, .slice none 0 0, .slice none 0 0]) rfl hbl 0 (.int .i64 op) rfl (iD_dvs _ _ _ (ZT7 _ _) (DV.none0 _ _)))
 obtain ⟨x0, x1, x2, x3, x4, x5, x6, x7, x8, x9, x10⟩ := Bk.eleven KC.out.fr.t
 obtain ⟨c0, c1, c2⟩ := Rdc.three KC.out.rd
 have k0 := KC.out.fr.t.free 0
 have k1 := KC.out.fr.t.free 1
 have k2 := KC.out.fr.t.free 2
 have k3 := KC.out.fr.t.free 3
 have k4 := KC.out.fr.t.free 4
 have k5 := KC.out.fr.t.free 5
 have k6 := KC.out.fr.t.free 6
 have k7 := KC.out.fr.t.free 7
 have k8 := KC.out.fr.t.free 8
 have k9 := KC.out.fr.t.free 9
 have k10 := KC.out.fr.t.free 10
 clear g3 g4 HK KS0
 rw [ha] at HA
 go_wp2_with fail
 (with_reducible refine (HA.out _).mono ?_)
 rintro e w9 ⟨rfl, rfl⟩
 have KN := KA
 have hone : (#[.int .i64 op, .int .i64 0, .int .i64 0, .int .i64 0, .int .i64 0, .complex .f64 0 0, .string ⟨#[]⟩, .int .i64 0, .int .i64 0, .slice none 0 0, .slice none 0 0] : Array Value).all (·.oneCell') = true := by simp [Value.oneCell']
 have HE := Lib.hid (fun W' => DSt.fin (w' := W') KN.out rfl hbl)
 go_wp2_with (first
  | (refine wpList_load_row (by rfl) 55 _ (by rfl) (w.heap.size + 1) (by rfl) 55 #[.int .i64 op, .int .i64 0, .int .i64 0, .int .i64 0, .int .i64 0, .complex .f64 0 0, .string ⟨#[]⟩, .int .i64 0, .int .i64 0, .slice none 0 0, .slice none 0 0] (0, 0) _ KN.out.fr.t Tryz.underlying55 (by rfl) (by rw [size11i]; rfl) ?_)
  | (refine wpList_store_row (by rfl) _ _ _ (by rfl) w.heap.size #[.int .i64 op, .int .i64 0, .int .i64 0, .int .i64 0, .int .i64 0, .complex .f64 0 0, .string ⟨#[]⟩, .int .i64 0, .int .i64 0, .slice none 0 0, .slice none 0 0] (by rfl) (by rfl) 55 ZI KN.out.fr.o (by rw [size11i]; rfl) (by rfl) hone ?_; have HE2 := HE.out _ rfl; generalize World.setRow _ _ _ = W5 at HE2 ⊢; clear HE; obtain ⟨e1, e2⟩ := HE2; have E2 := Lib.hid e2; obtain ⟨z0, z1, z2, z3, z4, z5, z6, z7, z8, z9, z10⟩ := Bk.eleven e1; clear e1 e2))
 refine bodyPost_ret (v := .agg #[.int .i64 op, .int .i64 0, .int .i64 0, .int .i64 0, .int .i64 0, .complex .f64 0 0, .string ⟨#[]⟩, .int .i64 0, .int .i64 0, .slice none 0 0, .slice none 0 0]) (by simp [results, Tryz.results31, go_sem, z0, z1, z2, z3, z4, z5, z6, z7, z8, z9, z10]) rfl ?_
 rw [HRE.out]
 exact ⟨#[.int .i64 op, .int .i64 0, .int .i64 0, .int .i64 0, .int .i64 0, .complex .f64 0 0, .string ⟨#[]⟩, .int .i64 0, .int .i64 0, .slice none 0 0, .slice none 0 0], _, _, _, rfl, rfl, iD_len _ _ _ _ zt_len, iD_one _ _ _ zt_one (sl_one _ _), E2.out.1, E2.out.2.1, E2.out.2.2, ⟨rfl, rfl, rfl, hq⟩⟩
theorem din_27 (s : ByteArray) (b p : Nat) (w : World) (hb : Rdc w b s p (-1)) (hp : p ≤ s.size) (hs : s.size ≤ 262144) (q : Nat) (h1 : rCnt s p = .ok 27 q) :
 Calls Tryz.prog 31 #[.pointer (some ⟨b, 0, none⟩)] w fun e w' => DS b s 11 In.ds (rIn s p) w e w' := by
 have hbl := Bk.lt hb
 have KS0 : Hid (DI s b w.heap.size w ((w.alloc (.cells ZI 55)).alloc (.cells ZI 55)) p (-1) (iD 0 0 0 T.zero.ds (.sl 0 [])) ZI) := Lib.hid (DSt.made hb (iD_dvs _ _ _ (ZT7 _ _) (DV.none0 _ _)))
 obtain ⟨R, hR⟩ : ∃ R, rIn s p = R := ⟨_, rfl⟩
 rw [hR]
 obtain ⟨b0, b1, b2⟩ := Rdc.three KS0.out.rd
 have HK := Lib.hid (dcount_any b s p _ KS0.out.rd hp hs)
 rw [h1] at HK
 have HRE : Hid (R = rFlds s [.a, .arms] ⟨27, 0, 0, .zero, []⟩ q) := Lib.hid (by rw [← hR]; unfold rIn; rw [rOne_ok h1 (by omega)]; rfl)
 clear hR h1
 go_enter Tryz.func31, Tryz.ntmps31
 go_wp2_with fail
 clear b0 b1 b2
 (with_reducible refine HK.out.mono ?_)
 rintro e w1 ⟨rfl, g3, g4, hq⟩
 have KC := Lib.hid (KS0.out.call g4 g3 hbl)
 have KA := Lib.hid (KC.out.put (l' := iD 27 0 0 T.zero.ds (.sl 0 [])) (us' := #[.int .i64 27, .int .i64 0, .int .i64 0, .int .i64 0, .int .i64 0, .complex .f64 0 0, .string ⟨#[]⟩, .int .i64 0, .int .i64 0, .slice none 0 0, .slice none 0 0]) rfl hbl 0 (.int .i64 27) rfl (iD_dvs _ _ _ (ZT7 _ _) (DV.none0 _ _)))
 obtain ⟨x0, x1, x2, x3, x4, x5, x6, x7, x8, x9, x10⟩ := Bk.eleven KC.out.fr.t
 obtain ⟨c0, c1, c2⟩ := Rdc.three KC.out.rd
 have k0 := KC.out.fr.t.free 0
 have k1 := KC.out.fr.t.free 1
 have k2 := KC.out.fr.t.free 2
 have k3 := KC.out.fr.t.free 3
 have k4 := KC.out.fr.t.free 4
 have k5 := KC.out.fr.t.free 5
 have k6 := KC.out.fr.t.free 6
 have k7 := KC.out.fr.t.free 7
 have k8 := KC.out.fr.t.free 8
 have k9 := KC.out.fr.t.free 9
 have k10 := KC.out.fr.t.free 10
 clear g3 g4 HK KS0
 have G1 : Hid (Gd s q (-1)) := Lib.hid (.inl ⟨rfl, hq⟩)
 have HX1 := Lib.hid (dcnt_x b s _ _ _ KA.out.rd G1.out hs)
 go_wp2_with fail
 clear x0 x1 x2 x3 x4 x5 x6 x7 x8 x9 x10 c0 c1 c2 k0 k1 k2 k3 k4 k5 k6 k7 k8 k9 k10
 (with_reducible refine HX1.out.mono ?_)
 rintro e w2 ⟨n1, p1, bd1, rfl, g3, g4, N1⟩
 have KC1 := Lib.hid (KA.out.call g4 g3 hbl)
 have KB := Lib.hid (KC1.out.put (l' := iD 27 n1 0 T.zero.ds (.sl 0 [])) (us' := #[.int .i64 27, .int .i64 n1, .int .i64 0, .int .i64 0, .int .i64 0, .complex .f64 0 0, .string ⟨#[]⟩, .int .i64 0, .int .i64 0, .slice none 0 0, .slice none 0 0]) rfl hbl 1 (.int .i64 n1) rfl (iD_dvs _ _ _ (ZT7 _ _) (DV.none0 _ _)))
 obtain ⟨x0, x1, x2, x3, x4, x5, x6, x7, x8, x9, x10⟩ := Bk.eleven KC1.out.fr.t
 obtain ⟨c0, c1, c2⟩ := Rdc.three KC1.out.rd
 have k0 := KC1.out.fr.t.free 0
 have k1 := KC1.out.fr.t.free 1
 have k2 := KC1.out.fr.t.free 2
 have k3 := KC1.out.fr.t.free 3
 have k4 := KC1.out.fr.t.free 4
 have k5 := KC1.out.fr.t.free 5
 have k6 := KC1.out.fr.t.free 6
 have k7 := KC1.out.fr.t.free 7
 have k8 := KC1.out.fr.t.free 8
 have k9 := KC1.out.fr.t.free 9
 have k10 := KC1.out.fr.t.free 10
 have G2 := Lib.hid (Nx.gd N1)
 have M1 := Lib.hid N1
 clear g3 g4 HX1 N1
 have HM := Lib.hid (dmany_x b s _ _ _ KB.out.rd G2.out hs)
 go_wp2_with fail
 clear x0 x1 x2 x3 x4 x5 x6 x7 x8 x9 x10 c0 c1 c2 k0 k1 k2 k3 k4 k5 k6 k7 k8 k9 k10
 (with_reducible refine HM.out.mono ?_)
 rintro e w5 ⟨nn, p5, bd5, rfl, g3, g4, N5⟩
 obtain ⟨n, rfl, hn⟩ := Nx.nat N5
 have KE := Lib.hid (KB.out.call g4 g3 hbl)
 have G9 := Lib.hid (Nx.gd N5)
 have MM := Lib.hid N5
 obtain ⟨R2, hR2⟩ : ∃ R2, rFrom (rArm s) n p5 bd5 = R2 := ⟨_, rfl⟩
 have HR2 := Lib.hid hR2
 have hsz2 := Bk.lt KE.out.fr.t
 clear g3 g4 HM N5 hR2
 go_wp2_with fail
 go_loopw [6] (fun iv wr => DILp s b w.heap.size w 27 n1 0 n R2 iv wr) (fun iv _ => n - (intOf iv).toNat)
 case atStart =>
  refine ⟨[], .slice none 0 0, p5, bd5, rfl, Nat.zero_le _, KE.out.fr, KE.out.rd, KE.out.on, OwnC.nil _ _ _, ?_⟩
  rcases G9.out with ⟨rfl, h⟩ | ⟨t, rfl⟩
  ·refine .inl ⟨rfl, h, [], rfl, rfl, ?_⟩
   rw [← HR2.out]
   show Rs.map _ (rMany _ (n - 0) p5) = rMany (rArm s) n p5
   rw [Nat.sub_zero]
   cases rMany (rArm s) n p5 <;> rfl
  ·refine .inr ⟨t, rfl, ?_⟩
   rw [← HR2.out]
   unfold rFrom
   rw [if_neg (by omega)]
   rfl
 case round =>
  obtain ⟨cs, lv, p2, bd, rfl, hcn, h1, h2, h3, h4, h6⟩ := hrel
  obtain ⟨A, cap, hlv⟩ := h4.form
  subst hlv
  have KL : Hid (LW KAr 55 ZI (fun lv => #[.int .i64 27, .int .i64 n1, .int .i64 0, .int .i64 0, .int .i64 0, .complex .f64 0 0, .string ⟨#[]⟩, .int .i64 0, .int .i64 0, .slice none 0 0, lv]) s b w.heap.size w wr (.slice A cs.length cap) cs p2 bd) := Lib.hid ⟨h1, h2, h3, h4⟩
  obtain ⟨x0, x1, x2, x3, x4, x5, x6, x7, x8, x9, x10⟩ := Bk.eleven h1.t
  obtain ⟨c0, c1, c2⟩ := Rdc.three h2
  have k10 := h1.t.free 10
  have hszr := Bk.lt h1.t
  clear KE KB KC1 KA h1 h2 h3 h4
  rcases h6 with ⟨rfl, hp2, xs, hxl, hxc, hxr⟩ | ⟨t, rfl, hRb⟩
  ·by_cases hlt : cs.length < n
   ·have hl' : (cs.length : Int) < (n : Int) := by omega
    have HC : Hid (Calls Tryz.prog 55 #[.pointer (some ⟨b, 0, none⟩), .int .i64 0] wr fun e w' => DS b s 11 QT.ds (rPat s 64 p2) wr e w') := Lib.hid (dpat_any s 64 b p2 0 wr rfl KL.out.rd hp2 hs)
    have hrm : rMany (rArm s) (n - cs.length) p2 = (rArm s p2).bind fun x q => (rMany (rArm s) (n - (cs.length + 1)) q).bind fun l r => .ok (x :: l) r := by
     rw [show n - cs.length = (n - (cs.length + 1)) + 1 by omega]
     rfl
    rw [hrm] at hxr
    have KX := Lib.hid hxr
    have KY := Lib.hid hxc
    have hcl : cs.length ≤ 262144 := by omega
    clear hrm hxr hxc
    go_wp2_with fail
    (with_reducible refine HC.out.mono ?_)
    rintro e w3 ⟨us, l3, p3, bd3, rfl, hus, hl3, ho3, hd3, hr3, on3, hst3⟩
    have hu := DVs.one hd3 ho3
    obtain ⟨v0, v1, v2, v3, v4, v5, v6, v7, v8, v9, v10, rfl⟩ := eleven_of hus
    have hu1 : (#[v0, v1, v2, v3, v4, v5, v6, v7, v8, v9, v10] : Array Value).all (·.oneCell') = true := by
     rw [Array.all_eq_true']
     intro v hv
     exact hu v (Array.mem_toList_iff.2 hv)
    have L3 := Lib.hid (KL.out.call on3 hr3 hbl)
    have D3 := Lib.hid hd3
    have G3 := Lib.hid (DS.gd hst3)
    have ST3 := Lib.hid hst3
    have sz3 := on3.size
    have HMd := Lib.hid (setRow_made w3 88 ZQ #[v0, v1, v2, v3, v4, v5, v6, v7, v8, v9, v10])
    clear x0 x1 x2 x3 x4 x5 x6 x7 x8 x9 x10 c0 c1 c2 k10 hd3 hr3 on3 hst3 HC hu
    go_wp2_with (refine wpList_store_row (by rfl) _ _ _ (by rfl) w3.heap.size #[v0, v1, v2, v3, v4, v5, v6, v7, v8, v9, v10] (by rfl) (by rfl) 88 ZQ (Bk.made w3 _ _) (by rw [size11]; rfl) (by rfl) hu1 ?_; have HM2 := HMd.out; generalize World.setRow _ _ _ = W3 at HM2 ⊢; clear HMd; obtain ⟨B3, O3, S3⟩ := HM2; have HB3 := Lib.hid B3; have HO3 := Lib.hid O3; clear B3 O3)
    have L4 := Lib.hid (L3.out.same HO3.out)
    have HX := Lib.hid (dcnt_x b s _ _ _ L4.out.rd G3.out hs)
    (with_reducible refine HX.out.mono ?_)
    rintro e w4 ⟨n4, p4, bd4, rfl, g3, g4, N4⟩
    have L5 := Lib.hid (L4.out.call g4 g3 hbl)
    have hb3 := Bk.lt L4.out.rd
    have hb4 := L3.out.on.size
    have B4 := Lib.hid (Bk.only HB3.out g4 (by simp; omega))
    have D4 := Lib.hid (DVs.only g4 (F' := fun g => wr.heap.size ≤ g) (fun g hg hf => by simp at hg; omega) (fun _ h => h) (DVs.only HO3.out (by simp) (fun _ h => h) D3.out))
    have sz4 := g4.size
    have sz5 := HO3.out.size
    have l5 : l3.length + 1 = 12 := by omega
    have hl6 : (l3 ++ [D.v (.int .i64 n4)]).length = 12 := by rw [List.length_append]; exact l5
    have HO6 : Hid (∀ d ∈ l3 ++ [D.v (.int .i64 n4)], d.One) := Lib.hid (fun d hd => by
     rcases List.mem_append.1 hd with hd | hd
     ·exact ho3 d hd
     ·rw [List.mem_singleton.1 hd]; rfl)
    have L6 := Lib.hid (L5.out.alloc (.cells #[v0, v1, v2, v3, v4, v5, v6, v7, v8, v9, v10, .int .i64 n4] 90))
    have D6 : Hid (DVs (w4.alloc (.cells #[v0, v1, v2, v3, v4, v5, v6, v7, v8, v9, v10, .int .i64 n4] 90)) (fun g => wr.heap.size ≤ g) (l3 ++ [D.v (.int .i64 n4)]) (#[v0, v1, v2, v3, v4, v5, v6, v7, v8, v9, v10, .int .i64 n4] : Array Value).toList) := Lib.hid (DVs.only ((Only.refl [] w4).alloc _) (by simp) (fun _ h => h) (DVs.app (l' := [D.v (.int .i64 n4)]) (vs := [.int .i64 n4]) ⟨_, _, rfl, DV.v.2 rfl, rfl⟩ D4.out))
    have ST6 := Lib.hid (nx_arm ST3.out N4)
    have x10 := L5.out.fr.t.cell0 (i := 10) rfl
    clear g3 g4 N4 HX
    go_wp2_with (first
     | (refine wpList_load_row (by rfl) 88 _ (by rfl) w3.heap.size (by rfl) 88 #[v0, v1, v2, v3, v4, v5, v6, v7, v8, v9, v10] (0, 0) _ B4.out Tryz.underlying88 (by rfl) (by rw [size11]; rfl) ?_)
     | (refine wpList_appC KAr (by rfl) _ _ (by rfl) (base := w.heap.size + 2) (v := .slice A cs.length cap) (cs := cs) (by rfl) L6.out.own _ #[v0, v1, v2, v3, v4, v5, v6, v7, v8, v9, v10, .int .i64 n4] (l3 ++ [D.v (.int .i64 n4)]) (by rfl) (Bk.newAt (by simp)) wr (by rw [size_al]; omega) (fun g hg => (KL.out.own.block hg).2) (by omega) D6.out hl6 HO6.out hcl _ rfl ?_; intro g5 cap5 w5 hown hgrow; have GG := LW.gro L6.out hown hgrow rfl hbl 10 rfl; have y10 := GG.1.t.cell0 (i := 10) rfl; have fy10 := GG.1.t.free 10; have G2' := Lib.hid GG.2; clear GG hown hgrow))
    go_roundw
    case rel =>
     refine ⟨cs ++ [⟨l3 ++ [D.v (.int .i64 n4)], hl6, HO6.out⟩], _, p4, bd4, by simp, by simp; omega, G2'.out.fr, G2'.out.rd, G2'.out.on, G2'.out.own, ?_⟩
     have hst := ST6.out
     have hxr := KX.out
     cases ho : rArm s p2 with
     | ok x t =>
      rw [ho] at hst hxr
      obtain ⟨hla, rfl, rfl, hps⟩ := hst
      refine .inl ⟨rfl, hps, xs ++ [x], by simp [hxl], by simp [KY.out, ← hla], ?_⟩
      rw [← hxr]
      simp only [Rs.map, Rs.bind, List.length_append, List.length_cons, List.length_nil]
      cases rMany (rArm s) (n - (cs.length + 1)) p4 <;> simp
     | bad t =>
      rw [ho] at hst hxr
      exact .inr ⟨t, hst, by rw [← hxr]; rfl⟩
    case measure =>
     simp [intOf]
     omega
   ·have hl' : ¬ (cs.length : Int) < (n : Int) := by omega
    have hr2 : R2 = .ok xs p2 := by
     rw [← hxr, show n - cs.length = 0 by omega]
     simp [rMany, Rs.map, Rs.bind]
    have KN : Hid (DI s b w.heap.size w wr p2 (-1) (iD 27 n1 0 T.zero.ds (.sl cs.length (cs.flatMap fun c => c.1))) #[.int .i64 27, .int .i64 n1, .int .i64 0, .int .i64 0, .int .i64 0, .complex .f64 0 0, .string ⟨#[]⟩, .int .i64 0, .int .i64 0, .slice none 0 0, .slice A cs.length cap]) := Lib.hid ⟨KL.out.fr, KL.out.rd, KL.out.on, iD_dvs _ _ _ (ZT7 _ _) KL.out.own.dv⟩
    have HXX : ((-1 : Int) = -1 ∧ p2 ≤ s.size ∧ ∃ xs, rFrom (rArm s) n p5 bd5 = .ok xs p2 ∧ (iD 27 n1 0 T.zero.ds (.sl cs.length (cs.flatMap fun c => c.1))) = In.ds { ({ op := 27, a := n1, b := 0, t := .zero, arms := [] } : In) with arms := xs }) ∨ ∃ t' : Nat, (-1 : Int) = (t' : Int) ∧ rFrom (rArm s) n p5 bd5 = .bad t' := .inl ⟨rfl, hp2, xs, HR2.out.trans hr2, by simp only [in_ds, hxl, hxc]⟩
    have STK := Lib.hid (nx_27 M1.out (nx_arms MM.out HXX))
    clear hxr hxc hr2 HXX
    have hone : (#[.int .i64 27, .int .i64 n1, .int .i64 0, .int .i64 0, .int .i64 0, .complex .f64 0 0, .string ⟨#[]⟩, .int .i64 0, .int .i64 0, .slice none 0 0, .slice A cs.length cap] : Array Value).all (·.oneCell') = true := by simp [Value.oneCell']
    have HE := Lib.hid (fun W' => DSt.fin (w' := W') KN.out rfl hbl)
    go_wp2_with (first
     | (refine wpList_load_row (by rfl) 55 _ (by rfl) (w.heap.size + 1) (by rfl) 55 #[.int .i64 27, .int .i64 n1, .int .i64 0, .int .i64 0, .int .i64 0, .complex .f64 0 0, .string ⟨#[]⟩, .int .i64 0, .int .i64 0, .slice none 0 0, .slice A cs.length cap] (0, 0) _ KN.out.fr.t Tryz.underlying55 (by rfl) (by rw [size11i]; rfl) ?_)
     | (refine wpList_store_row (by rfl) _ _ _ (by rfl) w.heap.size #[.int .i64 27, .int .i64 n1, .int .i64 0, .int .i64 0, .int .i64 0, .complex .f64 0 0, .string ⟨#[]⟩, .int .i64 0, .int .i64 0, .slice none 0 0, .slice A cs.length cap] (by rfl) (by rfl) 55 ZI KN.out.fr.o (by rw [size11i]; rfl) (by rfl) hone ?_; have HE2 := HE.out _ rfl; generalize World.setRow _ _ _ = W5 at HE2 ⊢; clear HE; obtain ⟨e1, e2⟩ := HE2; have E2 := Lib.hid e2; obtain ⟨z0, z1, z2, z3, z4, z5, z6, z7, z8, z9, z10⟩ := Bk.eleven e1; clear e1 e2))
    refine bodyPost_ret (v := .agg #[.int .i64 27, .int .i64 n1, .int .i64 0, .int .i64 0, .int .i64 0, .complex .f64 0 0, .string ⟨#[]⟩, .int .i64 0, .int .i64 0, .slice none 0 0, .slice A cs.length cap]) (by simp [results, Tryz.results31, go_sem, z0, z1, z2, z3, z4, z5, z6, z7, z8, z9, z10]) rfl ?_
    rw [HRE.out]
    exact ⟨#[.int .i64 27, .int .i64 n1, .int .i64 0, .int .i64 0, .int .i64 0, .complex .f64 0 0, .string ⟨#[]⟩, .int .i64 0, .int .i64 0, .slice none 0 0, .slice A cs.length cap], _, _, _, rfl, rfl, iD_len _ _ _ _ zt_len, iD_one _ _ _ zt_one (sl_one _ _), E2.out.1, E2.out.2.1, E2.out.2.2, STK.out⟩
  ·have ht0 : ¬ (t : Int) < 0 := by omega
   have htd : decide ((t : Int) < 0) = false := decide_eq_false ht0
   have KN : Hid (DI s b w.heap.size w wr p2 (t : Int) (iD 27 n1 0 T.zero.ds (.sl cs.length (cs.flatMap fun c => c.1))) #[.int .i64 27, .int .i64 n1, .int .i64 0, .int .i64 0, .int .i64 0, .complex .f64 0 0, .string ⟨#[]⟩, .int .i64 0, .int .i64 0, .slice none 0 0, .slice A cs.length cap]) := Lib.hid ⟨KL.out.fr, KL.out.rd, KL.out.on, iD_dvs _ _ _ (ZT7 _ _) KL.out.own.dv⟩
   have HXX : ((t : Int) = -1 ∧ p2 ≤ s.size ∧ ∃ xs, rFrom (rArm s) n p5 bd5 = .ok xs p2 ∧ (iD 27 n1 0 T.zero.ds (.sl cs.length (cs.flatMap fun c => c.1))) = In.ds { ({ op := 27, a := n1, b := 0, t := .zero, arms := [] } : In) with arms := xs }) ∨ ∃ t' : Nat, (t : Int) = (t' : Int) ∧ rFrom (rArm s) n p5 bd5 = .bad t' := .inr ⟨t, rfl, HR2.out.trans hRb⟩
   have STK := Lib.hid (nx_27 M1.out (nx_arms MM.out HXX))
   clear hRb HXX
   by_cases hlt : cs.length < n
   ·have hl' : (cs.length : Int) < (n : Int) := by omega
    have hone : (#[.int .i64 27, .int .i64 n1, .int .i64 0, .int .i64 0, .int .i64 0, .complex .f64 0 0, .string ⟨#[]⟩, .int .i64 0, .int .i64 0, .slice none 0 0, .slice A cs.length cap] : Array Value).all (·.oneCell') = true := by simp [Value.oneCell']
    have HE := Lib.hid (fun W' => DSt.fin (w' := W') KN.out rfl hbl)
    go_wp2_with (first
     | (refine wpList_load_row (by rfl) 55 _ (by rfl) (w.heap.size + 1) (by rfl) 55 #[.int .i64 27, .int .i64 n1, .int .i64 0, .int .i64 0, .int .i64 0, .complex .f64 0 0, .string ⟨#[]⟩, .int .i64 0, .int .i64 0, .slice none 0 0, .slice A cs.length cap] (0, 0) _ KN.out.fr.t Tryz.underlying55 (by rfl) (by rw [size11i]; rfl) ?_)
     | (refine wpList_store_row (by rfl) _ _ _ (by rfl) w.heap.size #[.int .i64 27, .int .i64 n1, .int .i64 0, .int .i64 0, .int .i64 0, .complex .f64 0 0, .string ⟨#[]⟩, .int .i64 0, .int .i64 0, .slice none 0 0, .slice A cs.length cap] (by rfl) (by rfl) 55 ZI KN.out.fr.o (by rw [size11i]; rfl) (by rfl) hone ?_; have HE2 := HE.out _ rfl; generalize World.setRow _ _ _ = W5 at HE2 ⊢; clear HE; obtain ⟨e1, e2⟩ := HE2; have E2 := Lib.hid e2; obtain ⟨z0, z1, z2, z3, z4, z5, z6, z7, z8, z9, z10⟩ := Bk.eleven e1; clear e1 e2))
    refine bodyPost_ret (v := .agg #[.int .i64 27, .int .i64 n1, .int .i64 0, .int .i64 0, .int .i64 0, .complex .f64 0 0, .string ⟨#[]⟩, .int .i64 0, .int .i64 0, .slice none 0 0, .slice A cs.length cap]) (by simp [results, Tryz.results31, go_sem, z0, z1, z2, z3, z4, z5, z6, z7, z8, z9, z10]) rfl ?_
    rw [HRE.out]
    exact ⟨#[.int .i64 27, .int .i64 n1, .int .i64 0, .int .i64 0, .int .i64 0, .complex .f64 0 0, .string ⟨#[]⟩, .int .i64 0, .int .i64 0, .slice none 0 0, .slice A cs.length cap], _, _, _, rfl, rfl, iD_len _ _ _ _ zt_len, iD_one _ _ _ zt_one (sl_one _ _), E2.out.1, E2.out.2.1, E2.out.2.2, STK.out⟩
   ·have hl' : ¬ (cs.length : Int) < (n : Int) := by omega
    have hone : (#[.int .i64 27, .int .i64 n1, .int .i64 0, .int .i64 0, .int .i64 0, .complex .f64 0 0, .string ⟨#[]⟩, .int .i64 0, .int .i64 0, .slice none 0 0, .slice A cs.length cap] : Array Value).all (·.oneCell') = true := by simp [Value.oneCell']
    have HE := Lib.hid (fun W' => DSt.fin (w' := W') KN.out rfl hbl)
    go_wp2_with (first
     | (refine wpList_load_row (by rfl) 55 _ (by rfl) (w.heap.size + 1) (by rfl) 55 #[.int .i64 27, .int .i64 n1, .int .i64 0, .int .i64 0, .int .i64 0, .complex .f64 0 0, .string ⟨#[]⟩, .int .i64 0, .int .i64 0, .slice none 0 0, .slice A cs.length cap] (0, 0) _ KN.out.fr.t Tryz.underlying55 (by rfl) (by rw [size11i]; rfl) ?_)
     | (refine wpList_store_row (by rfl) _ _ _ (by rfl) w.heap.size #[.int .i64 27, .int .i64 n1, .int .i64 0, .int .i64 0, .int .i64 0, .complex .f64 0 0, .string ⟨#[]⟩, .int .i64 0, .int .i64 0, .slice none 0 0, .slice A cs.length cap] (by rfl) (by rfl) 55 ZI KN.out.fr.o (by rw [size11i]; rfl) (by rfl) hone ?_; have HE2 := HE.out _ rfl; generalize World.setRow _ _ _ = W5 at HE2 ⊢; clear HE; obtain ⟨e1, e2⟩ := HE2; have E2 := Lib.hid e2; obtain ⟨z0, z1, z2, z3, z4, z5, z6, z7, z8, z9, z10⟩ := Bk.eleven e1; clear e1 e2))
    refine bodyPost_ret (v := .agg #[.int .i64 27, .int .i64 n1, .int .i64 0, .int .i64 0, .int .i64 0, .complex .f64 0 0, .string ⟨#[]⟩, .int .i64 0, .int .i64 0, .slice none 0 0, .slice A cs.length cap]) (by simp [results, Tryz.results31, go_sem, z0, z1, z2, z3, z4, z5, z6, z7, z8, z9, z10]) rfl ?_
    rw [HRE.out]
    exact ⟨#[.int .i64 27, .int .i64 n1, .int .i64 0, .int .i64 0, .int .i64 0, .complex .f64 0 0, .string ⟨#[]⟩, .int .i64 0, .int .i64 0, .slice none 0 0, .slice A cs.length cap], _, _, _, rfl, rfl, iD_len _ _ _ _ zt_len, iD_one _ _ _ zt_one (sl_one _ _), E2.out.1, E2.out.2.1, E2.out.2.2, STK.out⟩
theorem din_33 (s : ByteArray) (b p : Nat) (w : World) (hb : Rdc w b s p (-1)) (hp : p ≤ s.size) (hs : s.size ≤ 262144) (q : Nat) (h1 : rCnt s p = .ok 33 q) :
 Calls Tryz.prog 31 #[.pointer (some ⟨b, 0, none⟩)] w fun e w' => DS b s 11 In.ds (rIn s p) w e w' := by
 have hbl := Bk.lt hb
 have KS0 : Hid (DI s b w.heap.size w ((w.alloc (.cells ZI 55)).alloc (.cells ZI 55)) p (-1) (iD 0 0 0 T.zero.ds (.sl 0 [])) ZI) := Lib.hid (DSt.made hb (iD_dvs _ _ _ (ZT7 _ _) (DV.none0 _ _)))
 obtain ⟨R, hR⟩ : ∃ R, rIn s p = R := ⟨_, rfl⟩
 rw [hR]
 obtain ⟨b0, b1, b2⟩ := Rdc.three KS0.out.rd
 have HK := Lib.hid (dcount_any b s p _ KS0.out.rd hp hs)
 rw [h1] at HK
 have HRE : Hid (R = rFlds s [.a, .ticks, .arms] ⟨33, 0, 0, .zero, []⟩ q) := Lib.hid (by rw [← hR]; unfold rIn; rw [rOne_ok h1 (by omega)]; rfl)
 clear hR h1
 go_enter Tryz.func31, Tryz.ntmps31
 go_wp2_with fail
 clear b0 b1 b2
 (with_reducible refine HK.out.mono ?_)
 rintro e w1 ⟨rfl, g3, g4, hq⟩
 have KC := Lib.hid (KS0.out.call g4 g3 hbl)
 have KA := Lib.hid (KC.out.put (l' := iD 33 0 0 T.zero.ds (.sl 0 [])) (us' := #[.int .i64 33, .int .i64 0, .int .i64 0, .int .i64 0, .int .i64 0, .complex .f64 0 0, .string ⟨#[]⟩, .int .i64 0, .int .i64 0, .slice none 0 0, .slice none 0 0]) rfl hbl 0 (.int .i64 33) rfl (iD_dvs _ _ _ (ZT7 _ _) (DV.none0 _ _)))
 obtain ⟨x0, x1, x2, x3, x4, x5, x6, x7, x8, x9, x10⟩ := Bk.eleven KC.out.fr.t
 obtain ⟨c0, c1, c2⟩ := Rdc.three KC.out.rd
 have k0 := KC.out.fr.t.free 0
 have k1 := KC.out.fr.t.free 1
 have k2 := KC.out.fr.t.free 2
 have k3 := KC.out.fr.t.free 3
 have k4 := KC.out.fr.t.free 4
 have k5 := KC.out.fr.t.free 5
 have k6 := KC.out.fr.t.free 6
 have k7 := KC.out.fr.t.free 7
 have k8 := KC.out.fr.t.free 8
 have k9 := KC.out.fr.t.free 9
 have k10 := KC.out.fr.t.free 10
 clear g3 g4 HK KS0
 have G1 : Hid (Gd s q (-1)) := Lib.hid (.inl ⟨rfl, hq⟩)
 have HX1 := Lib.hid (dcnt_x b s _ _ _ KA.out.rd G1.out hs)
 go_wp2_with fail
 clear x0 x1 x2 x3 x4 x5 x6 x7 x8 x9 x10 c0 c1 c2 k0 k1 k2 k3 k4 k5 k6 k7 k8 k9 k10
 (with_reducible refine HX1.out.mono ?_)
 rintro e w2 ⟨n1, p1, bd1, rfl, g3, g4, N1⟩
 have KC1 := Lib.hid (KA.out.call g4 g3 hbl)
 have KB := Lib.hid (KC1.out.put (l' := iD 33 n1 0 T.zero.ds (.sl 0 [])) (us' := #[.int .i64 33, .int .i64 n1, .int .i64 0, .int .i64 0, .int .i64 0, .complex .f64 0 0, .string ⟨#[]⟩, .int .i64 0, .int .i64 0, .slice none 0 0, .slice none 0 0]) rfl hbl 1 (.int .i64 n1) rfl (iD_dvs _ _ _ (ZT7 _ _) (DV.none0 _ _)))
 obtain ⟨x0, x1, x2, x3, x4, x5, x6, x7, x8, x9, x10⟩ := Bk.eleven KC1.out.fr.t
 obtain ⟨c0, c1, c2⟩ := Rdc.three KC1.out.rd
 have k0 := KC1.out.fr.t.free 0
 have k1 := KC1.out.fr.t.free 1
 have k2 := KC1.out.fr.t.free 2
 have k3 := KC1.out.fr.t.free 3
 have k4 := KC1.out.fr.t.free 4
 have k5 := KC1.out.fr.t.free 5
 have k6 := KC1.out.fr.t.free 6
 have k7 := KC1.out.fr.t.free 7
 have k8 := KC1.out.fr.t.free 8
 have k9 := KC1.out.fr.t.free 9
 have k10 := KC1.out.fr.t.free 10
 have G2 := Lib.hid (Nx.gd N1)
 have M1 := Lib.hid N1
 clear g3 g4 HX1 N1
 have HX2 := Lib.hid (dnum_x b s _ _ _ KB.out.rd G2.out hs)
 go_wp2_with fail
 clear x0 x1 x2 x3 x4 x5 x6 x7 x8 x9 x10 c0 c1 c2 k0 k1 k2 k3 k4 k5 k6 k7 k8 k9 k10
 (with_reducible refine HX2.out.mono ?_)
 rintro e w3 ⟨n2, p2, bd2, rfl, g3, g4, N2⟩
 have KC2 := Lib.hid (KB.out.call g4 g3 hbl)
 have KD := Lib.hid (KC2.out.put (l' := iD 33 n1 n2 T.zero.ds (.sl 0 [])) (us' := #[.int .i64 33, .int .i64 n1, .int .i64 n2, .int .i64 0, .int .i64 0, .complex .f64 0 0, .string ⟨#[]⟩, .int .i64 0, .int .i64 0, .slice none 0 0, .slice none 0 0]) rfl hbl 2 (.int .i64 n2) rfl (iD_dvs _ _ _ (ZT7 _ _) (DV.none0 _ _)))
 obtain ⟨x0, x1, x2, x3, x4, x5, x6, x7, x8, x9, x10⟩ := Bk.eleven KC2.out.fr.t
 obtain ⟨c0, c1, c2⟩ := Rdc.three KC2.out.rd
 have k0 := KC2.out.fr.t.free 0
 have k1 := KC2.out.fr.t.free 1
 have k2 := KC2.out.fr.t.free 2
 have k3 := KC2.out.fr.t.free 3
 have k4 := KC2.out.fr.t.free 4
 have k5 := KC2.out.fr.t.free 5
 have k6 := KC2.out.fr.t.free 6
 have k7 := KC2.out.fr.t.free 7
 have k8 := KC2.out.fr.t.free 8
 have k9 := KC2.out.fr.t.free 9
 have k10 := KC2.out.fr.t.free 10
 have G3 := Lib.hid (Nx.gd N2)
 have M2 := Lib.hid N2
 clear g3 g4 HX2 N2
 have HM := Lib.hid (dmany_x b s _ _ _ KD.out.rd G3.out hs)
 go_wp2_with fail
 clear x0 x1 x2 x3 x4 x5 x6 x7 x8 x9 x10 c0 c1 c2 k0 k1 k2 k3 k4 k5 k6 k7 k8 k9 k10
 (with_reducible refine HM.out.mono ?_)
 rintro e w5 ⟨nn, p5, bd5, rfl, g3, g4, N5⟩
 obtain ⟨n, rfl, hn⟩ := Nx.nat N5
 have KE := Lib.hid (KD.out.call g4 g3 hbl)
 have G9 := Lib.hid (Nx.gd N5)
 have MM := Lib.hid N5
 obtain ⟨R2, hR2⟩ : ∃ R2, rFrom (rArm s) n p5 bd5 = R2 := ⟨_, rfl⟩
 have HR2 := Lib.hid hR2
 have hsz2 := Bk.lt KE.out.fr.t
 clear g3 g4 HM N5 hR2
 go_wp2_with fail
 go_loopw [6] (fun iv wr => DILp s b w.heap.size w 33 n1 n2 n R2 iv wr) (fun iv _ => n - (intOf iv).toNat)
 case atStart =>
  refine ⟨[], .slice none 0 0, p5, bd5, rfl, Nat.zero_le _, KE.out.fr, KE.out.rd, KE.out.on, OwnC.nil _ _ _, ?_⟩
  rcases G9.out with ⟨rfl, h⟩ | ⟨t, rfl⟩
  ·refine .inl ⟨rfl, h, [], rfl, rfl, ?_⟩
   rw [← HR2.out]
   show Rs.map _ (rMany _ (n - 0) p5) = rMany (rArm s) n p5
   rw [Nat.sub_zero]
   cases rMany (rArm s) n p5 <;> rfl
  ·refine .inr ⟨t, rfl, ?_⟩
   rw [← HR2.out]
   unfold rFrom
   rw [if_neg (by omega)]
   rfl
 case round =>
  obtain ⟨cs, lv, p2, bd, rfl, hcn, h1, h2, h3, h4, h6⟩ := hrel
  obtain ⟨A, cap, hlv⟩ := h4.form
  subst hlv
  have KL : Hid (LW KAr 55 ZI (fun lv => #[.int .i64 33, .int .i64 n1, .int .i64 n2, .int .i64 0, .int .i64 0, .complex .f64 0 0, .string ⟨#[]⟩, .int .i64 0, .int .i64 0, .slice none 0 0, lv]) s b w.heap.size w wr (.slice A cs.length cap) cs p2 bd) := Lib.hid ⟨h1, h2, h3, h4⟩
  obtain ⟨x0, x1, x2, x3, x4, x5, x6, x7, x8, x9, x10⟩ := Bk.eleven h1.t
  obtain ⟨c0, c1, c2⟩ := Rdc.three h2
  have k10 := h1.t.free 10
  have hszr := Bk.lt h1.t
  clear KE KD KC1 KA h1 h2 h3 h4
  rcases h6 with ⟨rfl, hp2, xs, hxl, hxc, hxr⟩ | ⟨t, rfl, hRb⟩
  ·by_cases hlt : cs.length < n
   ·have hl' : (cs.length : Int) < (n : Int) := by omega
    have HC : Hid (Calls Tryz.prog 55 #[.pointer (some ⟨b, 0, none⟩), .int .i64 0] wr fun e w' => DS b s 11 QT.ds (rPat s 64 p2) wr e w') := Lib.hid (dpat_any s 64 b p2 0 wr rfl KL.out.rd hp2 hs)
    have hrm : rMany (rArm s) (n - cs.length) p2 = (rArm s p2).bind fun x q => (rMany (rArm s) (n - (cs.length + 1)) q).bind fun l r => .ok (x :: l) r := by
     rw [show n - cs.length = (n - (cs.length + 1)) + 1 by omega]
     rfl
    rw [hrm] at hxr
    have KX := Lib.hid hxr
    have KY := Lib.hid hxc
    have hcl : cs.length ≤ 262144 := by omega
    clear hrm hxr hxc
    go_wp2_with fail
    (with_reducible refine HC.out.mono ?_)
    rintro e w3 ⟨us, l3, p3, bd3, rfl, hus, hl3, ho3, hd3, hr3, on3, hst3⟩
    have hu := DVs.one hd3 ho3
    obtain ⟨v0, v1, v2, v3, v4, v5, v6, v7, v8, v9, v10, rfl⟩ := eleven_of hus
    have hu1 : (#[v0, v1, v2, v3, v4, v5, v6, v7, v8, v9, v10] : Array Value).all (·.oneCell') = true := by
     rw [Array.all_eq_true']
     intro v hv
     exact hu v (Array.mem_toList_iff.2 hv)
    have L3 := Lib.hid (KL.out.call on3 hr3 hbl)
    have D3 := Lib.hid hd3
    have G3 := Lib.hid (DS.gd hst3)
    have ST3 := Lib.hid hst3
    have sz3 := on3.size
    have HMd := Lib.hid (setRow_made w3 88 ZQ #[v0, v1, v2, v3, v4, v5, v6, v7, v8, v9, v10])
    clear x0 x1 x2 x3 x4 x5 x6 x7 x8 x9 x10 c0 c1 c2 k10 hd3 hr3 on3 hst3 HC hu
    go_wp2_with (refine wpList_store_row (by rfl) _ _ _ (by rfl) w3.heap.size #[v0, v1, v2, v3, v4, v5, v6, v7, v8, v9, v10] (by rfl) (by rfl) 88 ZQ (Bk.made w3 _ _) (by rw [size11]; rfl) (by rfl) hu1 ?_; have HM2 := HMd.out; generalize World.setRow _ _ _ = W3 at HM2 ⊢; clear HMd; obtain ⟨B3, O3, S3⟩ := HM2; have HB3 := Lib.hid B3; have HO3 := Lib.hid O3; clear B3 O3)
    have L4 := Lib.hid (L3.out.same HO3.out)
    have HX := Lib.hid (dcnt_x b s _ _ _ L4.out.rd G3.out hs)
    (with_reducible refine HX.out.mono ?_)
    rintro e w4 ⟨n4, p4, bd4, rfl, g3, g4, N4⟩
    have L5 := Lib.hid (L4.out.call g4 g3 hbl)
    have hb3 := Bk.lt L4.out.rd
    have hb4 := L3.out.on.size
    have B4 := Lib.hid (Bk.only HB3.out g4 (by simp; omega))
    have D4 := Lib.hid (DVs.only g4 (F' := fun g => wr.heap.size ≤ g) (fun g hg hf => by simp at hg; omega) (fun _ h => h) (DVs.only HO3.out (by simp) (fun _ h => h) D3.out))
    have sz4 := g4.size
    have sz5 := HO3.out.size
    have l5 : l3.length + 1 = 12 := by omega
    have hl6 : (l3 ++ [D.v (.int .i64 n4)]).length = 12 := by rw [List.length_append]; exact l5
    have HO6 : Hid (∀ d ∈ l3 ++ [D.v (.int .i64 n4)], d.One) := Lib.hid (fun d hd => by
     rcases List.mem_append.1 hd with hd | hd
     ·exact ho3 d hd
     ·rw [List.mem_singleton.1 hd]; rfl)
    have L6 := Lib.hid (L5.out.alloc (.cells #[v0, v1, v2, v3, v4, v5, v6, v7, v8, v9, v10, .int .i64 n4] 90))
    have D6 : Hid (DVs (w4.alloc (.cells #[v0, v1, v2, v3, v4, v5, v6, v7, v8, v9, v10, .int .i64 n4] 90)) (fun g => wr.heap.size ≤ g) (l3 ++ [D.v (.int .i64 n4)]) (#[v0, v1, v2, v3, v4, v5, v6, v7, v8, v9, v10, .int .i64 n4] : Array Value).toList) := Lib.hid (DVs.only ((Only.refl [] w4).alloc _) (by simp) (fun _ h => h) (DVs.app (l' := [D.v (.int .i64 n4)]) (vs := [.int .i64 n4]) ⟨_, _, rfl, DV.v.2 rfl, rfl⟩ D4.out))
    have ST6 := Lib.hid (nx_arm ST3.out N4)
    have x10 := L5.out.fr.t.cell0 (i := 10) rfl
    clear g3 g4 N4 HX
    go_wp2_with (first
     | (refine wpList_load_row (by rfl) 88 _ (by rfl) w3.heap.size (by rfl) 88 #[v0, v1, v2, v3, v4, v5, v6, v7, v8, v9, v10] (0, 0) _ B4.out Tryz.underlying88 (by rfl) (by rw [size11]; rfl) ?_)
     | (refine wpList_appC KAr (by rfl) _ _ (by rfl) (base := w.heap.size + 2) (v := .slice A cs.length cap) (cs := cs) (by rfl) L6.out.own _ #[v0, v1, v2, v3, v4, v5, v6, v7, v8, v9, v10, .int .i64 n4] (l3 ++ [D.v (.int .i64 n4)]) (by rfl) (Bk.newAt (by simp)) wr (by rw [size_al]; omega) (fun g hg => (KL.out.own.block hg).2) (by omega) D6.out hl6 HO6.out hcl _ rfl ?_; intro g5 cap5 w5 hown hgrow; have GG := LW.gro L6.out hown hgrow rfl hbl 10 rfl; have y10 := GG.1.t.cell0 (i := 10) rfl; have fy10 := GG.1.t.free 10; have G2' := Lib.hid GG.2; clear GG hown hgrow))
    go_roundw
    case rel =>
     refine ⟨cs ++ [⟨l3 ++ [D.v (.int .i64 n4)], hl6, HO6.out⟩], _, p4, bd4, by simp, by simp; omega, G2'.out.fr, G2'.out.rd, G2'.out.on, G2'.out.own, ?_⟩
     have hst := ST6.out
     have hxr := KX.out
     cases ho : rArm s p2 with
     | ok x t =>
      rw [ho] at hst hxr
      obtain ⟨hla, rfl, rfl, hps⟩ := hst
      refine .inl ⟨rfl, hps, xs ++ [x], by simp [hxl], by simp [KY.out, ← hla], ?_⟩
      rw [← hxr]
      simp only [Rs.map, Rs.bind, List.length_append, List.length_cons, List.length_nil]
      cases rMany (rArm s) (n - (cs.length + 1)) p4 <;> simp
     | bad t =>
      rw [ho] at hst hxr
      exact .inr ⟨t, hst, by rw [← hxr]; rfl⟩
    case measure =>
     simp [intOf]
     omega
   ·have hl' : ¬ (cs.length : Int) < (n : Int) := by omega
    have hr2 : R2 = .ok xs p2 := by
     rw [← hxr, show n - cs.length = 0 by omega]
     simp [rMany, Rs.map, Rs.bind]
    have KN : Hid (DI s b w.heap.size w wr p2 (-1) (iD 33 n1 n2 T.zero.ds (.sl cs.length (cs.flatMap fun c => c.1))) #[.int .i64 33, .int .i64 n1, .int .i64 n2, .int .i64 0, .int .i64 0, .complex .f64 0 0, .string ⟨#[]⟩, .int .i64 0, .int .i64 0, .slice none 0 0, .slice A cs.length cap]) := Lib.hid ⟨KL.out.fr, KL.out.rd, KL.out.on, iD_dvs _ _ _ (ZT7 _ _) KL.out.own.dv⟩
    have HXX : ((-1 : Int) = -1 ∧ p2 ≤ s.size ∧ ∃ xs, rFrom (rArm s) n p5 bd5 = .ok xs p2 ∧ (iD 33 n1 n2 T.zero.ds (.sl cs.length (cs.flatMap fun c => c.1))) = In.ds { ({ op := 33, a := n1, b := n2, t := .zero, arms := [] } : In) with arms := xs }) ∨ ∃ t' : Nat, (-1 : Int) = (t' : Int) ∧ rFrom (rArm s) n p5 bd5 = .bad t' := .inl ⟨rfl, hp2, xs, HR2.out.trans hr2, by simp only [in_ds, hxl, hxc]⟩
    have STK := Lib.hid (nx_33 M1.out M2.out (nx_arms MM.out HXX))
    clear hxr hxc hr2 HXX
    have hone : (#[.int .i64 33, .int .i64 n1, .int .i64 n2, .int .i64 0, .int .i64 0, .complex .f64 0 0, .string ⟨#[]⟩, .int .i64 0, .int .i64 0, .slice none 0 0, .slice A cs.length cap] : Array Value).all (·.oneCell') = true := by simp [Value.oneCell']
    have HE := Lib.hid (fun W' => DSt.fin (w' := W') KN.out rfl hbl)
    go_wp2_with (first
     | (refine wpList_load_row (by rfl) 55 _ (by rfl) (w.heap.size + 1) (by rfl) 55 #[.int .i64 33, .int .i64 n1, .int .i64 n2, .int .i64 0, .int .i64 0, .complex .f64 0 0, .string ⟨#[]⟩, .int .i64 0, .int .i64 0, .slice none 0 0, .slice A cs.length cap] (0, 0) _ KN.out.fr.t Tryz.underlying55 (by rfl) (by rw [size11i]; rfl) ?_)
     | (refine wpList_store_row (by rfl) _ _ _ (by rfl) w.heap.size #[.int .i64 33, .int .i64 n1, .int .i64 n2, .int .i64 0, .int .i64 0, .complex .f64 0 0, .string ⟨#[]⟩, .int .i64 0, .int .i64 0, .slice none 0 0, .slice A cs.length cap] (by rfl) (by rfl) 55 ZI KN.out.fr.o (by rw [size11i]; rfl) (by rfl) hone ?_; have HE2 := HE.out _ rfl; generalize World.setRow _ _ _ = W5 at HE2 ⊢; clear HE; obtain ⟨e1, e2⟩ := HE2; have E2 := Lib.hid e2; obtain ⟨z0, z1, z2, z3, z4, z5, z6, z7, z8, z9, z10⟩ := Bk.eleven e1; clear e1 e2))
    refine bodyPost_ret (v := .agg #[.int .i64 33, .int .i64 n1, .int .i64 n2, .int .i64 0, .int .i64 0, .complex .f64 0 0, .string ⟨#[]⟩, .int .i64 0, .int .i64 0, .slice none 0 0, .slice A cs.length cap]) (by simp [results, Tryz.results31, go_sem, z0, z1, z2, z3, z4, z5, z6, z7, z8, z9, z10]) rfl ?_
    rw [HRE.out]
    exact ⟨#[.int .i64 33, .int .i64 n1, .int .i64 n2, .int .i64 0, .int .i64 0, .complex .f64 0 0, .string ⟨#[]⟩, .int .i64 0, .int .i64 0, .slice none 0 0, .slice A cs.length cap], _, _, _, rfl, rfl, iD_len _ _ _ _ zt_len, iD_one _ _ _ zt_one (sl_one _ _), E2.out.1, E2.out.2.1, E2.out.2.2, STK.out⟩
  ·have ht0 : ¬ (t : Int) < 0 := by omega
   have htd : decide ((t : Int) < 0) = false := decide_eq_false ht0
   have KN : Hid (DI s b w.heap.size w wr p2 (t : Int) (iD 33 n1 n2 T.zero.ds (.sl cs.length (cs.flatMap fun c => c.1))) #[.int .i64 33, .int .i64 n1, .int .i64 n2, .int .i64 0, .int .i64 0, .complex .f64 0 0, .string ⟨#[]⟩, .int .i64 0, .int .i64 0, .slice none 0 0, .slice A cs.length cap]) := Lib.hid ⟨KL.out.fr, KL.out.rd, KL.out.on, iD_dvs _ _ _ (ZT7 _ _) KL.out.own.dv⟩
   have HXX : ((t : Int) = -1 ∧ p2 ≤ s.size ∧ ∃ xs, rFrom (rArm s) n p5 bd5 = .ok xs p2 ∧ (iD 33 n1 n2 T.zero.ds (.sl cs.length (cs.flatMap fun c => c.1))) = In.ds { ({ op := 33, a := n1, b := n2, t := .zero, arms := [] } : In) with arms := xs }) ∨ ∃ t' : Nat, (t : Int) = (t' : Int) ∧ rFrom (rArm s) n p5 bd5 = .bad t' := .inr ⟨t, rfl, HR2.out.trans hRb⟩
   have STK := Lib.hid (nx_33 M1.out M2.out (nx_arms MM.out HXX))
   clear hRb HXX
   by_cases hlt : cs.length < n
   ·have hl' : (cs.length : Int) < (n : Int) := by omega
    have hone : (#[.int .i64 33, .int .i64 n1, .int .i64 n2, .int .i64 0, .int .i64 0, .complex .f64 0 0, .string ⟨#[]⟩, .int .i64 0, .int .i64 0, .slice none 0 0, .slice A cs.length cap] : Array Value).all (·.oneCell') = true := by simp [Value.oneCell']
    have HE := Lib.hid (fun W' => DSt.fin (w' := W') KN.out rfl hbl)
    go_wp2_with (first
     | (refine wpList_load_row (by rfl) 55 _ (by rfl) (w.heap.size + 1) (by rfl) 55 #[.int .i64 33, .int .i64 n1, .int .i64 n2, .int .i64 0, .int .i64 0, .complex .f64 0 0, .string ⟨#[]⟩, .int .i64 0, .int .i64 0, .slice none 0 0, .slice A cs.length cap] (0, 0) _ KN.out.fr.t Tryz.underlying55 (by rfl) (by rw [size11i]; rfl) ?_)
     | (refine wpList_store_row (by rfl) _ _ _ (by rfl) w.heap.size #[.int .i64 33, .int .i64 n1, .int .i64 n2, .int .i64 0, .int .i64 0, .complex .f64 0 0, .string ⟨#[]⟩, .int .i64 0, .int .i64 0, .slice none 0 0, .slice A cs.length cap] (by rfl) (by rfl) 55 ZI KN.out.fr.o (by rw [size11i]; rfl) (by rfl) hone ?_; have HE2 := HE.out _ rfl; generalize World.setRow _ _ _ = W5 at HE2 ⊢; clear HE; obtain ⟨e1, e2⟩ := HE2; have E2 := Lib.hid e2; obtain ⟨z0, z1, z2, z3, z4, z5, z6, z7, z8, z9, z10⟩ := Bk.eleven e1; clear e1 e2))
    refine bodyPost_ret (v := .agg #[.int .i64 33, .int .i64 n1, .int .i64 n2, .int .i64 0, .int .i64 0, .complex .f64 0 0, .string ⟨#[]⟩, .int .i64 0, .int .i64 0, .slice none 0 0, .slice A cs.length cap]) (by simp [results, Tryz.results31, go_sem, z0, z1, z2, z3, z4, z5, z6, z7, z8, z9, z10]) rfl ?_
    rw [HRE.out]
    exact ⟨#[.int .i64 33, .int .i64 n1, .int .i64 n2, .int .i64 0, .int .i64 0, .complex .f64 0 0, .string ⟨#[]⟩, .int .i64 0, .int .i64 0, .slice none 0 0, .slice A cs.length cap], _, _, _, rfl, rfl, iD_len _ _ _ _ zt_len, iD_one _ _ _ zt_one (sl_one _ _), E2.out.1, E2.out.2.1, E2.out.2.2, STK.out⟩
   ·have hl' : ¬ (cs.length : Int) < (n : Int) := by omega
    have hone : (#[.int .i64 33, .int .i64 n1, .int .i64 n2, .int .i64 0, .int .i64 0, .complex .f64 0 0, .string ⟨#[]⟩, .int .i64 0, .int .i64 0, .slice none 0 0, .slice A cs.length cap] : Array Value).all (·.oneCell') = true := by simp [Value.oneCell']
    have HE := Lib.hid (fun W' => DSt.fin (w' := W') KN.out rfl hbl)
    go_wp2_with (first
     | (refine wpList_load_row (by rfl) 55 _ (by rfl) (w.heap.size + 1) (by rfl) 55 #[.int .i64 33, .int .i64 n1, .int .i64 n2, .int .i64 0, .int .i64 0, .complex .f64 0 0, .string ⟨#[]⟩, .int .i64 0, .int .i64 0, .slice none 0 0, .slice A cs.length cap] (0, 0) _ KN.out.fr.t Tryz.underlying55 (by rfl) (by rw [size11i]; rfl) ?_)
     | (refine wpList_store_row (by rfl) _ _ _ (by rfl) w.heap.size #[.int .i64 33, .int .i64 n1, .int .i64 n2, .int .i64 0, .int .i64 0, .complex .f64 0 0, .string ⟨#[]⟩, .int .i64 0, .int .i64 0, .slice none 0 0, .slice A cs.length cap] (by rfl) (by rfl) 55 ZI KN.out.fr.o (by rw [size11i]; rfl) (by rfl) hone ?_; have HE2 := HE.out _ rfl; generalize World.setRow _ _ _ = W5 at HE2 ⊢; clear HE; obtain ⟨e1, e2⟩ := HE2; have E2 := Lib.hid e2; obtain ⟨z0, z1, z2, z3, z4, z5, z6, z7, z8, z9, z10⟩ := Bk.eleven e1; clear e1 e2))
    refine bodyPost_ret (v := .agg #[.int .i64 33, .int .i64 n1, .int .i64 n2, .int .i64 0, .int .i64 0, .complex .f64 0 0, .string ⟨#[]⟩, .int .i64 0, .int .i64 0, .slice none 0 0, .slice A cs.length cap]) (by simp [results, Tryz.results31, go_sem, z0, z1, z2, z3, z4, z5, z6, z7, z8, z9, z10]) rfl ?_
    rw [HRE.out]
    exact ⟨#[.int .i64 33, .int .i64 n1, .int .i64 n2, .int .i64 0, .int .i64 0, .complex .f64 0 0, .string ⟨#[]⟩, .int .i64 0, .int .i64 0, .slice none 0 0, .slice A cs.length cap], _, _, _, rfl, rfl, iD_len _ _ _ _ zt_len, iD_one _ _ _ zt_one (sl_one _ _), E2.out.1, E2.out.2.1, E2.out.2.2, STK.out⟩
theorem din_any (s : ByteArray) : DInOk s := by
 intro b p w hb hp hs
 cases h1 : rCnt s p with
 | bad t => exact din_bad s b p w hb hp hs t h1
 | ok k q =>
  by_cases hin : 1 ≤ k ∧ k ≤ 46
  ·by_cases h0 : k ≠ 1 ∧ k ≠ 34 ∧ k ≠ 27 ∧ k ≠ 33
   ·cases ha : hasAB k with
    | true => exact din_a s b p w hb hp hs k q h1 hin ha
    | false => exact din_z s b p w hb hp hs k q h1 hin ha h0
   ·rcases (by omega : k = 1 ∨ k = 34 ∨ k = 27 ∨ k = 33) with rfl | rfl | rfl | rfl
    ·exact din_1 s b p w hb hp hs q h1
    ·exact din_34 s b p w hb hp hs q h1
    ·exact din_27 s b p w hb hp hs q h1
    ·exact din_33 s b p w hb hp hs q h1
  ·exact din_no s b p w hb hp hs k q h1 hin
end Go.Proofs.YtcdefnbehlcgeaaGreatDoor
