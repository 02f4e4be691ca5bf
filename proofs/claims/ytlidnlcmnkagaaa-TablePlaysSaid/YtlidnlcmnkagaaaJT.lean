/- Three tables on both sides: the law's play in memory, and what may turn in it. -/
import Derived.Test.YtlidnlcmnkagaaaJL
namespace Go.Proofs.Ytlidnlcmnkagaaa
open Go.RowKit
set_option maxRecDepth 20000

/-- What the play's cells hold: tables, the document's tables (room and three rows), which there are, the pids given. -/
structure Cl where
  t : Nat → Value
  n : Nat → Int
  a : Nat → Value
  b : Nat → Value
  c : Nat → Value
  h : Nat → Bool
  g : Value
def upd {α : Type} (f : Nat → α) (k : Nat) (v : α) : Nat → α := fun j => if j = k then v else f j
theorem upd_at {α : Type} (f : Nat → α) (k : Nat) (v : α) : upd f k v k = v := if_pos rfl
theorem upd_ne {α : Type} (f : Nat → α) {k j : Nat} (v : α) (h : j ≠ k) : upd f k v j = f j := if_neg h
theorem upd_self {α : Type} (f : Nat → α) (k i : Nat) : upd f k (f i) i = f i := by
  unfold upd
  split <;> rfl
abbrev tyP : TypeId := 35
abbrev playC (C : Cl) : Array Value := #[C.t 0, C.t 1, C.t 2, .int .i64 (C.n 0), C.a 0, C.b 0, C.c 0, .int .i64 (C.n 1), C.a 1, C.b 1, C.c 1, .int .i64 (C.n 2), C.a 2, C.b 2, C.c 2, .bool (C.h 0), .bool (C.h 1), .bool (C.h 2), C.g]
theorem lt3 {i : Nat} (h : i < 3) : i = 0 ∨ i = 1 ∨ i = 2 := by omega
theorem play_at {w : World} {pb : Nat} {C : Cl} (h : Bk w pb tyP (playC C)) {i : Nat} (hi : i < 3) : w.cell? ⟨pb, i, none⟩ = some (C.t i) ∧ w.cell? ⟨pb, 3 + i * 4, none⟩ = some (.int .i64 (C.n i)) ∧
    w.cell? ⟨pb, 3 + i * 4 + 1, none⟩ = some (C.a i) ∧ w.cell? ⟨pb, 3 + i * 4 + 2, none⟩ = some (C.b i) ∧ w.cell? ⟨pb, 3 + i * 4 + 3, none⟩ = some (C.c i) ∧ w.cell? ⟨pb, 15 + i, none⟩ = some (.bool (C.h i)) := by
  rcases lt3 hi with rfl | rfl | rfl <;> exact ⟨h.cell0 rfl, h.cell0 rfl, h.cell0 rfl, h.cell0 rfl, h.cell0 rfl, h.cell0 rfl⟩
theorem play_setT {w : World} {pb : Nat} {C : Cl} (h : Bk w pb tyP (playC C)) {i : Nat} (hi : i < 3) (v : Value) : Bk (w.setCell ⟨pb, i, none⟩ v) pb tyP (playC { C with t := upd C.t i v }) := by
  rcases lt3 hi with rfl | rfl | rfl <;> exact h.set _ v
theorem play_setH {w : World} {pb : Nat} {C : Cl} (h : Bk w pb tyP (playC C)) {i : Nat} (hi : i < 3) (v : Bool) : Bk (w.setCell ⟨pb, 15 + i, none⟩ (.bool v)) pb tyP (playC { C with h := upd C.h i v }) := by
  rcases lt3 hi with rfl | rfl | rfl <;> exact h.set _ _
theorem play_setG {w : World} {pb : Nat} {C : Cl} (h : Bk w pb tyP (playC C)) (v : Value) : Bk (w.setCell ⟨pb, 18, none⟩ v) pb tyP (playC { C with g := v }) := h.set _ v
theorem play_setR {w : World} {pb : Nat} {C : Cl} (h : Bk w pb tyP (playC C)) {i : Nat} (hi : i < 3) (n : Int) (a b c : Value) :
    Bk ((((w.setCell ⟨pb, 3 + i * 4, none⟩ (.int .i64 n)).setCell ⟨pb, 3 + i * 4 + 1, none⟩ a).setCell ⟨pb, 3 + i * 4 + 2, none⟩ b).setCell ⟨pb, 3 + i * 4 + 3, none⟩ c) pb tyP
      (playC { C with n := upd C.n i n, a := upd C.a i a, b := upd C.b i b, c := upd C.c i c }) := by
  rcases lt3 hi with rfl | rfl | rfl <;> exact (((h.set _ _).set _ _).set _ _).set _ _

/-- What stands behind a side: the list of places, and where it lies. -/
structure Gh where
  T : List Pl
  b : Nat
  g : Nat
  m : Nat
  k : Nat
def SdOk (w : World) (t : Value) (n : Int) (a b c : Value) (h : Bool) (d : Gh) : Prop :=
  (h = false ∧ t = .pointer none ∧ n = 0 ∧ a = .slice none 0 0 ∧ b = .slice none 0 0 ∧ c = .slice none 0 0) ∨
  (h = true ∧ t = ptA d.b ∧ n = (d.T.length : Int) ∧ TRep w d.b d.g d.m d.k d.T ∧ RT w a b c d.T)
theorem SdOk.no (w : World) (d : Gh) : SdOk w (.pointer none) 0 (.slice none 0 0) (.slice none 0 0) (.slice none 0 0) false d := .inl ⟨rfl, rfl, rfl, rfl, rfl, rfl⟩
theorem SdOk.yes {w : World} {d : Gh} {a b c : Value} (t : TRep w d.b d.g d.m d.k d.T) (r : RT w a b c d.T) : SdOk w (ptA d.b) (d.T.length : Int) a b c true d := .inr ⟨rfl, rfl, rfl, t, r⟩
/-- Of blocks of other kinds nothing is the document's. -/
theorem RT.onlyK {w w' : World} {v1 v2 v3 : Value} {T : List Pl} (r : RT w v1 v2 v3 T) {g : Nat} {t : TypeId} {cs : Array Value} (k : Bk w g t cs) (h1 : KI.e ≠ t) (h2 : KB.e ≠ t) (h3 : KS.e ≠ t) (o : Only [g] w w') : RT w' v1 v2 v3 T :=
  ⟨r.h.onlyB k h1 o, r.a.onlyB k h2 o, r.n.onlyB k h3 o⟩
theorem SdOk.only {w w' : World} {t a b c : Value} {n : Int} {h : Bool} {d : Gh} (s : SdOk w t n a b c h d) (o : Only [] w w') : SdOk w' t n a b c h d := by
  rcases s with s | ⟨h1, h2, h3, h4, h5⟩
  · exact .inl s
  · exact .inr ⟨h1, h2, h3, h4.only o (by simp) (by simp) (by simp), h5.only o rfl⟩
theorem SdOk.onlyK {w w' : World} {t a b c : Value} {n : Int} {h : Bool} {d : Gh} (s : SdOk w t n a b c h d) {g : Nat} {ty : TypeId} {cs : Array Value} (k : Bk w g ty cs) (h1 : KI.e ≠ ty) (h2 : KB.e ≠ ty) (h3 : KS.e ≠ ty) (h4 : KL.e ≠ ty) (h5 : 83 ≠ ty) (o : Only [g] w w') : SdOk w' t n a b c h d := by
  rcases s with s | ⟨k1, k2, k3, k4, k5⟩
  · exact .inl s
  · obtain ⟨cur, hc⟩ := k4.row.obj
    exact .inr ⟨k1, k2, k3, k4.only o (by simpa using k4.blk.apart k h5) (by simpa using hc.apart k h4) (by simpa using k4.map.apart k), k5.onlyK k h1 h2 h3 o⟩
/-- What a table of another side does. -/
theorem SdOk.byTable {w w' : World} {t a b c : Value} {n : Int} {h : Bool} {d : Gh} (s : SdOk w t n a b c h d) {b' g m k : Nat} {T : List Pl} (r : TRep w b' g m k T) (hg : h = true → d.g ≠ g ∧ d.m ≠ m) (o : Only [g, m] w w') : SdOk w' t n a b c h d := by
  rcases s with s | ⟨k1, k2, k3, k4, k5⟩
  · exact .inl s
  · obtain ⟨cur, hc⟩ := k4.row.obj
    obtain ⟨cur', hc'⟩ := r.row.obj
    obtain ⟨n1, n2⟩ := hg k1
    refine .inr ⟨k1, k2, k3, k4.only o ?_ ?_ ?_, k5.byTable r o⟩
    · have h1 := k4.blk.apart hc' (by decide +kernel)
      have h2 := (r.map.apart k4.blk).symm
      simp [h1, h2]
    · have h2 := (r.map.apart hc).symm
      simp [n1, h2]
    · have h1 := k4.map.apart hc'
      simp [n2, h1]

/-- The play, but for what side i is. -/
structure PM (W : World) (pb : Nat) (C : Cl) (D : Nat → Gh) (L : List Pd) (i : Nat) (w : World) : Prop where
  blk : Bk w pb tyP (playC C)
  sd : ∀ j, j < 3 → j ≠ i → SdOk w (C.t j) (C.n j) (C.a j) (C.b j) (C.c j) (C.h j) (D j)
  ap : ∀ j k, j < 3 → k < 3 → j ≠ i → k ≠ i → j ≠ k → C.h j = true → C.h k = true → (D j).g ≠ (D k).g ∧ (D j).m ≠ (D k).m
  lo : ∀ j, j < 3 → j ≠ i → C.h j = true → W.heap.size ≤ (D j).b ∧ W.heap.size ≤ (D j).g ∧ W.heap.size ≤ (D j).m
  giv : OwnS KP w W.heap.size C.g L
  pbl : W.heap.size ≤ pb
  o : Only [] W w
/-- The play. -/
structure PR (W : World) (pb : Nat) (C : Cl) (D : Nat → Gh) (L : List Pd) (w : World) : Prop where
  blk : Bk w pb tyP (playC C)
  sd : ∀ j, j < 3 → SdOk w (C.t j) (C.n j) (C.a j) (C.b j) (C.c j) (C.h j) (D j)
  ap : ∀ j k, j < 3 → k < 3 → j ≠ k → C.h j = true → C.h k = true → (D j).g ≠ (D k).g ∧ (D j).m ≠ (D k).m
  lo : ∀ j, j < 3 → C.h j = true → W.heap.size ≤ (D j).b ∧ W.heap.size ≤ (D j).g ∧ W.heap.size ≤ (D j).m
  giv : OwnS KP w W.heap.size C.g L
  pbl : W.heap.size ≤ pb
  o : Only [] W w
section
variable {W w w' : World} {pb : Nat} {C : Cl} {D : Nat → Gh} {L : List Pd} {i : Nat}
theorem kip : KI.e ≠ tyP := by decide +kernel
theorem kbp : KB.e ≠ tyP := by decide +kernel
theorem ksp : KS.e ≠ tyP := by decide +kernel
theorem klp : KL.e ≠ tyP := by decide +kernel
theorem kpp : KP.e ≠ tyP := by decide +kernel
theorem ktp : 83 ≠ tyP := by decide +kernel
theorem PR.only (P : PR W pb C D L w) (o : Only [] w w') : PR W pb C D L w' :=
  ⟨P.blk.only o (by simp), fun j hj => (P.sd j hj).only o, P.ap, P.lo, P.giv.only o (by simp), P.pbl, P.o.trans o (by simp)⟩
theorem PM.only (P : PM W pb C D L i w) (o : Only [] w w') : PM W pb C D L i w' :=
  ⟨P.blk.only o (by simp), fun j hj hn => (P.sd j hj hn).only o, P.ap, P.lo, P.giv.only o (by simp), P.pbl, P.o.trans o (by simp)⟩
theorem PR.part (P : PR W pb C D L w) (i : Nat) : PM W pb C D L i w :=
  ⟨P.blk, fun j hj _ => P.sd j hj, fun j k hj hk _ _ => P.ap j k hj hk, fun j hj _ => P.lo j hj, P.giv, P.pbl, P.o⟩
/-- The table of side i does something. -/
theorem PR.turn (P : PR W pb C D L w) (hi : i < 3) (hh : C.h i = true) (r : TRep w (D i).b (D i).g (D i).m (D i).k (D i).T) (o : Only [(D i).g, (D i).m] w w') : PM W pb C D L i w' := by
  obtain ⟨cur, hc⟩ := r.row.obj
  obtain ⟨l1, l2, l3⟩ := P.lo i hi hh
  have hg := hc.apart P.blk klp
  have hm := r.map.apart P.blk
  refine ⟨P.blk.only o (by simp [Ne.symm hg, Ne.symm hm]), fun j hj hn => ?_, fun j k hj hk _ _ => P.ap j k hj hk, fun j hj _ => P.lo j hj, ?_, P.pbl, P.o.trans o fun x hx => ?_⟩
  · exact (P.sd j hj).byTable r (fun hj' => P.ap j i hj hi hn hj' hh) o
  · exact P.giv.byTable r kp1' kp2' o
  · right
    simp at hx
    omega
/-- The play's own cells are stored into. -/
theorem PM.own (P : PM W pb C D L i w) (o : Only [pb] w w') {C' : Cl} (b : Bk w' pb tyP (playC C')) (hg : C'.g = C.g) (he : ∀ j, j < 3 → j ≠ i → C'.t j = C.t j ∧ C'.n j = C.n j ∧ C'.a j = C.a j ∧ C'.b j = C.b j ∧ C'.c j = C.c j ∧ C'.h j = C.h j) : PM W pb C' D L i w' := by
  refine ⟨b, fun j hj hn => ?_, fun j k hj hk hn hm hjk h1 h2 => ?_, fun j hj hn h1 => ?_, ?_, P.pbl, P.o.trans o fun x hx => ?_⟩
  · obtain ⟨e1, e2, e3, e4, e5, e6⟩ := he j hj hn
    rw [e1, e2, e3, e4, e5, e6]
    exact (P.sd j hj hn).onlyK P.blk kip kbp ksp klp ktp o
  · rw [(he j hj hn).2.2.2.2.2] at h1
    rw [(he k hk hm).2.2.2.2.2] at h2
    exact P.ap j k hj hk hn hm hjk h1 h2
  · rw [(he j hj hn).2.2.2.2.2] at h1
    exact P.lo j hj hn h1
  · rw [hg]
    exact P.giv.onlyB P.blk kpp o
  · right
    have := P.pbl
    simp at hx
    omega
theorem PM.setT (P : PM W pb C D L i w) (hi : i < 3) (v : Value) : PM W pb { C with t := upd C.t i v } D L i (w.setCell ⟨pb, i, none⟩ v) :=
  P.own ((Only.refl [pb] w).set (.inl (by simp)) v) (play_setT P.blk hi v) rfl fun _ _ hn => ⟨upd_ne _ _ hn, rfl, rfl, rfl, rfl, rfl⟩
theorem PM.setH (P : PM W pb C D L i w) (hi : i < 3) (v : Bool) : PM W pb { C with h := upd C.h i v } D L i (w.setCell ⟨pb, 15 + i, none⟩ (.bool v)) :=
  P.own ((Only.refl [pb] w).set (.inl (by simp)) _) (play_setH P.blk hi v) rfl fun _ _ hn => ⟨rfl, rfl, rfl, rfl, rfl, upd_ne _ _ hn⟩
theorem PM.setR (P : PM W pb C D L i w) (hi : i < 3) (n : Int) (a b c : Value) : PM W pb { C with n := upd C.n i n, a := upd C.a i a, b := upd C.b i b, c := upd C.c i c } D L i
    ((((w.setCell ⟨pb, 3 + i * 4, none⟩ (.int .i64 n)).setCell ⟨pb, 3 + i * 4 + 1, none⟩ a).setCell ⟨pb, 3 + i * 4 + 2, none⟩ b).setCell ⟨pb, 3 + i * 4 + 3, none⟩ c) :=
  P.own (((((Only.refl [pb] w).set (.inl (by simp)) _).set (.inl (by simp)) _).set (.inl (by simp)) _).set (.inl (by simp)) _) (play_setR P.blk hi n a b c) rfl fun _ _ hn => ⟨rfl, upd_ne _ _ hn, upd_ne _ _ hn, upd_ne _ _ hn, upd_ne _ _ hn, rfl⟩
/-- Side i is whole again, behind what its table did. -/
theorem PM.close (P : PM W pb C D L i w) (hi : i < 3) (d : Gh) (s : SdOk w (C.t i) (C.n i) (C.a i) (C.b i) (C.c i) (C.h i) d)
    (ha : C.h i = true → ∀ j, j < 3 → j ≠ i → C.h j = true → d.g ≠ (D j).g ∧ d.m ≠ (D j).m) (hl : C.h i = true → W.heap.size ≤ d.b ∧ W.heap.size ≤ d.g ∧ W.heap.size ≤ d.m) : PR W pb C (upd D i d) L w := by
  refine ⟨P.blk, fun j hj => ?_, fun j k hj hk hn h1 h2 => ?_, fun j hj h1 => ?_, P.giv, P.pbl, P.o⟩
  · by_cases e : j = i
    · subst e; rw [upd_at]; exact s
    · rw [upd_ne _ _ e]; exact P.sd j hj e
  · by_cases e : j = i
    · subst e
      rw [upd_at, upd_ne _ _ (Ne.symm hn)]
      exact ha h1 k hk (Ne.symm hn) h2
    · by_cases e2 : k = i
      · subst e2
        rw [upd_at, upd_ne _ _ e]
        obtain ⟨x, y⟩ := ha h2 j hj e h1
        exact ⟨Ne.symm x, Ne.symm y⟩
      · rw [upd_ne _ _ e, upd_ne _ _ e2]
        exact P.ap j k hj hk e e2 hn h1 h2
  · by_cases e : j = i
    · subst e; rw [upd_at]; exact hl h1
    · rw [upd_ne _ _ e]; exact P.lo j hj e h1
/-- What is new is apart from all that was. -/
theorem PR.fresh (P : PR W pb C D L w) {g m : Nat} (hg : w.heap.size ≤ g) (hm : w.heap.size ≤ m) : ∀ j, j < 3 → C.h j = true → g ≠ (D j).g ∧ m ≠ (D j).m := by
  intro j hj hh
  rcases P.sd j hj with ⟨h1, _⟩ | ⟨_, _, _, h4, _⟩
  · rw [h1] at hh; cases hh
  · have h1 := h4.glt
    have h2 := h4.map.lt
    omega
/-- The pids given grow by one. -/
theorem PR.give (P : PR W pb C D L w) {v : Value} {L' : List Pd} {w1 : World} (g : w.grownBy w1 C.g.ownBlock) (h : OwnS KP w1 W.heap.size v L') : PR W pb { C with g := v } D L' (w1.setCell ⟨pb, 18, none⟩ v) := by
  have o1 : Only C.g.ownBlock.toList w w1 := Only.of_grown g
  have hb : pb ∉ C.g.ownBlock.toList := P.giv.apartB P.blk kpp
  have b1 := P.blk.only o1 hb
  have o2 : Only [pb] w1 (w1.setCell ⟨pb, 18, none⟩ v) := (Only.refl [pb] w1).set (.inl (by simp)) v
  have big : ∀ x ∈ C.g.ownBlock.toList, [] = ([] : List Nat) ∧ W.heap.size ≤ x := fun x hx => ⟨rfl, (P.giv.own_ge x hx).1⟩
  refine ⟨play_setG b1 v, fun j hj => ?_, P.ap, P.lo, h.onlyB b1 kpp o2, P.pbl, (P.o.trans o1 fun x hx => .inr (big x hx).2).trans o2 fun x hx => ?_⟩
  · refine SdOk.onlyK ?_ b1 kip kbp ksp klp ktp o2
    rcases P.sd j hj with s | ⟨k1, k2, k3, k4, k5⟩
    · exact .inl s
    · obtain ⟨n1, n2, n3⟩ := k4.beside P.giv kp1' kp2'
      exact .inr ⟨k1, k2, k3, k4.only o1 n1 n2 n3,
        ⟨k5.h.only o1 (k5.h.beside P.giv (by decide +kernel)), k5.a.only o1 (k5.a.beside P.giv (by decide +kernel)), k5.n.only o1 (k5.n.beside P.giv (by decide +kernel))⟩⟩
  · right
    have := P.pbl
    simp at hx
    omega
end
end Go.Proofs.Ytlidnlcmnkagaaa
