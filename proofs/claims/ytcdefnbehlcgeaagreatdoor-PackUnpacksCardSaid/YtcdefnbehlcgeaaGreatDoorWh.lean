/- The program's reader of a term: its frame; where it can not be read at once; kind 1.. -/
import Derived.Test.YtcdefnbehlcgeaaGreatDoorWg
import Derived.Test.YtcdefnbehlcgeaaGreatDoorWb
set_option maxRecDepth 20000
namespace Go.Proofs.YtcdefnbehlcgeaaGreatDoor
open Go.RowKit
structure Fr (w : World) (m b v : Nat) (cs : Array Value) : Prop where
 r : Bk w m 61 #[.pointer (some ⟨b, 0, none⟩)]
 v : Bk w (m + 1) 3 #[.int .i64 v]
 o : Bk w (m + 1 + 1) 52 ZT
 t : Bk w (m + 1 + 1 + 1) 52 cs
theorem Fr.only {w w' : World} {m b v : Nat} {cs : Array Value} (h : Fr w m b v cs) (o : Only [b] w w') (hb : b < m) : Fr w' m b v cs :=
 ⟨h.r.only o (by simp; omega), h.v.only o (by simp; omega), h.o.only o (by simp; omega), h.t.only o (by simp; omega)⟩
theorem Fr.set {w : World} {m b v : Nat} {cs : Array Value} (h : Fr w m b v cs) (i : Nat) (u : Value) : Fr (w.setCell ⟨m + 1 + 1 + 1, i, none⟩ u) m b v (cs.setIfInBounds i u) :=
 ⟨h.r.away (by show m ≠ m + 1 + 1 + 1; omega) u, h.v.away (by show m + 1 ≠ m + 1 + 1 + 1; omega) u, h.o.away (by show m + 1 + 1 ≠ m + 1 + 1 + 1; omega) u, Bk.set h.t i u⟩
abbrev W4 (w : World) (b v : Nat) : World := (((w.alloc (.cells #[.pointer (some ⟨b, 0, none⟩)] 61)).alloc (.cells #[.int .i64 v] 3)).alloc (.cells ZT 52)).alloc (.cells ZT 52)
theorem size_al (w : World) (o : Obj) : (w.alloc o).heap.size = w.heap.size + 1 := by unfold World.alloc; simp
theorem Fr.made (w : World) (b v : Nat) : Fr (W4 w b v) w.heap.size b v ZT :=
 ⟨Bk.alloc (Bk.alloc (Bk.alloc (Bk.made w _ _) _) _) _,
  Bk.alloc (Bk.alloc (Bk.newAt (by rw [size_al])) _) _,
  Bk.alloc (Bk.newAt (by rw [size_al, size_al])) _,
  Bk.newAt (by rw [size_al, size_al, size_al])⟩
theorem W4.only (w : World) (b v : Nat) : Only [b] w (W4 w b v) := ((((Only.refl [b] w).alloc _).alloc _).alloc _).alloc _
theorem W4.rdb {w : World} {b : Nat} {s : ByteArray} {p : Nat} (h : Rdb w b s p) (v : Nat) : Rdb (W4 w b v) b s p := Bk.alloc (Bk.alloc (Bk.alloc (Bk.alloc h _) _) _) _
theorem setRow_bk {W : World} {g : Nat} {t : TypeId} {cs : Array Value} (h : Bk W g t cs) (us : Array Value) : Bk (W.setRow g us) g t us ∧ Only [g] W (W.setRow g us) :=
 ⟨setRow_heap _ _ cs _ t (0, 0) h, ⟨rfl, rfl, rfl, by simp [World.setRow], fun k _ hk => setRow_other _ _ _ _ (by simpa using hk)⟩⟩
theorem size7 : (Tryz.prog.info? 52).map (·.size) = some 7 := by kernel_rfl
theorem one7 : ZT.all (·.oneCell') = true := by simp [Value.oneCell']
theorem Fr.no {W W' : World} {m b v p : Nat} {cs : Array Value} {s : ByteArray} {w : World} (h : Fr W m b v cs) (hw : w.heap.size = m) (hb : b < m) (hr : Rdb W b s p) (o : Only [b] w W) (e : W' = W.setRow (m + 1 + 1) ZT) :
 Bk W' (m + 1 + 1) 52 ZT ∧ Rdb W' b s p ∧ Only [b] w W' := by
 obtain ⟨h1, h2⟩ := setRow_bk h.o ZT
 subst e
 exact ⟨h1, Bk.only hr h2 (by simp; omega), o.trans h2 (fun i hi => .inr (by simp at hi; omega))⟩
def TermOk (s : ByteArray) (d : Nat) : Prop := ∀ (b p v : Nat) (w : World), v + d = 64 → Rdb w b s p → p ≤ s.size → s.size ≤ 262144 →
 Calls Tryz.prog 41 #[.pointer (some ⟨b, 0, none⟩), .int .i64 v] w fun e w' => RdE b s (.agg ZT) (RD T.ds) (rTerm s d p) w e w'
theorem term_deep (s : ByteArray) : TermOk s 0 := by
 intro b p v w hv hb hp hs
 have h64 : ¬ (v : Int) < 64 := by omega
 show Calls Tryz.prog _ _ w fun e w' => RdE b s (.agg ZT) (RD T.ds) (.bad p) w e w'
 have HB := Lib.hid hb
 have HF := Lib.hid (Fr.made w b v)
 go_enter Tryz.func41, Tryz.ntmps41
 go_wp2_with fail
 refine wp_scope_fwd 0 rfl ?_
 go_wp2_with fail
 refine wp_goto (And.intro rfl ?_)
 have HE := Lib.hid (fun W' => Fr.no (W := W4 w b v) (W' := W') HF.out rfl (Bk.lt hb) (W4.rdb HB.out v) (W4.only w b v))
 go_wp2_with (refine wpList_store_row (by rfl) _ _ _ (by rfl) (w.heap.size + 1 + 1) ZT (by rfl) (by rfl) 52 ZT HF.out.o (by rw [size7]; rfl) (by rfl) one7 ?_; have HE2 := HE.out _ rfl; generalize World.setRow _ _ _ = W5 at HE2 ⊢; clear HE; obtain ⟨e1, e2, e3⟩ := HE2; have E2 := Lib.hid e2; have E3 := Lib.hid e3; obtain ⟨z0, z1, z2, z3, z4, z5, z6⟩ := Bk.seven e1; clear e1 e2 e3)
 try rw [Exit.last_ret]
 exact bodyPost_ret (v := .tuple #[.agg ZT, .bool false]) (by simp [results, Tryz.results41, go_sem, z0, z1, z2, z3, z4, z5, z6]) rfl ⟨rfl, E2.out, E3.out⟩
end Go.Proofs.YtcdefnbehlcgeaaGreatDoor
