/- The program's reader of a function, given instr's contract. strings.HasPrefix.. -/
import Derived.Test.YtcdefnbehlcgeaaGreatDoorWo
import Derived.Test.YtcdefnbehlcgeaaGreatDoorWp
import Derived.Test.YtcdefnbehlcgeaaGreatDoorWb
set_option maxHeartbeats 4000000
set_option maxRecDepth 20000
set_option linter.unusedSimpArgs false
set_option linter.unusedVariables false
namespace Go.Proofs.YtcdefnbehlcgeaaGreatDoor
open Go.RowKit
theorem in_one (i : In) : ∀ d ∈ i.ds, d.One := by
 intro d hd
 simp only [In.ds, List.mem_append, List.mem_cons, List.not_mem_nil, or_false] at hd
 rcases hd with ((rfl | rfl | rfl) | hd) | rfl
 ·rfl
 ·rfl
 ·rfl
 ·exact ds_one _ d hd
 ·trivial
theorem Bk.four {w : World} {b : Nat} {t : TypeId} {v0 v1 v2 v3 : Value} (h : Bk w b t #[v0, v1, v2, v3]) : w.cell? ⟨b, 0, none⟩ = some v0 ∧ w.cell? ⟨b, 1, none⟩ = some v1 ∧ w.cell? ⟨b, 2, none⟩ = some v2 ∧ w.cell? ⟨b, 3, none⟩ = some v3 := ⟨h.cell0 rfl, h.cell0 rfl, h.cell0 rfl, h.cell0 rfl⟩
abbrev ZF' : Array Value := #[.string ⟨#[]⟩, .int .i64 0, .int .i64 0, .slice none 0 0]
theorem size4 : (Tryz.prog.info? 45).map (·.size) = some 4 := by kernel_rfl
theorem one4 : ZF'.all (·.oneCell') = true := by simp [Value.oneCell']
theorem enter_instr (args : Array Value) (w : World) : (callFunc 47 args).run Tryz.prog w = .ok (.enter 47 args) w := by kernel_rfl
def InOk (s : ByteArray) : Prop := ∀ (b p : Nat) (w : World), Rdb w b s p → p ≤ s.size → s.size ≤ 262144 → Calls Tryz.prog 47 #[.pointer (some ⟨b, 0, none⟩)] w fun e w' => RdE b s (.agg ZI) (RD In.ds) (rIn s p) w e w'
theorem fn_0 (s : ByteArray) (ok : InOk s) (b p : Nat) (w : World) (t : Nat) (h0 : rName s p = .bad t) (hb : Rdb w b s p) (hp : p ≤ s.size) (hs : s.size ≤ 262144) :
 Calls Tryz.prog 21 #[.pointer (some ⟨b, 0, none⟩)] w fun e w' => RdE b s (.agg ZF') (RD Fu.ds) (.bad t) w e w' := by
 have hbl := Bk.lt hb
 have F0 := Lib.hid (Fr2.made w 45 ZF')
 have O0 := Lib.hid (((Only.refl [b] w).alloc (.cells ZF' 45)).alloc (.cells ZF' 45))
 have R0 := Lib.hid (Bk.alloc (Bk.alloc hb (.cells ZF' 45)) (.cells ZF' 45))
 have s0 : w.heap.size + 1 < ((w.alloc (.cells ZF' 45)).alloc (.cells ZF' 45)).heap.size := Bk.lt F0.out.t
 go_enter Tryz.func21, Tryz.ntmps21
 go_wp2_with fail
 refine wp_scope_fwd 0 rfl ?_
 have HK := name_any b s p _ R0.out hp hs
 rw [h0] at HK
 have HK := Lib.hid HK
 go_wp2_with fail
 (with_reducible refine HK.out.mono ?_)
 rintro e w1 ⟨rfl, g3, g4⟩
 have F1 := Lib.hid (F0.out.only g4 hbl)
 have f : Fr2 (w1.setCell ⟨w.heap.size + 1, 0, none⟩ (.string ⟨#[]⟩)) w.heap.size 45 ZF' #[.string ⟨#[]⟩, .int .i64 0, .int .i64 0, .slice none 0 0] := by simpa using F1.out.set 0 (.string ⟨#[]⟩)
 have F2 := Lib.hid f
 have O2 := Lib.hid ((O0.out.trans g4 (fun i hi => .inl hi)).set (p := ⟨w.heap.size + 1, 0, none⟩) (.inr (by show w.heap.size ≤ w.heap.size + 1; omega)) (.string ⟨#[]⟩))
 have R2 := Lib.hid (Bk.away g3 (p := ⟨w.heap.size + 1, 0, none⟩) (by show b ≠ w.heap.size + 1; omega) (.string ⟨#[]⟩))
 obtain ⟨x0, x1, x2, x3⟩ := Bk.four (F1.out).t
 have k0 := (F1.out).t.free 0
 have k1 := (F1.out).t.free 1
 have k2 := (F1.out).t.free 2
 have k3 := (F1.out).t.free 3
 clear g3 g4 f HK
 go_wp2_with fail
 refine wp_goto (And.intro rfl ?_)
 have HE := Lib.hid (fun W' => Fr2.yes (W' := W') ZF' F2.out rfl hbl R2.out O2.out)
 go_wp2_with (refine wpList_store_row (by rfl) _ _ _ (by rfl) w.heap.size ZF' (by rfl) (by rfl) 45 ZF' F2.out.o (by rw [size4]; rfl) (by rfl) one4 ?_; have HE2 := HE.out _ rfl; generalize World.setRow _ _ _ = W5 at HE2 ⊢; clear HE; obtain ⟨e1, e2, e3, -⟩ := HE2; have E2 := Lib.hid e2; have E3 := Lib.hid e3; obtain ⟨z0, z1, z2, z3⟩ := Bk.four e1; clear e1 e2 e3)
 try rw [Exit.last_ret]
 exact bodyPost_ret (v := .tuple #[.agg ZF', .bool false]) (by simp [results, Tryz.results21, go_sem, z0, z1, z2, z3]) rfl ⟨rfl, E2.out, E3.out⟩
theorem fn_1 (s : ByteArray) (ok : InOk s) (b p : Nat) (w : World) (n : ByteArray) (q1 : Nat) (t : Nat) (h0 : rName s p = .ok n q1) (h1 : rCnt s q1 = .bad t) (hb : Rdb w b s p) (hp : p ≤ s.size) (hs : s.size ≤ 262144) :
 Calls Tryz.prog 21 #[.pointer (some ⟨b, 0, none⟩)] w fun e w' => RdE b s (.agg ZF') (RD Fu.ds) (.bad t) w e w' := by
 have hbl := Bk.lt hb
 have F0 := Lib.hid (Fr2.made w 45 ZF')
 have O0 := Lib.hid (((Only.refl [b] w).alloc (.cells ZF' 45)).alloc (.cells ZF' 45))
 have R0 := Lib.hid (Bk.alloc (Bk.alloc hb (.cells ZF' 45)) (.cells ZF' 45))
 have s0 : w.heap.size + 1 < ((w.alloc (.cells ZF' 45)).alloc (.cells ZF' 45)).heap.size := Bk.lt F0.out.t
 go_enter Tryz.func21, Tryz.ntmps21
 go_wp2_with fail
 refine wp_scope_fwd 0 rfl ?_
 have HK := name_any b s p _ R0.out hp hs
 rw [h0] at HK
 have HK := Lib.hid HK
 go_wp2_with fail
 (with_reducible refine HK.out.mono ?_)
 rintro e w1 ⟨u, rfl, rfl, g3, g4, g5⟩
 have F1 := Lib.hid (F0.out.only g4 hbl)
 have f : Fr2 (w1.setCell ⟨w.heap.size + 1, 0, none⟩ (.string n)) w.heap.size 45 ZF' #[.string n, .int .i64 0, .int .i64 0, .slice none 0 0] := by simpa using F1.out.set 0 (.string n)
 have F2 := Lib.hid f
 have O2 := Lib.hid ((O0.out.trans g4 (fun i hi => .inl hi)).set (p := ⟨w.heap.size + 1, 0, none⟩) (.inr (by show w.heap.size ≤ w.heap.size + 1; omega)) (.string n))
 have R2 := Lib.hid (Bk.away g3 (p := ⟨w.heap.size + 1, 0, none⟩) (by show b ≠ w.heap.size + 1; omega) (.string n))
 obtain ⟨x0, x1, x2, x3⟩ := Bk.four (F1.out).t
 have k0 := (F1.out).t.free 0
 have k1 := (F1.out).t.free 1
 have k2 := (F1.out).t.free 2
 have k3 := (F1.out).t.free 3
 clear g3 g4 f HK
 have HK := count_rd b s q1 _ R2.out g5 hs
 rw [h1] at HK
 have HK := Lib.hid HK
 go_wp2_with fail
 clear x0 x1 x2 x3 k0 k1 k2 k3
 (with_reducible refine HK.out.mono ?_)
 rintro e w2 ⟨rfl, g3, g4⟩
 have F3 := Lib.hid (F2.out.only g4 hbl)
 have f : Fr2 (w2.setCell ⟨w.heap.size + 1, 1, none⟩ (.int .i64 0)) w.heap.size 45 ZF' #[.string n, .int .i64 0, .int .i64 0, .slice none 0 0] := by simpa using F3.out.set 1 (.int .i64 0)
 have F4 := Lib.hid f
 have O4 := Lib.hid ((O2.out.trans g4 (fun i hi => .inl hi)).set (p := ⟨w.heap.size + 1, 1, none⟩) (.inr (by show w.heap.size ≤ w.heap.size + 1; omega)) (.int .i64 0))
 have R4 := Lib.hid (Bk.away g3 (p := ⟨w.heap.size + 1, 1, none⟩) (by show b ≠ w.heap.size + 1; omega) (.int .i64 0))
 obtain ⟨x0, x1, x2, x3⟩ := Bk.four (F3.out).t
 have k0 := (F3.out).t.free 0
 have k1 := (F3.out).t.free 1
 have k2 := (F3.out).t.free 2
 have k3 := (F3.out).t.free 3
 clear g3 g4 f HK
 go_wp2_with fail
 refine wp_goto (And.intro rfl ?_)
 have HE := Lib.hid (fun W' => Fr2.yes (W' := W') ZF' F4.out rfl hbl R4.out O4.out)
 go_wp2_with (refine wpList_store_row (by rfl) _ _ _ (by rfl) w.heap.size ZF' (by rfl) (by rfl) 45 ZF' F4.out.o (by rw [size4]; rfl) (by rfl) one4 ?_; have HE2 := HE.out _ rfl; generalize World.setRow _ _ _ = W5 at HE2 ⊢; clear HE; obtain ⟨e1, e2, e3, -⟩ := HE2; have E2 := Lib.hid e2; have E3 := Lib.hid e3; obtain ⟨z0, z1, z2, z3⟩ := Bk.four e1; clear e1 e2 e3)
 try rw [Exit.last_ret]
 exact bodyPost_ret (v := .tuple #[.agg ZF', .bool false]) (by simp [results, Tryz.results21, go_sem, z0, z1, z2, z3]) rfl ⟨rfl, E2.out, E3.out⟩
theorem fn_2 (s : ByteArray) (ok : InOk s) (b p : Nat) (w : World) (n : ByteArray) (q1 : Nat) (a : Nat) (q2 : Nat) (t : Nat) (h0 : rName s p = .ok n q1) (h1 : rCnt s q1 = .ok a q2) (h2 : rCnt s q2 = .bad t) (hb : Rdb w b s p) (hp : p ≤ s.size) (hs : s.size ≤ 262144) :
 Calls Tryz.prog 21 #[.pointer (some ⟨b, 0, none⟩)] w fun e w' => RdE b s (.agg ZF') (RD Fu.ds) (.bad t) w e w' := by
 have hbl := Bk.lt hb
 have F0 := Lib.hid (Fr2.made w 45 ZF')
 have O0 := Lib.hid (((Only.refl [b] w).alloc (.cells ZF' 45)).alloc (.cells ZF' 45))
 have R0 := Lib.hid (Bk.alloc (Bk.alloc hb (.cells ZF' 45)) (.cells ZF' 45))
 have s0 : w.heap.size + 1 < ((w.alloc (.cells ZF' 45)).alloc (.cells ZF' 45)).heap.size := Bk.lt F0.out.t
 go_enter Tryz.func21, Tryz.ntmps21
 go_wp2_with fail
 refine wp_scope_fwd 0 rfl ?_
 have HK := name_any b s p _ R0.out hp hs
 rw [h0] at HK
 have HK := Lib.hid HK
 go_wp2_with fail
 (with_reducible refine HK.out.mono ?_)
 rintro e w1 ⟨u, rfl, rfl, g3, g4, g5⟩
 have F1 := Lib.hid (F0.out.only g4 hbl)
 have f : Fr2 (w1.setCell ⟨w.heap.size + 1, 0, none⟩ (.string n)) w.heap.size 45 ZF' #[.string n, .int .i64 0, .int .i64 0, .slice none 0 0] := by simpa using F1.out.set 0 (.string n)
 have F2 := Lib.hid f
 have O2 := Lib.hid ((O0.out.trans g4 (fun i hi => .inl hi)).set (p := ⟨w.heap.size + 1, 0, none⟩) (.inr (by show w.heap.size ≤ w.heap.size + 1; omega)) (.string n))
 have R2 := Lib.hid (Bk.away g3 (p := ⟨w.heap.size + 1, 0, none⟩) (by show b ≠ w.heap.size + 1; omega) (.string n))
 obtain ⟨x0, x1, x2, x3⟩ := Bk.four (F1.out).t
 have k0 := (F1.out).t.free 0
 have k1 := (F1.out).t.free 1
 have k2 := (F1.out).t.free 2
 have k3 := (F1.out).t.free 3
 clear g3 g4 f HK
 have HK := count_rd b s q1 _ R2.out g5 hs
 rw [h1] at HK
 have HK := Lib.hid HK
 go_wp2_with fail
 clear x0 x1 x2 x3 k0 k1 k2 k3
 (with_reducible refine HK.out.mono ?_)
 rintro e w2 ⟨u, rfl, rfl, g3, g4, g6⟩
 have F3 := Lib.hid (F2.out.only g4 hbl)
 have f : Fr2 (w2.setCell ⟨w.heap.size + 1, 1, none⟩ (.int .i64 a)) w.heap.size 45 ZF' #[.string n, .int .i64 a, .int .i64 0, .slice none 0 0] := by simpa using F3.out.set 1 (.int .i64 a)
 have F4 := Lib.hid f
 have O4 := Lib.hid ((O2.out.trans g4 (fun i hi => .inl hi)).set (p := ⟨w.heap.size + 1, 1, none⟩) (.inr (by show w.heap.size ≤ w.heap.size + 1; omega)) (.int .i64 a))
 have R4 := Lib.hid (Bk.away g3 (p := ⟨w.heap.size + 1, 1, none⟩) (by show b ≠ w.heap.size + 1; omega) (.int .i64 a))
 obtain ⟨x0, x1, x2, x3⟩ := Bk.four (F3.out).t
 have k0 := (F3.out).t.free 0
 have k1 := (F3.out).t.free 1
 have k2 := (F3.out).t.free 2
 have k3 := (F3.out).t.free 3
 clear g3 g4 f HK
 have HK := count_rd b s q2 _ R4.out g6 hs
 rw [h2] at HK
 have HK := Lib.hid HK
 go_wp2_with fail
 clear x0 x1 x2 x3 k0 k1 k2 k3
 (with_reducible refine HK.out.mono ?_)
 rintro e w3 ⟨rfl, g3, g4⟩
 have F5 := Lib.hid (F4.out.only g4 hbl)
 have f : Fr2 (w3.setCell ⟨w.heap.size + 1, 2, none⟩ (.int .i64 0)) w.heap.size 45 ZF' #[.string n, .int .i64 a, .int .i64 0, .slice none 0 0] := by simpa using F5.out.set 2 (.int .i64 0)
 have F6 := Lib.hid f
 have O6 := Lib.hid ((O4.out.trans g4 (fun i hi => .inl hi)).set (p := ⟨w.heap.size + 1, 2, none⟩) (.inr (by show w.heap.size ≤ w.heap.size + 1; omega)) (.int .i64 0))
 have R6 := Lib.hid (Bk.away g3 (p := ⟨w.heap.size + 1, 2, none⟩) (by show b ≠ w.heap.size + 1; omega) (.int .i64 0))
 have s3 : w.heap.size + 1 < (w3.setCell ⟨w.heap.size + 1, 2, none⟩ (.int .i64 0)).heap.size := Bk.lt f.t
 obtain ⟨x0, x1, x2, x3⟩ := Bk.four (F5.out).t
 have k0 := (F5.out).t.free 0
 have k1 := (F5.out).t.free 1
 have k2 := (F5.out).t.free 2
 have k3 := (F5.out).t.free 3
 clear g3 g4 f HK
 go_wp2_with fail
 refine wp_goto (And.intro rfl ?_)
 have HE := Lib.hid (fun W' => Fr2.yes (W' := W') ZF' F6.out rfl hbl R6.out O6.out)
 go_wp2_with (refine wpList_store_row (by rfl) _ _ _ (by rfl) w.heap.size ZF' (by rfl) (by rfl) 45 ZF' F6.out.o (by rw [size4]; rfl) (by rfl) one4 ?_; have HE2 := HE.out _ rfl; generalize World.setRow _ _ _ = W5 at HE2 ⊢; clear HE; obtain ⟨e1, e2, e3, -⟩ := HE2; have E2 := Lib.hid e2; have E3 := Lib.hid e3; obtain ⟨z0, z1, z2, z3⟩ := Bk.four e1; clear e1 e2 e3)
 try rw [Exit.last_ret]
 exact bodyPost_ret (v := .tuple #[.agg ZF', .bool false]) (by simp [results, Tryz.results21, go_sem, z0, z1, z2, z3]) rfl ⟨rfl, E2.out, E3.out⟩
theorem fn_3 (s : ByteArray) (ok : InOk s) (b p : Nat) (w : World) (n : ByteArray) (q1 : Nat) (a : Nat) (q2 : Nat) (c : Nat) (q3 : Nat) (t : Nat) (h0 : rName s p = .ok n q1) (h1 : rCnt s q1 = .ok a q2) (h2 : rCnt s q2 = .ok c q3) (h3 : rSome (rIn s) s q3 = .bad t) (hb : Rdb w b s p) (hp : p ≤ s.size) (hs : s.size ≤ 262144) :
 Calls Tryz.prog 21 #[.pointer (some ⟨b, 0, none⟩)] w fun e w' => RdE b s (.agg ZF') (RD Fu.ds) (.bad t) w e w' := by
 have hbl := Bk.lt hb
 have F0 := Lib.hid (Fr2.made w 45 ZF')
 have O0 := Lib.hid (((Only.refl [b] w).alloc (.cells ZF' 45)).alloc (.cells ZF' 45))
 have R0 := Lib.hid (Bk.alloc (Bk.alloc hb (.cells ZF' 45)) (.cells ZF' 45))
 have s0 : w.heap.size + 1 < ((w.alloc (.cells ZF' 45)).alloc (.cells ZF' 45)).heap.size := Bk.lt F0.out.t
 go_enter Tryz.func21, Tryz.ntmps21
 go_wp2_with fail
 refine wp_scope_fwd 0 rfl ?_
 have HK := name_any b s p _ R0.out hp hs
 rw [h0] at HK
 have HK := Lib.hid HK
 go_wp2_with fail
 (with_reducible refine HK.out.mono ?_)
 rintro e w1 ⟨u, rfl, rfl, g3, g4, g5⟩
 have F1 := Lib.hid (F0.out.only g4 hbl)
 have f : Fr2 (w1.setCell ⟨w.heap.size + 1, 0, none⟩ (.string n)) w.heap.size 45 ZF' #[.string n, .int .i64 0, .int .i64 0, .slice none 0 0] := by simpa using F1.out.set 0 (.string n)
 have F2 := Lib.hid f
 have O2 := Lib.hid ((O0.out.trans g4 (fun i hi => .inl hi)).set (p := ⟨w.heap.size + 1, 0, none⟩) (.inr (by show w.heap.size ≤ w.heap.size + 1; omega)) (.string n))
 have R2 := Lib.hid (Bk.away g3 (p := ⟨w.heap.size + 1, 0, none⟩) (by show b ≠ w.heap.size + 1; omega) (.string n))
 obtain ⟨x0, x1, x2, x3⟩ := Bk.four (F1.out).t
 have k0 := (F1.out).t.free 0
 have k1 := (F1.out).t.free 1
 have k2 := (F1.out).t.free 2
 have k3 := (F1.out).t.free 3
 clear g3 g4 f HK
 have HK := count_rd b s q1 _ R2.out g5 hs
 rw [h1] at HK
 have HK := Lib.hid HK
 go_wp2_with fail
 clear x0 x1 x2 x3 k0 k1 k2 k3
 (with_reducible refine HK.out.mono ?_)
 rintro e w2 ⟨u, rfl, rfl, g3, g4, g6⟩
 have F3 := Lib.hid (F2.out.only g4 hbl)
 have f : Fr2 (w2.setCell ⟨w.heap.size + 1, 1, none⟩ (.int .i64 a)) w.heap.size 45 ZF' #[.string n, .int .i64 a, .int .i64 0, .slice none 0 0] := by simpa using F3.out.set 1 (.int .i64 a)
 have F4 := Lib.hid f
 have O4 := Lib.hid ((O2.out.trans g4 (fun i hi => .inl hi)).set (p := ⟨w.heap.size + 1, 1, none⟩) (.inr (by show w.heap.size ≤ w.heap.size + 1; omega)) (.int .i64 a))
 have R4 := Lib.hid (Bk.away g3 (p := ⟨w.heap.size + 1, 1, none⟩) (by show b ≠ w.heap.size + 1; omega) (.int .i64 a))
 obtain ⟨x0, x1, x2, x3⟩ := Bk.four (F3.out).t
 have k0 := (F3.out).t.free 0
 have k1 := (F3.out).t.free 1
 have k2 := (F3.out).t.free 2
 have k3 := (F3.out).t.free 3
 clear g3 g4 f HK
 have HK := count_rd b s q2 _ R4.out g6 hs
 rw [h2] at HK
 have HK := Lib.hid HK
 go_wp2_with fail
 clear x0 x1 x2 x3 k0 k1 k2 k3
 (with_reducible refine HK.out.mono ?_)
 rintro e w3 ⟨u, rfl, rfl, g3, g4, g7⟩
 have F5 := Lib.hid (F4.out.only g4 hbl)
 have f : Fr2 (w3.setCell ⟨w.heap.size + 1, 2, none⟩ (.int .i64 c)) w.heap.size 45 ZF' #[.string n, .int .i64 a, .int .i64 c, .slice none 0 0] := by simpa using F5.out.set 2 (.int .i64 c)
 have F6 := Lib.hid f
 have O6 := Lib.hid ((O4.out.trans g4 (fun i hi => .inl hi)).set (p := ⟨w.heap.size + 1, 2, none⟩) (.inr (by show w.heap.size ≤ w.heap.size + 1; omega)) (.int .i64 c))
 have R6 := Lib.hid (Bk.away g3 (p := ⟨w.heap.size + 1, 2, none⟩) (by show b ≠ w.heap.size + 1; omega) (.int .i64 c))
 have s3 : w.heap.size + 1 < (w3.setCell ⟨w.heap.size + 1, 2, none⟩ (.int .i64 c)).heap.size := Bk.lt f.t
 obtain ⟨x0, x1, x2, x3⟩ := Bk.four (F5.out).t
 have k0 := (F5.out).t.free 0
 have k1 := (F5.out).t.free 1
 have k2 := (F5.out).t.free 2
 have k3 := (F5.out).t.free 3
 clear g3 g4 f HK
 have HK := someI_any In.ds in_len in_one 47 #[.pointer (some ⟨b, 0, none⟩)] #[] (rIn s) b s q3 _ R6.out g7 hs enter_instr (fun q' w' hq' hb' ho' => ok b q' w' hb' hq' hs)
 rw [h3] at HK
 have HK := Lib.hid HK
 go_wp2_with fail
 clear x0 x1 x2 x3 k0 k1 k2 k3
 (with_reducible refine HK.out.mono ?_)
 rintro e w4 ⟨rfl, g3, g4⟩
 have F7 := Lib.hid (F6.out.only g4 hbl)
 have f : Fr2 (w4.setCell ⟨w.heap.size + 1, 3, none⟩ (.slice none 0 0)) w.heap.size 45 ZF' #[.string n, .int .i64 a, .int .i64 c, .slice none 0 0] := by simpa using F7.out.set 3 (.slice none 0 0)
 have F8 := Lib.hid f
 have O8 := Lib.hid ((O6.out.trans g4 (fun i hi => .inl hi)).set (p := ⟨w.heap.size + 1, 3, none⟩) (.inr (by show w.heap.size ≤ w.heap.size + 1; omega)) (.slice none 0 0))
 have R8 := Lib.hid (Bk.away g3 (p := ⟨w.heap.size + 1, 3, none⟩) (by show b ≠ w.heap.size + 1; omega) (.slice none 0 0))
 obtain ⟨x0, x1, x2, x3⟩ := Bk.four (F7.out).t
 have k0 := (F7.out).t.free 0
 have k1 := (F7.out).t.free 1
 have k2 := (F7.out).t.free 2
 have k3 := (F7.out).t.free 3
 clear g3 g4 f HK
 go_wp2_with fail
 refine wp_goto (And.intro rfl ?_)
 have HE := Lib.hid (fun W' => Fr2.yes (W' := W') ZF' F8.out rfl hbl R8.out O8.out)
 go_wp2_with (refine wpList_store_row (by rfl) _ _ _ (by rfl) w.heap.size ZF' (by rfl) (by rfl) 45 ZF' F8.out.o (by rw [size4]; rfl) (by rfl) one4 ?_; have HE2 := HE.out _ rfl; generalize World.setRow _ _ _ = W5 at HE2 ⊢; clear HE; obtain ⟨e1, e2, e3, -⟩ := HE2; have E2 := Lib.hid e2; have E3 := Lib.hid e3; obtain ⟨z0, z1, z2, z3⟩ := Bk.four e1; clear e1 e2 e3)
 try rw [Exit.last_ret]
 exact bodyPost_ret (v := .tuple #[.agg ZF', .bool false]) (by simp [results, Tryz.results21, go_sem, z0, z1, z2, z3]) rfl ⟨rfl, E2.out, E3.out⟩
theorem fn_4 (s : ByteArray) (ok : InOk s) (b p : Nat) (w : World) (n : ByteArray) (q1 : Nat) (a : Nat) (q2 : Nat) (c : Nat) (q3 : Nat) (l : List In) (q4 : Nat) (h0 : rName s p = .ok n q1) (h1 : rCnt s q1 = .ok a q2) (h2 : rCnt s q2 = .ok c q3) (h3 : rSome (rIn s) s q3 = .ok l q4) (hb : Rdb w b s p) (hp : p ≤ s.size) (hs : s.size ≤ 262144) :
 Calls Tryz.prog 21 #[.pointer (some ⟨b, 0, none⟩)] w fun e w' => RdE b s (.agg ZF') (RD Fu.ds) (.ok ⟨n, a, c, l⟩ q4) w e w' := by
 have hbl := Bk.lt hb
 have F0 := Lib.hid (Fr2.made w 45 ZF')
 have O0 := Lib.hid (((Only.refl [b] w).alloc (.cells ZF' 45)).alloc (.cells ZF' 45))
 have R0 := Lib.hid (Bk.alloc (Bk.alloc hb (.cells ZF' 45)) (.cells ZF' 45))
 have s0 : w.heap.size + 1 < ((w.alloc (.cells ZF' 45)).alloc (.cells ZF' 45)).heap.size := Bk.lt F0.out.t
 go_enter Tryz.func21, Tryz.ntmps21
 go_wp2_with fail
 refine wp_scope_fwd 0 rfl ?_
 have HK := name_any b s p _ R0.out hp hs
 rw [h0] at HK
 have HK := Lib.hid HK
 go_wp2_with fail
 (with_reducible refine HK.out.mono ?_)
 rintro e w1 ⟨u, rfl, rfl, g3, g4, g5⟩
 have F1 := Lib.hid (F0.out.only g4 hbl)
 have f : Fr2 (w1.setCell ⟨w.heap.size + 1, 0, none⟩ (.string n)) w.heap.size 45 ZF' #[.string n, .int .i64 0, .int .i64 0, .slice none 0 0] := by simpa using F1.out.set 0 (.string n)
 have F2 := Lib.hid f
 have O2 := Lib.hid ((O0.out.trans g4 (fun i hi => .inl hi)).set (p := ⟨w.heap.size + 1, 0, none⟩) (.inr (by show w.heap.size ≤ w.heap.size + 1; omega)) (.string n))
 have R2 := Lib.hid (Bk.away g3 (p := ⟨w.heap.size + 1, 0, none⟩) (by show b ≠ w.heap.size + 1; omega) (.string n))
 obtain ⟨x0, x1, x2, x3⟩ := Bk.four (F1.out).t
 have k0 := (F1.out).t.free 0
 have k1 := (F1.out).t.free 1
 have k2 := (F1.out).t.free 2
 have k3 := (F1.out).t.free 3
 clear g3 g4 f HK
 have HK := count_rd b s q1 _ R2.out g5 hs
 rw [h1] at HK
 have HK := Lib.hid HK
 go_wp2_with fail
 clear x0 x1 x2 x3 k0 k1 k2 k3
 (with_reducible refine HK.out.mono ?_)
 rintro e w2 ⟨u, rfl, rfl, g3, g4, g6⟩
 have F3 := Lib.hid (F2.out.only g4 hbl)
 have f : Fr2 (w2.setCell ⟨w.heap.size + 1, 1, none⟩ (.int .i64 a)) w.heap.size 45 ZF' #[.string n, .int .i64 a, .int .i64 0, .slice none 0 0] := by simpa using F3.out.set 1 (.int .i64 a)
 have F4 := Lib.hid f
 have O4 := Lib.hid ((O2.out.trans g4 (fun i hi => .inl hi)).set (p := ⟨w.heap.size + 1, 1, none⟩) (.inr (by show w.heap.size ≤ w.heap.size + 1; omega)) (.int .i64 a))
 have R4 := Lib.hid (Bk.away g3 (p := ⟨w.heap.size + 1, 1, none⟩) (by show b ≠ w.heap.size + 1; omega) (.int .i64 a))
 obtain ⟨x0, x1, x2, x3⟩ := Bk.four (F3.out).t
 have k0 := (F3.out).t.free 0
 have k1 := (F3.out).t.free 1
 have k2 := (F3.out).t.free 2
 have k3 := (F3.out).t.free 3
 clear g3 g4 f HK
 have HK := count_rd b s q2 _ R4.out g6 hs
 rw [h2] at HK
 have HK := Lib.hid HK
 go_wp2_with fail
 clear x0 x1 x2 x3 k0 k1 k2 k3
 (with_reducible refine HK.out.mono ?_)
 rintro e w3 ⟨u, rfl, rfl, g3, g4, g7⟩
 have F5 := Lib.hid (F4.out.only g4 hbl)
 have f : Fr2 (w3.setCell ⟨w.heap.size + 1, 2, none⟩ (.int .i64 c)) w.heap.size 45 ZF' #[.string n, .int .i64 a, .int .i64 c, .slice none 0 0] := by simpa using F5.out.set 2 (.int .i64 c)
 have F6 := Lib.hid f
 have O6 := Lib.hid ((O4.out.trans g4 (fun i hi => .inl hi)).set (p := ⟨w.heap.size + 1, 2, none⟩) (.inr (by show w.heap.size ≤ w.heap.size + 1; omega)) (.int .i64 c))
 have R6 := Lib.hid (Bk.away g3 (p := ⟨w.heap.size + 1, 2, none⟩) (by show b ≠ w.heap.size + 1; omega) (.int .i64 c))
 have s3 : w.heap.size + 1 < (w3.setCell ⟨w.heap.size + 1, 2, none⟩ (.int .i64 c)).heap.size := Bk.lt f.t
 obtain ⟨x0, x1, x2, x3⟩ := Bk.four (F5.out).t
 have k0 := (F5.out).t.free 0
 have k1 := (F5.out).t.free 1
 have k2 := (F5.out).t.free 2
 have k3 := (F5.out).t.free 3
 clear g3 g4 f HK
 have HK := someI_any In.ds in_len in_one 47 #[.pointer (some ⟨b, 0, none⟩)] #[] (rIn s) b s q3 _ R6.out g7 hs enter_instr (fun q' w' hq' hb' ho' => ok b q' w' hb' hq' hs)
 rw [h3] at HK
 have HK := Lib.hid HK
 go_wp2_with fail
 clear x0 x1 x2 x3 k0 k1 k2 k3
 (with_reducible refine HK.out.mono ?_)
 rintro e w4 ⟨u, rfl, hu, g3, g4, g8⟩
 have KU := Lib.hid hu
 unfold RL at hu
 simp only [DV] at hu
 obtain ⟨A, cap, rfl, -⟩ := hu
 have F7 := Lib.hid (F6.out.only g4 hbl)
 have f : Fr2 (w4.setCell ⟨w.heap.size + 1, 3, none⟩ (.slice A l.length cap)) w.heap.size 45 ZF' #[.string n, .int .i64 a, .int .i64 c, .slice A l.length cap] := by simpa using F7.out.set 3 (.slice A l.length cap)
 have F8 := Lib.hid f
 have O8 := Lib.hid ((O6.out.trans g4 (fun i hi => .inl hi)).set (p := ⟨w.heap.size + 1, 3, none⟩) (.inr (by show w.heap.size ≤ w.heap.size + 1; omega)) (.slice A l.length cap))
 have R8 := Lib.hid (Bk.away g3 (p := ⟨w.heap.size + 1, 3, none⟩) (by show b ≠ w.heap.size + 1; omega) (.slice A l.length cap))
 have OV := Lib.hid ((Only.refl [w.heap.size + 1, w.heap.size] w4).set (p := ⟨w.heap.size + 1, 3, none⟩) (.inl (by simp)) (.slice A l.length cap))
 obtain ⟨x0, x1, x2, x3⟩ := Bk.four (F7.out).t
 have k0 := (F7.out).t.free 0
 have k1 := (F7.out).t.free 1
 have k2 := (F7.out).t.free 2
 have k3 := (F7.out).t.free 3
 clear g3 g4 f HK
 have HE := Lib.hid (fun W' => Fr2.yes (W' := W') #[.string n, .int .i64 a, .int .i64 c, .slice A l.length cap] F8.out rfl hbl R8.out O8.out)
 go_wp2_with (first
  | (refine wpList_load_row (by rfl) 45 _ (by rfl) (w.heap.size + 1) (by rfl) 45 #[.string n, .int .i64 a, .int .i64 c, .slice A l.length cap] (0, 0) _ F8.out.t Tryz.underlying45 (by rfl) (by rw [size4]; rfl) ?_)
  | (refine wpList_store_row (by rfl) _ _ _ (by rfl) w.heap.size #[.string n, .int .i64 a, .int .i64 c, .slice A l.length cap] (by rfl) (by rfl) 45 ZF' F8.out.o (by rw [size4]; rfl) (by rfl) (by simp [Value.oneCell']) ?_; have HE2 := HE.out _ rfl; generalize World.setRow _ _ _ = W5 at HE2 ⊢; clear HE; obtain ⟨e1, e2, e3, e4⟩ := HE2; have E2 := Lib.hid e2; have E3 := Lib.hid e3; have E4 := Lib.hid e4; obtain ⟨z0, z1, z2, z3⟩ := Bk.four e1; clear e1 e2 e3 e4))
 try rw [Exit.jump_ret]
 refine bodyPost_ret (v := .tuple #[.agg #[.string n, .int .i64 a, .int .i64 c, .slice A l.length cap], .bool true]) (by simp [results, Tryz.results21, go_sem, z0, z1, z2, z3]) rfl ⟨_, rfl, ⟨#[.string n, .int .i64 a, .int .i64 c, .slice A l.length cap], rfl, ?_⟩, E2.out, E3.out, g8⟩
 have hD := DV.only (F' := fun g => w.heap.size ≤ g) (OV.out.trans E4.out (fun i hi => .inl (by simp at hi; simp [hi]))) (fun g hg hf => by simp at hg; omega) (fun g hf => by omega) _ _ KU.out
 exact ⟨_, _, rfl, DV.v.2 rfl, _, _, rfl, DV.v.2 rfl, _, _, rfl, DV.v.2 rfl, _, _, rfl, hD, rfl⟩
theorem fn_any (s : ByteArray) (ok : InOk s) (b p : Nat) (w : World) (hb : Rdb w b s p) (hp : p ≤ s.size) (hs : s.size ≤ 262144) :
 Calls Tryz.prog 21 #[.pointer (some ⟨b, 0, none⟩)] w fun e w' => RdE b s (.agg ZF') (RD Fu.ds) (rFn s p) w e w' := by
 cases h0 : rName s p with
 | bad t =>
  rw [show rFn s p = .bad t by unfold rFn; simp only [h0, Rs.bind]]
  exact fn_0 s ok b p w t h0 hb hp hs
 | ok n q1 =>
  cases h1 : rCnt s q1 with
  | bad t =>
   rw [show rFn s p = .bad t by unfold rFn; simp only [h0, h1, Rs.bind]]
   exact fn_1 s ok b p w n q1 t h0 h1 hb hp hs
  | ok a q2 =>
   cases h2 : rCnt s q2 with
   | bad t =>
    rw [show rFn s p = .bad t by unfold rFn; simp only [h0, h1, h2, Rs.bind]]
    exact fn_2 s ok b p w n q1 a q2 t h0 h1 h2 hb hp hs
   | ok c q3 =>
    cases h3 : rSome (rIn s) s q3 with
    | bad t =>
     rw [show rFn s p = .bad t by unfold rFn; simp only [h0, h1, h2, h3, Rs.bind, Rs.map]]
     exact fn_3 s ok b p w n q1 a q2 c q3 t h0 h1 h2 h3 hb hp hs
    | ok l q4 =>
     rw [show rFn s p = .ok ⟨n, a, c, l⟩ q4 by unfold rFn; simp only [h0, h1, h2, h3, Rs.bind, Rs.map]]
     exact fn_4 s ok b p w n q1 a q2 c q3 l q4 h0 h1 h2 h3 hb hp hs
open Go.RowKit
theorem slPre_any (s h : ByteArray) (w : World) (hs : s.size ≤ 262144) (hh : h.size ≤ 262144) : Calls Tryz.prog 42 #[.string s, .string h] w fun e w' => e = .returned (.bool (decide (h.size ≤ s.size) && ((s.extract 0 h.size).toList == h.toList))) ∧ w = w' := by
 by_cases hc : h.size ≤ s.size
 ·have h' : (h.size : Int) ≤ (s.size : Int) := by omega
  go_enter Tryz.func42, Tryz.ntmps42
  go_wp2_with fail
  go_ret
  exact ⟨ret_bool (by simp [hc]), rfl⟩
 ·have h' : ¬ (h.size : Int) ≤ (s.size : Int) := by omega
  go_enter Tryz.func42, Tryz.ntmps42
  go_wp2_with fail
  go_ret
  exact ⟨ret_bool (by simp [hc] <;> omega), rfl⟩
theorem pre_any (s h : ByteArray) (w : World) (hs : s.size ≤ 262144) (hh : h.size ≤ 262144) : Calls Tryz.prog 18 #[.string s, .string h] w fun e w' => e = .returned (.bool (decide (h.size ≤ s.size) && ((s.extract 0 h.size).toList == h.toList))) ∧ w = w' := by
 have K := Lib.hid (slPre_any s h w hs hh)
 generalize (decide (h.size ≤ s.size) && ((s.extract 0 h.size).toList == h.toList)) = r at K ⊢
 go_enter Tryz.func18, Tryz.ntmps18
 go_wp2_with fail
 (with_reducible refine K.out.mono ?_)
 rintro e w1 ⟨rfl, rfl⟩
 go_wp2_with fail
 go_ret
 exact ⟨rfl, rfl⟩
end Go.Proofs.YtcdefnbehlcgeaaGreatDoor
