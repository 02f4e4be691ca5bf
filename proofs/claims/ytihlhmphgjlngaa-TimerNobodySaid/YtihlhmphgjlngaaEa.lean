/-
  Running a program by reckoning, 10: an operation, whatever it is (but append).
  Nothing here speaks of the program.
-/
import Derived.Test.YtihlhmphgjlngaaE9
namespace Go.Proofs.Ytihlhmphgjlngaa
open Go.RowKit

def xop (E : Env) (ev : Operand → Option Value) (o : Oper) : Sem Next :=
  match o.op with
  | .move x | .assign x => match ev x with
    | some v => .pure (.value v)
    | none => no
  | .pick c a b => match ev c, ev a, ev b with
    | some (.bool t), some u, some v => .pure (.value (cond t u v))
    | _, _, _ => no
  | .alloc t => vN (xalloc E t)
  | .box t x => match ev x with
    | some v => vN (xbox t v)
    | none => no
  | .build t ps => match evP ev ps.toList with
    | some l => vN (xbuild E t l)
    | none => no
  | .buildSlice t n ps => match evP ev ps.toList with
    | some l => vN (xbuildSlice E t n l)
    | none => no
  | .load t a => match ev a with
    | some v => vN (xload E t v)
    | none => no
  | .store t a x => match ev a, ev x with
    | some v, some u => uN (xstore E t v u)
    | _, _ => no
  | .nilCheck x => match ev x with
    | some (.pointer (some a)) => .pure (.value (.pointer (some a)))
    | some (.func (.func f) p q) => .pure (.value (.func (.func f) p q))
    | _ => no
  | .binOp op t x y _ => match ev x, ev y with
    | some a, some b => vN (xbinOp E op t x y a b)
    | _, _ => no
  | .unOp op _ x => match ev x with
    | some a => vN (xunOp op a)
    | none => no
  | .convert s d x => match ev x with
    | some a => vN (xconvert E s d a)
    | none => no
  | .makeInterface t x => match ev x, E.ty.get t with
    | some v, some i => match i.under with
      | .interface _ => no
      | _ => .pure (.value (.iface t v))
    | _, _ => no
  | .makeFunc fn first captured => match fn, evL ev first.toList, evL ev captured.toList with
    | .yield _, _, _ => no
    | fn, some p, some q => .pure (.value (.func fn ⟨p⟩ ⟨q⟩))
    | _, _, _ => no
  | .makeSlice t l c => match ev l, ev c with
    | some a, some b => vN (xmakeSlice E t a b)
    | _, _ => no
  | .slice t x lo hi mx => match ev x, evO ev lo, evO ev hi, evO ev mx with
    | some v, some a, some b, some c => vN (xslice E t v a b c)
    | _, _, _, _ => no
  | .fieldAddr t x f => match ev x with
    | some v => vN (xfieldAddr E t v f)
    | none => no
  | .field t x f => match ev x with
    | some v => vN (xfield E t v f)
    | none => no
  | .indexAddr t x i => match ev x, ev i with
    | some v, some u => vN (xindexAddr E t v u)
    | _, _ => no
  | .index t x i => match ev x, ev i with
    | some v, some u => vN (xindex E t v u)
    | _, _ => no
  | .range t x => match ev x with
    | some (.map m) => vN (xrangeM E t m)
    | some v => vN (xrange E t v)
    | none => no
  | .next it b => match ev it, b with
    | some v, true => vN (xnext v true)
    | some v, false => vN (xnextM v)
    | none, _ => no
  | .typeAssert x _ t b => match ev x with
    | some v => vN (xassert E v t b)
    | none => no
  | .extract x n => match ev x with
    | some v => vN (xextract v n)
    | none => no
  | .call c => xcall E ev c
  | .makeMap _ none => vN (.new (.map #[] 0) fun b => .pure (.map (some b)))
  | .makeMap t (some h) => match ev h, E.ty.get t with
    | some (.int _ _), some i => match i.under with
      | .map _ _ => vN (.new (.map #[] 0) fun b => .pure (.map (some b)))
      | _ => no
    | _, _ => no
  | .lookup t x k b => match ev x, ev k with
    | some v, some u => vN (xlookup E t v u b)
    | _, _ => no
  | .mapUpdate t m k x => match ev m, ev k, ev x with
    | some v, some u, some z => uN (xmapUpdate E t v u z)
    | _, _, _ => no
  | .insert t m k x => match ev m, ev k, ev x with
    | some v, some u, some z => uN (xmapUpdate E t v u z)
    | _, _, _ => no
  | _ => no

section
variable {E : Env} {r : Ren}
theorem xop_R (ok : E.Ok) {ev : Operand → Option Value} {ev' : Operand → Value} (h : EvR r ev ev') (o : Oper) : SemR E.P NR r (xop E ev o) (execOp ev' o) := by
  obtain ⟨dst, op, type, pos, after, guard⟩ := o
  unfold xop
  dsimp only
  split <;> first | exact .halt | skip
  · split
    · rename_i v hv
      exact .pure (.value (h _ v hv))
    · exact .halt
  · split
    · rename_i v hv
      exact .pure (.value (h _ v hv))
    · exact .halt
  · rename_i c a b
    split
    · rename_i t u v hc hu hv
      have h1 := h c _ hc
      unfold execOp
      dsimp only
      generalize ev' c = cv at h1
      cases h1
      cases t with
      | true => exact .pure (.value (h a u hu))
      | false => exact .pure (.value (h b v hv))
    · exact .halt
  · exact vN_R (xalloc_R ok _)
  · split
    · rename_i v hv
      exact vN_R (xbox_R _ (h _ v hv))
    · exact .halt
  · rename_i t ps
    split
    · rename_i l hl
      refine vN_R (xbuild_R ok t ?_)
      have := evP_R h _ _ hl
      simpa using this
    · exact .halt
  · rename_i t n ps
    split
    · rename_i l hl
      refine vN_R (xbuildSlice_R ok t n ?_)
      have := evP_R h _ _ hl
      simpa using this
    · exact .halt
  · split
    · rename_i v hv
      exact vN_R (xload_R ok _ (h _ v hv))
    · exact .halt
  · split
    · rename_i v u hv hu
      exact uN_R (xstore_R ok _ (h _ v hv) (h _ u hu))
    · exact .halt
  · rename_i x
    split <;> first | exact .halt | skip
    · rename_i a ha
      have h1 := h x _ ha
      unfold execOp
      dsimp only
      generalize ev' x = xv at h1
      cases h1 with
      | ptr hb => exact .pure (.value (.ptr hb))
    · rename_i f p q ha
      have h1 := h x _ ha
      unfold execOp
      dsimp only
      generalize ev' x = xv at h1
      cases h1 with
      | func h2 h3 h4 h5 h6 => exact .pure (.value (.func h2 h3 h4 h5 h6))
  · rename_i op t x y z
    split
    · rename_i a b ha hb
      exact vN_R (xbinOp_R ok op t x y (h _ _ ha) (h _ _ hb))
    · exact .halt
  · split
    · rename_i a ha
      exact vN_R (xunOp_R _ (h _ _ ha))
    · exact .halt
  · split
    · rename_i a ha
      exact vN_R (xconvert_R ok _ _ (h _ _ ha))
    · exact .halt
  · rename_i t x
    split <;> first | exact .halt | skip
    rename_i v i hv hi
    have h1 := h x _ hv
    have key : (∀ m, i.under ≠ .interface m) → SemR E.P NR r (.pure (.value (.iface t v))) (do pure (.value (← Instr.makeInterface t (ev' x)))) := fun hn => by
      unfold Instr.makeInterface
      rw [bind_assoc]
      refine semUnd ok hi ?_
      cases hd : i.under with
      | interface m => exact absurd hd (hn m)
      | _ => exact .pure (.value (.iface h1))
    split
    · exact .halt
    · rename_i hn
      exact key fun m hm => hn m hm
  · rename_i fn first captured
    split <;> first | exact .halt | skip
    rename_i fn' p q hne hp hq
    have h1 := evL_R h _ _ hp
    have h2 := evL_R h _ _ hq
    have e1 : (⟨first.toList.map ev'⟩ : Array Value) = first.map ev' := by
      apply Array.ext'
      simp
    have e2 : (⟨captured.toList.map ev'⟩ : Array Value) = captured.map ev' := by
      apply Array.ext'
      simp
    rw [e1] at h1
    rw [e2] at h2
    exact .pure (.value (.func (fun l hl => hne l hl) h1.1 h1.2 h2.1 h2.2))
  · split
    · rename_i a b ha hb
      exact vN_R (xmakeSlice_R ok _ (h _ _ ha) (h _ _ hb))
    · exact .halt
  · split
    · rename_i v a b c hv ha hb hc
      exact vN_R (xslice_R ok _ (h _ _ hv) (evO_R h ha) (evO_R h hb) (evO_R h hc))
    · exact .halt
  · split
    · rename_i v hv
      exact vN_R (xfieldAddr_R ok _ (h _ _ hv) _)
    · exact .halt
  · split
    · rename_i v hv
      exact vN_R (xfield_R ok _ (h _ _ hv) _)
    · exact .halt
  · split
    · rename_i v u hv hu
      exact vN_R (xindexAddr_R ok _ (h _ _ hv) (h _ _ hu))
    · exact .halt
  · split
    · rename_i v u hv hu
      exact vN_R (xindex_R ok _ (h _ _ hv) (h _ _ hu))
    · exact .halt
  · split
    · rename_i m hv
      exact vN_R (xrangeM_R ok _ (h _ _ hv))
    · rename_i hv
      exact vN_R (xrange_R ok _ (h _ _ (by assumption)))
    · exact .halt
  · split
    · rename_i v hv
      exact vN_R (xnext_R (h _ v hv) _ _)
    · rename_i v hv
      exact vN_R (xnextM_R (h _ v hv) _)
    · exact .halt
  · split
    · rename_i v hv
      exact vN_R (xassert_R ok (h _ _ hv) _ _ _)
    · exact .halt
  · split
    · rename_i v hv
      exact vN_R (xextract_R (h _ _ hv) _)
    · exact .halt
  · exact xcall_R ok h _ _
  · exact vN_R (.new (.map 0 ⟨rfl, fun i e e' h => by simp at h⟩) fun _ _ _ _ hb => .pure (.map hb))
  · rename_i t hint
    split <;> first | exact .halt | skip
    rename_i k n i hv hi
    have h1 := h hint _ hv
    split
    · rename_i kt et hu
      unfold execOp
      dsimp only [Option.map]
      generalize ev' hint = xv at h1
      cases h1
      refine vN_R (s := .new (.map #[] 0) fun b => .pure (.map (some b))) ?_
      unfold Instr.makeMap
      refine semUnd ok hi ?_
      rw [hu]
      exact .new (.map 0 ⟨rfl, fun i e e' h => by simp at h⟩) fun _ _ _ _ hb => .pure (.map hb)
    · exact .halt
  · split
    · rename_i v u hv hu
      exact vN_R (xlookup_R ok _ (h _ _ hv) (h _ _ hu) _)
    · exact .halt
  · split
    · rename_i v u z hv hu hz
      exact uN_R (xmapUpdate_R ok _ (h _ _ hv) (h _ _ hu) (h _ _ hz))
    · exact .halt
  · split
    · rename_i v u z hv hu hz
      exact uN_R (xmapUpdate_R ok _ (h _ _ hv) (h _ _ hu) (h _ _ hz))
    · exact .halt
end
end Go.Proofs.Ytihlhmphgjlngaa
