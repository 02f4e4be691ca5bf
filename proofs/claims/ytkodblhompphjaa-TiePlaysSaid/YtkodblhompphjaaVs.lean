/- Running a program by reckoning, 8m: maps: made, looked into, entered, struck out, cleared, their lengths. (No ranges over maps: they draw their order.)
  Nothing here speaks of the program. -/
import Derived.Test.YtkodblhompphjaaVr
namespace Go.Proofs.Ytkodblhompphjaa
open Go.RowKit

section
variable {E : Env} {r : Ren}
/-- A key may be one: it holds no interface and no array. -/
def xkeyF (E : Env) (ck : TypeId → Value → Sem Unit) (cs : Array Value) : List (Nat × Nat) → Sem Unit
  | [] => .pure ()
  | (o, t) :: l => (xpart E t cs o).bind fun v => (ck t v).bind fun _ => xkeyF E ck cs l
def xkey (E : Env) : Nat → TypeId → Value → Sem Unit
  | 0, _, _ => no
  | d + 1, t, v => match E.ty.get t with
    | none => no
    | some i => match i.under, v with
      | .struct _, .agg cs => xkeyF E (xkey E d) cs i.cmp
      | .int _, .int _ _ => .pure ()
      | .string, .string _ => .pure ()
      | .bool, .bool _ => .pure ()
      | _, _ => no
theorem xkeyF_R (ok : E.Ok) {ck ck' : TypeId → Value → Sem Unit} (hck : ∀ s t x x', VR s x x' → SemR E.P (fun _ _ _ => True) s (ck t x) (ck' t x')) {xs xs' : Array Value} (body : Field → PUnit → Sem (ForInStep PUnit))
    (hb1 : ∀ f s, f.name ≠ "_" → body f s = (do
        let a ← part f.type xs' f.offset
        let _ ← ck' f.type a
        pure (ForInStep.yield ())))
    (hb2 : ∀ f s, ¬ f.name ≠ "_" → body f s = pure (ForInStep.yield ())) (kont : PUnit → Sem Unit) (hk : kont () = pure ()) : ∀ (fs : List Field) (s : Ren), VRs s xs xs' →
    SemR E.P (fun _ _ _ => True) s (xkeyF E ck xs (cmpF fs)) (forIn fs () body >>= kont)
  | [], s, _ => by
    rw [List.forIn_nil, pure_bind, hk]
    exact .pure trivial
  | f :: fs, s, hx => by
    rw [List.forIn_cons]
    by_cases hn : f.name ≠ "_"
    · rw [cmpF_yes hn, hb1 f _ hn]
      simp only [bind_assoc]
      refine SemR.bind' (xpart_R ok f.type hx f.offset) fun s1 a a' l1 ha => ?_
      refine SemR.bind' (hck s1 f.type a a' ha) fun s2 z z' l2 hz => ?_
      simp only [pure_bind]
      exact xkeyF_R ok hck body hb1 hb2 kont hk fs s2 (hx.le (Ren.le_trans l1 l2))
    · rw [cmpF_no hn, hb2 f _ hn]
      simp only [pure_bind]
      exact xkeyF_R ok hck body hb1 hb2 kont hk fs s hx
theorem xkey_R (ok : E.Ok) (b : Bool) : ∀ (n d : Nat) (r : Ren) (t : TypeId) (v v' : Value), n ≤ d → VR r v v' → SemR E.P (fun _ _ _ => True) r (xkey E n t v) (Instr.checkKey b d t v')
  | 0, _, _, _, _, _, _, _ => .halt
  | n + 1, 0, _, _, _, _, h, _ => absurd h (by omega)
  | n + 1, d + 1, r, t, v, v', h, hv => by
    unfold xkey Instr.checkKey
    split
    · exact .halt
    · rename_i i hi
      refine semUnd ok hi ?_
      split <;> first | exact .halt | skip
      all_goals rename_i hu
      all_goals rw [hu]
      · cases hv with
        | agg a1 a2 =>
          dsimp only
          obtain ⟨_, j, hj, _, _, _, hc, hst, _⟩ := ok.ty t i hi
          rw [hc, hu, show ∀ fs, cmpOf (.struct fs) = cmpF fs.toList from fun _ => rfl, ← Array.forIn_toList]
          refine xkeyF_R ok (ck := xkey E n) (ck' := Instr.checkKey b d) ?_ _ ?_ ?_ _ rfl _ r ⟨a1, a2⟩
          · exact fun s t x x' hx => xkey_R ok b n d s t x x' (by omega) hx
          · intro f s hf
            exact if_pos hf
          · intro f s hf
            exact if_neg hf
      · cases hv
        exact .pure trivial
      · cases hv
        exact .pure trivial
      · cases hv
        exact .pure trivial
theorem simple_eq {r : Ren} {v v' : Value} (h : VR r v v') (hs : simple v = true) : v' = v := by
  unfold simple at hs
  split at hs
  · rename_i cs
    cases h with
    | @agg _ cs' h1 h2 =>
      congr 1
      apply Array.ext h1
      intro i hi hi'
      have h3 := h2 i cs[i] cs'[i] (Array.getElem?_eq_getElem hi') (Array.getElem?_eq_getElem hi)
      rw [List.all_eq_true] at hs
      exact simple1_eq h3 (hs _ (by rw [Array.mem_toList_iff]; exact Array.getElem_mem hi'))
  · exact simple1_eq h hs
/-- Two answers of a search alike. -/
def FR (r : Ren) : Option (Nat × Value) → Option (Nat × Value) → Prop
  | none, none => True
  | some (i, v), some (j, v') => i = j ∧ VR r v v'
  | _, _ => False
def LR (r : Ren) (es es' : List MapEntry) : Prop := es'.length = es.length ∧ ∀ (i : Nat) (e e' : MapEntry), es[i]? = some e → es'[i]? = some e' → VR r e.key e'.key ∧ VR r e.val e'.val ∧ e'.born = e.born
theorem MR.list {r : Ren} {es es' : Array MapEntry} (h : MR r es es') : LR r es.toList es'.toList := ⟨by simpa using h.1, fun i e e' h1 h2 => h.2 i e e' (by simpa using h1) (by simpa using h2)⟩
theorem LR.array {r : Ren} {l l' : List MapEntry} (h : LR r l l') : MR r ⟨l⟩ ⟨l'⟩ := ⟨by simpa using h.1, fun i e e' h1 h2 => h.2 i e e' (by simpa using h1) (by simpa using h2)⟩
theorem LR.le {r s : Ren} {es es' : List MapEntry} (h : LR r es es') (l : r.le s) : LR s es es' :=
  ⟨h.1, fun i e e' h1 h2 => let ⟨a, b, c⟩ := h.2 i e e' h1 h2; ⟨a.le l, b.le l, c⟩⟩
theorem LR.at {r : Ren} {l l' : List MapEntry} (h : LR r l l') {j : Nat} {e : MapEntry} (he : l[j]? = some e) : ∃ e', l'[j]? = some e' ∧ VR r e.key e'.key ∧ VR r e.val e'.val ∧ e'.born = e.born := by
  have hj : j < l.length := by
    apply Nat.lt_of_not_le
    intro hle
    rw [List.getElem?_eq_none hle] at he
    cases he
  have hj' : j < l'.length := h.1 ▸ hj
  exact ⟨l'[j], List.getElem?_eq_getElem hj', h.2 j e _ he (List.getElem?_eq_getElem hj')⟩
theorem LR.tail {r : Ren} {e e' : MapEntry} {l l' : List MapEntry} (h : LR r (e :: l) (e' :: l')) : LR r l l' :=
  ⟨by have := h.1; simpa using this, fun i a a' h1 h2 => h.2 (i + 1) a a' (by simpa using h1) (by simpa using h2)⟩
theorem LR.head {r : Ren} {e e' : MapEntry} {l l' : List MapEntry} (h : LR r (e :: l) (e' :: l')) : VR r e.key e'.key ∧ VR r e.val e'.val ∧ e'.born = e.born := h.2 0 e e' rfl rfl
theorem LR.cases {r : Ren} {l' : List MapEntry} : ∀ {l : List MapEntry}, LR r l l' → (l = [] ∧ l' = []) ∨ ∃ e m e' m', l = e :: m ∧ l' = e' :: m' ∧ LR r m m' ∧ VR r e.key e'.key ∧ VR r e.val e'.val ∧ e'.born = e.born
  | [], h => by
    have := h.1
    simp at this
    exact .inl ⟨rfl, this⟩
  | e :: m, h => by
    match l', h with
    | e' :: m', h => exact .inr ⟨e, m, e', m', rfl, rfl, h.tail, h.head⟩
theorem sameNow_R {r : Ren} {d : TypeDesc} {k k' x x' : Value} {b : Bool} (h : Instr.sameNow d k x = some b) (hk : VR r k k') (hx : VR r x x') : Instr.sameNow d k' x' = some b := by
  unfold Instr.sameNow at h
  split at h
  · cases hk; cases hx; exact h
  · cases hk; cases hx; exact h
  · cases hk; cases hx; exact h
  · cases h
theorem sameNow_struct (fs : Array Field) (a b : Value) : Instr.sameNow (.struct fs) a b = none := by
  unfold Instr.sameNow
  split <;> first | rfl | (exfalso; simp_all; done)
theorem findNow_R {r : Ren} {d : TypeDesc} {k k' : Value} (hk : VR r k k') : ∀ (es es' : List MapEntry) (i : Nat) (x : Option (Nat × Value)), LR r es es' → Instr.findNow d k es i = some x → ∃ x', Instr.findNow d k' es' i = some x' ∧ FR r x x'
  | es, es', i, x, h, e => by
    rcases h.cases with ⟨rfl, rfl⟩ | ⟨a, m, a', m', rfl, rfl, h1, h2, h3, h4⟩
    · simp only [Instr.findNow, Option.some.injEq] at e
      subst e
      exact ⟨none, rfl, trivial⟩
    · simp only [Instr.findNow] at e ⊢
      split at e
      · rename_i hs
        rw [sameNow_R hs hk h2]
        injection e with e
        subst e
        exact ⟨_, rfl, rfl, h3⟩
      · rename_i hs
        rw [sameNow_R hs hk h2]
        exact findNow_R hk m m' (i + 1) x h1 e
      · cases e
def xfindAsk (E : Env) (t : TypeId) (k : Value) : List MapEntry → Nat → Sem (Option (Nat × Value))
  | [], _ => .pure none
  | e :: es, i => (xequal E 100 t k e.key).bind fun z => cond z (.pure (some (i, e.val))) (xfindAsk E t k es (i + 1))
theorem xfindAsk_R (ok : E.Ok) (t : TypeId) {k k' : Value} : ∀ (es es' : List MapEntry) (i : Nat) (r : Ren), VR r k k' → LR r es es' → SemR E.P FR r (xfindAsk E t k es i) (Instr.findAsking t k' es' i)
  | es, es', i, r, hk, h => by
    rcases h.cases with ⟨rfl, rfl⟩ | ⟨a, m, a', m', rfl, rfl, h1, h2, h3, h4⟩
    · exact .pure trivial
    · unfold xfindAsk Instr.findAsking
      refine SemR.bind' (xequal_R ok 100 Op.maxDepth r t k k' a.key a'.key (by unfold Op.maxDepth; omega) hk h2) fun s u v l e => ?_
      subst e
      cases u with
      | true => exact .pure ⟨rfl, h3.le l⟩
      | false => exact xfindAsk_R ok t m m' (i + 1) s (hk.le l) (h1.le l)
def xfindKey (E : Env) (t : TypeId) (k : Value) (es : List MapEntry) : Sem (Option (Nat × Value)) :=
  match E.ty.get t with
  | none => no
  | some i => match i.under with
    | .struct _ => xfindAsk E t k es 0
    | d => match Instr.findNow d k es 0 with
      | some x => .pure x
      | none => no
theorem xfindKey_R (ok : E.Ok) (t : TypeId) {k k' : Value} {es es' : List MapEntry} (hk : VR r k k') (h : LR r es es') : SemR E.P FR r (xfindKey E t k es) (Instr.findKey t k' es') := by
  unfold xfindKey Instr.findKey
  split
  · exact .halt
  · rename_i i hi
    refine semUnd ok hi ?_
    split
    · rename_i fs hu
      rw [hu]
      rcases h.cases with ⟨rfl, rfl⟩ | ⟨a, m, a', m', rfl, rfl, h1, h2, h3, h4⟩
      · exact .pure trivial
      · have hn : Instr.findNow (.struct fs) k' (a' :: m') 0 = none := by
          simp only [Instr.findNow, sameNow_struct]
        rw [hn]
        exact xfindAsk_R ok t _ _ 0 r hk h
    · split
      · rename_i x hx
        obtain ⟨x', h1, h2⟩ := findNow_R hk es es' 0 x h hx
        rw [h1]
        exact .pure h2
      · exact .halt
/-! ### The operations -/
def xlookEnd (E : Env) (kt et : TypeId) (k : Value) (ok : Bool) (es : List MapEntry) : Sem Value :=
  match E.ty.get et with
  | none => no
  | some j => match j.zero with
    | none => no
    | some z => (xkey E 100 kt k).bind fun _ => (xfindKey E kt k es).bind fun f => match f with
      | some (_, v) => .pure (cond ok (.tuple #[v, .bool true]) v)
      | none => .pure (cond ok (.tuple #[z, .bool false]) z)
def xlookup (E : Env) (t : TypeId) (x k : Value) (ok : Bool) : Sem Value :=
  match E.ty.get t with
  | none => no
  | some i => match i.under, x with
    | .map kt et, .map (some b) => .getObj b fun o => match o with
      | .map es _ => xlookEnd E kt et k ok es.toList
      | _ => no
    | .map kt et, .map none => xlookEnd E kt et k ok []
    | _, _ => no
theorem VR.pair {r : Ren} {v v' : Value} (h : VR r v v') (b : Bool) : VR r (.tuple #[v, .bool b]) (.tuple #[v', .bool b]) := by
  refine .tuple rfl fun i u u' h1 h2 => ?_
  match i, h1, h2 with
  | 0, h1, h2 =>
    injection h1 with h1
    injection h2 with h2
    subst h1 h2
    exact h
  | 1, h1, h2 =>
    injection h1 with h1
    injection h2 with h2
    subst h1 h2
    exact .bool b
theorem xlookEnd_R (ok : E.Ok) (kt et : TypeId) {k k' : Value} {es : List MapEntry} {es' : Array MapEntry} (hk : VR r k k') (h : LR r es es'.toList) (b : Bool) : SemR E.P VR r (xlookEnd E kt et k b es) (do
      Instr.checkKey es'.isEmpty 10000 kt k'
      let (v, ok) ← match ← Instr.findKey kt k' es'.toList with
        | some (_, v) => pure (v, true)
        | none => pure (← zeroValue et, false)
      pure (if b then .tuple #[v, .bool ok] else v)) := by
  unfold xlookEnd
  split
  · exact .halt
  · rename_i j hj
    split
    · exact .halt
    · rename_i z hz
      refine SemR.bind' (xkey_R ok es'.isEmpty 100 10000 r kt k k' (by omega) hk) fun s1 _ _ l1 _ => ?_
      refine SemR.bind' (xfindKey_R ok kt (hk.le l1) (h.le l1)) fun s2 f f' l2 hf => ?_
      match f, f', hf with
      | none, none, _ =>
        refine semZero ok hj hz fun hs => ?_
        cases b with
        | true => exact .pure ((VR.simple hs).pair false)
        | false => exact .pure (VR.simple hs)
      | some (i, v), some (i', v'), hf =>
        cases b with
        | true => exact .pure (hf.2.pair true)
        | false => exact .pure hf.2
theorem xlookup_R (ok : E.Ok) (t : TypeId) {x x' k k' : Value} (hx : VR r x x') (hk : VR r k k') (b : Bool) : SemR E.P VR r (xlookup E t x k b) (Instr.lookup t x' k' b) := by
  unfold xlookup
  split
  · exact .halt
  · rename_i i hi
    unfold Instr.lookup
    split <;> first | exact .halt | skip
    · rename_i kt et blk hu
      refine semUnd ok hi ?_
      rw [hu]
      cases hx with
      | map hb =>
        refine SemR.getObj hb fun s o o' l ho => ?_
        cases ho with
        | cells => exact .halt
        | iter => exact .halt
        | miterNo => exact .halt
        | miter => exact .halt
        | @map es es' n hm => exact xlookEnd_R ok kt et (hk.le l) hm.list b
    · rename_i kt et hu
      refine semUnd ok hi ?_
      rw [hu]
      cases hx
      simp only [pure_bind]
      exact xlookEnd_R ok kt et (es := []) (es' := #[]) hk ⟨rfl, fun i e e' h => by simp at h⟩ b
theorem LR.push {r : Ren} {l l' : List MapEntry} (h : LR r l l') {e e' : MapEntry} (he : VR r e.key e'.key ∧ VR r e.val e'.val ∧ e'.born = e.born) : LR r (l ++ [e]) (l' ++ [e']) := by
  refine ⟨by simp [h.1], fun i a a' h1 h2 => ?_⟩
  rw [List.getElem?_append] at h1 h2
  rw [h.1] at h2
  split at h1
  · rename_i hlt
    rw [if_pos hlt] at h2
    exact h.2 i a a' h1 h2
  · rename_i hlt
    rw [if_neg hlt] at h2
    match hi : i - l.length, h1, h2 with
    | 0, h1, h2 =>
      injection h1 with h1
      injection h2 with h2
      subst h1 h2
      exact he
theorem LR.set {r : Ren} {l l' : List MapEntry} (h : LR r l l') (j : Nat) {e e' : MapEntry} (he : VR r e.key e'.key ∧ VR r e.val e'.val ∧ e'.born = e.born) : LR r (l.set j e) (l'.set j e') := by
  refine ⟨by simp [h.1], fun i a a' h1 h2 => ?_⟩
  rw [List.getElem?_set] at h1 h2
  rw [h.1] at h2
  by_cases hj : j = i
  · rw [if_pos hj] at h1 h2
    split at h1
    · rename_i hlt
      rw [if_pos hlt] at h2
      injection h1 with h1
      injection h2 with h2
      subst h1 h2
      exact he
    · cases h1
  · rw [if_neg hj] at h1 h2
    exact h.2 i a a' h1 h2
theorem LR.erase {r : Ren} {l l' : List MapEntry} (h : LR r l l') (j : Nat) : LR r (l.eraseIdx j) (l'.eraseIdx j) := by
  refine ⟨by simp [List.length_eraseIdx, h.1], fun i a a' h1 h2 => ?_⟩
  rw [List.getElem?_eraseIdx] at h1 h2
  split at h1
  · rename_i hlt
    rw [if_pos hlt] at h2
    exact h.2 i a a' h1 h2
  · rename_i hlt
    rw [if_neg hlt] at h2
    exact h.2 (i + 1) a a' h1 h2
theorem modify_at {α : Type} {f : α → α} : ∀ (l : List α) (j : Nat) (e : α), l[j]? = some e → l.modify j f = l.set j (f e)
  | [], j, e, h => by simp at h
  | a :: l, 0, e, h => by
    injection h with h
    subst h
    rfl
  | a :: l, j + 1, e, h => by rw [List.modify_succ_cons, List.set_cons_succ, modify_at l j e (by simpa using h)]
def xmapUpdate (E : Env) (t : TypeId) (m k v : Value) : Sem Unit :=
  match E.ty.get t with
  | none => no
  | some i => match i.under, m with
    | .map kt _, .map (some b) => .getObj b fun o => match o with
      | .map es n => (xkey E 100 kt k).bind fun _ => (xfindKey E kt k es.toList).bind fun f => match f with
        | none => .setObj b (.map ⟨es.toList ++ [⟨k, v, n⟩]⟩ (n + 1)) (.pure ())
        | some (j, _) => match nthL es.toList j with
          | none => no
          | some e => match simple e.key && simple k && Instr.sameBits 10000 e.key k with
            | true => .setObj b (.map ⟨setL es.toList j ⟨k, v, e.born⟩⟩ n) (.pure ())
            | false => no
      | _ => no
    | _, _ => no
theorem xmapUpdate_R (ok : E.Ok) (t : TypeId) {m m' k k' v v' : Value} (hm : VR r m m') (hk : VR r k k') (hv : VR r v v') : SemR E.P UR r (xmapUpdate E t m k v) (Instr.mapUpdate t m' k' v') := by
  unfold xmapUpdate
  split
  · exact .halt
  · rename_i i hi
    unfold Instr.mapUpdate
    split <;> first | exact .halt | skip
    rename_i kt et blk hu
    refine semUnd ok hi ?_
    rw [hu]
    cases hm with
    | map hb =>
      refine SemR.getObj hb fun s o o' l ho => ?_
      cases ho with
      | cells => exact .halt
      | iter => exact .halt
      | miterNo => exact .halt
      | miter => exact .halt
      | @map es es' n hes =>
        show SemR E.P _ s _ (Instr.checkKey false 10000 kt k' >>= fun _ => _)
        refine SemR.bind' (xkey_R ok false 100 10000 s kt k k' (by omega) (hk.le l)) fun s1 _ _ l1 _ => ?_
        refine SemR.bind' (xfindKey_R ok kt (hk.le (Ren.le_trans l l1)) (hes.list.le l1)) fun s2 f f' l2 hf => ?_
        have hl := hes.list.le (Ren.le_trans l1 l2)
        have ll := Ren.le_trans l (Ren.le_trans l1 l2)
        match f, f', hf with
        | none, none, _ =>
          refine SemR.setObj (ll _ _ hb) (.map _ ?_) (.pure trivial)
          have := (hl.push (e := ⟨k, v, n⟩) (e' := ⟨k', v', n⟩) ⟨hk.le ll, hv.le ll, rfl⟩).array
          rwa [show (⟨es'.toList ++ [⟨k', v', n⟩]⟩ : Array MapEntry) = es'.push ⟨k', v', n⟩ by apply Array.ext'; simp] at this
        | some (j, _), some (j', w'), hf =>
          obtain ⟨rfl, hw⟩ := hf
          dsimp only
          split
          · exact .halt
          · rename_i e he
            split
            · rename_i hs
              rw [Bool.and_eq_true, Bool.and_eq_true] at hs
              obtain ⟨⟨hs1, hs2⟩, hs3⟩ := hs
              rw [nthL_eq] at he
              obtain ⟨e', he', h1, h2, h3⟩ := hl.at he
              have e1 : e'.key = e.key := simple_eq h1 hs1
              have e2 : k' = k := simple_eq (hk.le ll) hs2
              subst e2
              have he2 : es'[j]? = some e' := by simpa using he'
              have h4 : ((es'[j]?).map (·.key)).getD k' = e.key := by rw [he2, ← e1]; rfl
              rw [h4]
              unfold Instr.keyThatStays
              rw [if_pos hs3]
              show SemR E.P _ s2 _ (Sem.setObj _ (.map (es'.modify j fun e => ⟨k', v', e.born⟩) n) (.pure ()))
              refine SemR.setObj (ll _ _ hb) (.map _ ?_) (.pure trivial)
              have := (hl.set j (e := ⟨k', v, e.born⟩) (e' := ⟨k', v', e'.born⟩) ⟨hk.le ll, hv.le ll, h3⟩).array
              rw [setL_eq]
              rwa [show (⟨es'.toList.set j ⟨k', v', e'.born⟩⟩ : Array MapEntry) = es'.modify j fun e => ⟨k', v', e.born⟩ by apply Array.ext'; simp [modify_at (f := fun e : MapEntry => (⟨k', v', e.born⟩ : MapEntry)) _ _ _ he']] at this
            · exact .halt
def xdelete (E : Env) (t : TypeId) (m k : Value) : Sem Value :=
  match E.ty.get t with
  | none => no
  | some i => match i.under, m with
    | .map kt _, .map none => (xkey E 100 kt k).bind fun _ => .pure (.tuple #[])
    | .map kt _, .map (some b) => .getObj b fun o => match o with
      | .map es n => (xkey E 100 kt k).bind fun _ => (xfindKey E kt k es.toList).bind fun f => match f with
        | some (j, _) => .setObj b (.map ⟨es.toList.eraseIdx j⟩ n) (.pure (.tuple #[]))
        | none => .setObj b (.map es n) (.pure (.tuple #[]))
      | _ => no
    | _, _ => no
theorem xdelete_R (ok : E.Ok) (t : TypeId) (ts : Array TypeId) (ty : TypeId) (ht : ts[0]? = some t) {m m' k k' : Value} (hm : VR r m m') (hk : VR r k k') : SemR E.P VR r (xdelete E t m k) (Builtin.delete_ ts ty #[m', k']) := by
  have hnil : ∀ s, VR s (.tuple #[]) (.tuple #[]) := fun s => .tuple rfl (VRs.nil s).2
  unfold xdelete
  split
  · exact .halt
  · rename_i i hi
    unfold Builtin.delete_
    rw [ht]
    dsimp only
    split <;> first | exact .halt | skip
    · rename_i kt et hu
      refine semUnd ok hi ?_
      rw [hu]
      cases hm
      exact SemR.bind' (xkey_R ok true 100 10000 r kt k k' (by omega) hk) fun s1 _ _ l1 _ => .pure (hnil _)
    · rename_i kt et blk hu
      refine semUnd ok hi ?_
      rw [hu]
      cases hm with
      | map hb =>
        refine SemR.getObj hb fun s o o' l ho => ?_
        cases ho with
        | cells => exact .halt
        | iter => exact .halt
        | miterNo => exact .halt
        | miter => exact .halt
        | @map es es' n hes =>
          show SemR E.P _ s _ (Instr.checkKey es'.isEmpty 10000 kt k' >>= fun _ => _)
          refine SemR.bind' (xkey_R ok es'.isEmpty 100 10000 s kt k k' (by omega) (hk.le l)) fun s1 _ _ l1 _ => ?_
          refine SemR.bind' (xfindKey_R ok kt (hk.le (Ren.le_trans l l1)) (hes.list.le l1)) fun s2 f f' l2 hf => ?_
          have hl := hes.list.le (Ren.le_trans l1 l2)
          have ll := Ren.le_trans l (Ren.le_trans l1 l2)
          match f, f', hf with
          | none, none, _ =>
            refine SemR.setObj (ll _ _ hb) (.map _ ?_) (.pure (hnil _))
            exact hl.array
          | some (j, _), some (j', w'), hf =>
            obtain ⟨rfl, hw⟩ := hf
            refine SemR.setObj (ll _ _ hb) (.map _ ?_) (.pure (hnil _))
            have := (hl.erase j).array
            rwa [show (⟨es'.toList.eraseIdx j⟩ : Array MapEntry) = es'.eraseIdxIfInBounds j by apply Array.ext'; simp] at this
def xmapLen (E : Env) (t : TypeId) (m : Option Nat) : Sem Value :=
  match E.ty.get t with
  | none => no
  | some i => match i.under, m with
    | .map _ _, none => .pure (.int .i64 0)
    | .map _ _, some b => .getObj b fun o => match o with
      | .map es _ => .pure (.int .i64 (es.toList.length : Nat))
      | _ => no
    | _, _ => no
theorem xmapLen_R (ok : E.Ok) (t ty : TypeId) (ts : Array TypeId) (ht : ts[0]? = some t) {m : Option Nat} {v' : Value} (hv : VR r (.map m) v') : SemR E.P VR r (xmapLen E t m) (Builtin.len_ ts ty #[v']) := by
  unfold xmapLen
  split
  · exact .halt
  · rename_i i hi
    unfold Builtin.len_
    rw [ht]
    split <;> first | exact .halt | skip
    · rename_i kt et hu
      refine semUnd ok hi ?_
      rw [hu]
      cases hv
      exact .pure (.int _ _)
    · rename_i kt et blk hu
      refine semUnd ok hi ?_
      rw [hu]
      cases hv with
      | map hb =>
        refine SemR.getObj hb fun s o o' l ho => ?_
        cases ho with
        | cells => exact .halt
        | iter => exact .halt
        | miterNo => exact .halt
        | miter => exact .halt
        | @map es es' n hes =>
          show SemR E.P VR s (Sem.pure (.int .i64 (es.toList.length : Nat))) (Sem.pure (.int .i64 (es'.size : Nat)))
          rw [hes.1, show es.toList.length = es.size by simp]
          exact .pure (.int _ _)
def xmapClear (E : Env) (t : TypeId) (m : Option Nat) : Sem Value :=
  match E.ty.get t with
  | none => no
  | some i => match i.under, m with
    | .map _ _, none => .pure (.tuple #[])
    | .map _ _, some b => .getObj b fun o => match o with
      | .map _ n => .setObj b (.map #[] n) (.pure (.tuple #[]))
      | _ => no
    | _, _ => no
theorem xmapClear_R (ok : E.Ok) (t ty : TypeId) (ts : Array TypeId) (ht : ts[0]? = some t) {m : Option Nat} {v' : Value} (hv : VR r (.map m) v') : SemR E.P VR r (xmapClear E t m) (Builtin.clear_ ts ty #[v']) := by
  have hnil : ∀ s, VR s (.tuple #[]) (.tuple #[]) := fun s => .tuple rfl (VRs.nil s).2
  unfold xmapClear
  split
  · exact .halt
  · rename_i i hi
    unfold Builtin.clear_
    rw [ht]
    split <;> first | exact .halt | skip
    · rename_i kt et hu
      refine semUnd ok hi ?_
      rw [hu]
      cases hv
      exact .pure (hnil _)
    · rename_i kt et blk hu
      refine semUnd ok hi ?_
      rw [hu]
      cases hv with
      | map hb =>
        refine SemR.getObj hb fun s o o' l ho => ?_
        cases ho with
        | cells => exact .halt
        | iter => exact .halt
        | miterNo => exact .halt
        | miter => exact .halt
        | @map es es' n hes => exact SemR.setObj (l _ _ hb) (.map _ ⟨rfl, fun i e e' h => by simp at h⟩) (.pure (hnil _))
/-! ### Ranges over maps, as far as nothing is drawn: one entry at most that was not gone over yet -/
theorem LR.filter {r : Ren} {p : MapEntry → Bool} (hp : ∀ e e' : MapEntry, e'.born = e.born → p e' = p e) : ∀ {l l' : List MapEntry}, LR r l l' → LR r (l.filter p) (l'.filter p) := by
  intro l
  induction l with
  | nil =>
    intro l' h
    rcases h.cases with ⟨_, rfl⟩ | ⟨a, m, a', m', h0, _⟩
    · exact h
    · cases h0
  | cons a l ih =>
    intro l' h
    rcases h.cases with ⟨h0, _⟩ | ⟨b, m, a', m', h0, rfl, h1, h2⟩
    · cases h0
    · injection h0 with e1 e2
      subst e1 e2
      rw [List.filter_cons, List.filter_cons, hp a a' h2.2.2]
      have h3 := ih h1
      split
      · refine ⟨by simp [h3.1], fun i u u' hu hu' => ?_⟩
        cases i with
        | zero =>
          injection hu with hu
          injection hu' with hu'
          subst hu hu'
          exact h2
        | succ i => exact h3.2 i u u' (by simpa using hu) (by simpa using hu')
      · exact h3
theorem LR.all {r : Ren} {p : MapEntry → Bool} (hp : ∀ e e' : MapEntry, e'.born = e.born → p e' = p e) {l l' : List MapEntry} (h : LR r l l') : l'.all p = l.all p := by
  induction l generalizing l' with
  | nil =>
    rcases h.cases with ⟨_, rfl⟩ | ⟨a, m, a', m', h0, _⟩
    · rfl
    · cases h0
  | cons a l ih =>
    rcases h.cases with ⟨h0, _⟩ | ⟨b, m, a', m', h0, rfl, h1, h2⟩
    · cases h0
    · injection h0 with e1 e2
      subst e1 e2
      rw [List.all_cons, List.all_cons, hp a a' h2.2.2, ih h1]
def xrangeM (E : Env) (t : TypeId) (m : Option Nat) : Sem Value :=
  match E.ty.get t with
  | none => no
  | some i => match i.under, m with
    | .map _ _, none => .new (.mapIter none 0 #[] 0) fun b => .pure (.pointer (some ⟨b, 0, none⟩))
    | .map _ _, some m => .getObj m fun o => match o with
      | .map _ n => .new (.mapIter (some m) n #[] n) fun b => .pure (.pointer (some ⟨b, 0, none⟩))
      | _ => no
    | _, _ => no
theorem xrangeM_R (ok : E.Ok) (t : TypeId) {m : Option Nat} {v' : Value} (hv : VR r (.map m) v') : SemR E.P VR r (xrangeM E t m) (Instr.range t v') := by
  unfold xrangeM
  split
  · exact .halt
  · rename_i i hi
    split <;> first | exact .halt | skip
    · rename_i kt et hu
      cases hv
      unfold Instr.range
      refine semUnd ok hi ?_
      rw [hu]
      exact .new (.miterNo _ _ _) fun _ _ _ _ hb => .pure (.ptr hb)
    · rename_i kt et blk hu
      cases hv with
      | map hm =>
        unfold Instr.range
        refine semUnd ok hi ?_
        rw [hu]
        refine SemR.getObj hm fun s o o' l ho => ?_
        cases ho with
        | cells => exact .halt
        | iter => exact .halt
        | miterNo => exact .halt
        | miter => exact .halt
        | @map es es' n hes => exact .new (.miter _ _ _ (l _ _ hm)) fun _ _ _ _ hb => .pure (.ptr hb)
def bornIn (seen : Array Nat) (e : MapEntry) : Bool := !seen.contains e.born
def xnextM (v : Value) : Sem Value :=
  match v with
  | .pointer (some ⟨b, 0, _⟩) => .getObj b fun o => match o with
    | .mapIter none _ _ _ => .pure (.tuple #[.bool false])
    | .mapIter (some m) since seen last => .getObj m fun o => match o with
      | .map es n => match !seen.isEmpty && !es.isEmpty && es.toList.all (·.born ≥ last) with
        | true => no
        | false => match (es.toList.filter fun e => !seen.contains e.born).filter (·.born < since), (es.toList.filter fun e => !seen.contains e.born).filter (·.born ≥ since) with
          | [], [] => .choose (.mapNext 1) fun _ => .pure (.tuple #[.bool false])
          | [e], [] => .choose (.mapNext 1) fun _ => .setObj b (.mapIter (some m) since (seen.push e.born) n) (.pure (.tuple #[.bool true, e.key, e.val]))
          | _, _ => no
      | _ => no
    | _ => no
  | _ => no
theorem xnextM_R {P : Program} {v v' : Value} (hv : VR r v v') (t : TypeId) : SemR P VR r (xnextM v) (Instr.next v' false t) := by
  unfold xnextM
  split
  · rename_i blk sp
    cases hv with
    | ptr hb =>
      unfold Instr.next
      dsimp only
      refine SemR.getObj hb fun s o o' l ho => ?_
      cases ho with
      | cells => exact .halt
      | iter => exact .halt
      | map => exact .halt
      | miterNo => exact .pure (.tuple rfl (VRs.simple (by rfl)).2)
      | miter since seen last hm =>
        refine SemR.getObj hm fun s1 o o' l1 ho => ?_
        cases ho with
        | cells => exact .halt
        | iter => exact .halt
        | miterNo => exact .halt
        | miter => exact .halt
        | @map es es' n hes =>
          dsimp only
          have h0 : (!seen.isEmpty && !es'.isEmpty && es'.all fun e => decide (e.born ≥ last)) = (!seen.isEmpty && !es.isEmpty && es.toList.all fun e => decide (e.born ≥ last)) := by
            have e1 := hes.list.all (p := fun e => decide (e.born ≥ last)) (fun e e' he => by simp only [he])
            have e2 : es'.isEmpty = es.isEmpty := by simp only [Array.isEmpty, hes.1]
            rw [← e1, e2]
            simp
          split
          · exact .halt
          · rename_i hz
            have f1 : Array.filter (fun x => decide (x.born < since)) (Array.filter (fun e => !seen.contains e.born) es') = ⟨(es'.toList.filter fun e => !seen.contains e.born).filter fun x => decide (x.born < since)⟩ := by
              apply Array.ext'
              simp only [Array.toList_filter]
            have f2 : Array.filter (fun x => decide (x.born ≥ since)) (Array.filter (fun e => !seen.contains e.born) es') = ⟨(es'.toList.filter fun e => !seen.contains e.born).filter fun x => decide (x.born ≥ since)⟩ := by
              apply Array.ext'
              simp only [Array.toList_filter]
            have hle := hes.list.filter (p := fun e => !seen.contains e.born) (fun e e' he => by simp only [he])
            have h1 := hle.filter (p := fun x => decide (x.born < since)) (fun e e' he => by simp only [he])
            have h2 := hle.filter (p := fun x => decide (x.born ≥ since)) (fun e e' he => by simp only [he])
            rw [show ∀ f : Obj → Sem Value, (Sem.pure (Obj.map es' n)).bind f = f (Obj.map es' n) from fun _ => rfl]
            dsimp only
            rw [h0, hz, f1, f2, if_neg (by simp)]
            generalize (es'.toList.filter fun e => !seen.contains e.born).filter (fun x => decide (x.born < since)) = old' at h1
            generalize (es'.toList.filter fun e => !seen.contains e.born).filter (fun x => decide (x.born ≥ since)) = new' at h2
            split
            · rename_i g1 g2
              rw [g1] at h1
              rw [g2] at h2
              rcases h1.cases with ⟨_, rfl⟩ | ⟨_, _, _, _, h3, _⟩
              · rcases h2.cases with ⟨_, rfl⟩ | ⟨_, _, _, _, h3, _⟩
                · have c1 : ((if (⟨[]⟩ : Array MapEntry).isEmpty = true then #[none] else #[]) ++ Array.map some ((⟨[]⟩ : Array MapEntry) ++ ⟨[]⟩)) = #[none] := by simp
                  rw [c1]
                  exact SemR.choose (q := .mapNext 1) (.pure (VR.tuple rfl (VRs.simple (by rfl)).2))
                · cases h3
              · cases h3
            · rename_i e g1 g2
              rw [g1] at h1
              rw [g2] at h2
              rcases h1.cases with ⟨h3, _⟩ | ⟨a, m, a', m', h3, rfl, h4, h5⟩
              · cases h3
              · injection h3 with e1 e2
                subst e1 e2
                rcases h4.cases with ⟨_, rfl⟩ | ⟨_, _, _, _, h3, _⟩
                · rcases h2.cases with ⟨_, rfl⟩ | ⟨_, _, _, _, h3, _⟩
                  · have c1 : ((if (⟨[a']⟩ : Array MapEntry).isEmpty = true then #[none] else #[]) ++ Array.map some ((⟨[a']⟩ : Array MapEntry) ++ ⟨[]⟩)) = #[some a'] := by simp
                    rw [c1]
                    refine SemR.choose (q := .mapNext 1) ?_
                    rw [← h5.2.2]
                    refine SemR.setObj (b' := _) ((Ren.le_trans l l1) _ _ hb) (.miter _ _ _ (l1 _ _ hm)) (.pure ?_)
                    refine .tuple rfl fun i u u' hu hu' => ?_
                    match i, hu, hu' with
                    | 0, hu, hu' =>
                      injection hu with hu
                      injection hu' with hu'
                      subst hu hu'
                      exact .bool true
                    | 1, hu, hu' =>
                      injection hu with hu
                      injection hu' with hu'
                      subst hu hu'
                      exact h5.1
                    | 2, hu, hu' =>
                      injection hu with hu
                      injection hu' with hu'
                      subst hu hu'
                      exact h5.2.1
                  · cases h3
                · cases h3
            · exact .halt
  · exact .halt
/-! ### The entry that a range over a map has come to -/
theorem LR.find {r : Ren} {p : MapEntry → Bool} (hp : ∀ e e' : MapEntry, e'.born = e.born → p e' = p e) : ∀ {l l' : List MapEntry}, LR r l l' → ∀ e, l.find? p = some e → ∃ e', l'.find? p = some e' ∧ VR r e.key e'.key ∧ VR r e.val e'.val := by
  intro l
  induction l with
  | nil => intro l' _ e he; cases he
  | cons a l ih =>
    intro l' h e he
    rcases h.cases with ⟨h0, _⟩ | ⟨b, m, a', m', h0, rfl, h1, h2⟩
    · cases h0
    · injection h0 with e1 e2
      subst e1 e2
      rw [List.find?_cons] at he
      cases ha : p a with
      | true =>
        rw [ha] at he
        injection he with he
        subst he
        exact ⟨a', by rw [List.find?_cons, hp a a' h2.2.2, ha], h2.1, h2.2.1⟩
      | false =>
        rw [ha] at he
        obtain ⟨e', h3, h4⟩ := ih h1 e he
        exact ⟨e', by rw [List.find?_cons, hp a a' h2.2.2, ha]; exact h3, h4⟩
def xentryM (v : Value) : Sem Value :=
  match v with
  | .pointer (some ⟨b, 0, _⟩) => .getObj b fun o => match o with
    | .mapIter (some m) _ seen last => match seen.back? with
      | none => no
      | some stamp => .getObj m fun o => match o with
        | .map es n => match n != last with
          | true => no
          | false => match es.toList.find? (·.born == stamp) with
            | some e => .pure (.tuple #[e.key, e.val])
            | none => no
        | _ => no
    | _ => no
  | _ => no
theorem xentryM_R {P : Program} {v v' : Value} (hv : VR r v v') : SemR P VR r (xentryM v) (Instr.entry v') := by
  unfold xentryM
  split
  · rename_i blk sp
    cases hv with
    | ptr hb =>
      unfold Instr.entry
      dsimp only
      refine SemR.getObj hb fun s o o' l ho => ?_
      cases ho with
      | cells => exact .halt
      | iter => exact .halt
      | map => exact .halt
      | miterNo => exact .halt
      | miter since seen last hm =>
        rw [show ∀ (o : Obj) (f : Obj → Sem Value), (Sem.pure o).bind f = f o from fun _ _ => rfl]
        dsimp only
        cases hs : seen.back? with
        | none => exact .halt
        | some stamp =>
          dsimp only
          refine SemR.getObj hm fun s1 o o' l1 ho => ?_
          cases ho with
          | cells => exact .halt
          | iter => exact .halt
          | miterNo => exact .halt
          | miter => exact .halt
          | @map es es' n hes =>
            dsimp only
            cases hn : n != last with
            | true => exact .halt
            | false =>
              cases hf : es.toList.find? (fun e => e.born == stamp) with
              | none => exact .halt
              | some e =>
                obtain ⟨e', h1, h2, h3⟩ := hes.list.find (p := fun e => e.born == stamp) (fun e e' he => by simp only [he]) e hf
                have h4 : es'.find? (fun e => e.born == stamp) = some e' := by rw [← Array.find?_toList]; exact h1
                rw [show ∀ (o : Obj) (f : Obj → Sem Value), (Sem.pure o).bind f = f o from fun _ _ => rfl]
                dsimp only
                rw [h4, hn]
                refine .pure (.tuple rfl fun i u u' hu hu' => ?_)
                match i, hu, hu' with
                | 0, hu, hu' =>
                  injection hu with hu
                  injection hu' with hu'
                  subst hu hu'
                  exact h2
                | 1, hu, hu' =>
                  injection hu with hu
                  injection hu' with hu'
                  subst hu hu'
                  exact h3
  · exact .halt
end
end Go.Proofs.Ytkodblhompphjaa
