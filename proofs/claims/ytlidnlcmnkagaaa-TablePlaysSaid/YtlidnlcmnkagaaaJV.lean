/- The law's one: a step that asks one table something. The op in memory; who is meant. -/
import Derived.Test.YtlidnlcmnkagaaaJU
import Derived.Test.YtlidnlcmnkagaaaJN
import Derived.Test.YtlidnlcmnkagaaaJ7
import Derived.Test.YtlidnlcmnkagaaaRw
import Derived.Deep.CutRange
namespace Go.Proofs.Ytlidnlcmnkagaaa
open Go.RowKit
set_option maxRecDepth 20000

/-- A step of the script. -/
structure Ox where
  kd : Int
  on : Int
  at_ : Int
  n : Int
  late : Int
  p : Pd
  s : ByteArray
abbrev tyO : TypeId := 40
abbrev Ox.cs (o : Ox) : Array Value := #[.int .i64 o.kd, .int .i64 o.on, .int .i64 o.at_, .int .i64 o.n, .int .i64 o.late, .int .i64 o.p.n, .int .i64 o.p.g, .string o.s]
def OneE (W : World) (pb : Nat) (L : List Pd) (e : Ending) (w' : World) : Prop := e = .returned (.bool true) ∧ ∃ C D L', PR W pb C D L' w' ∧ L'.length ≤ L.length + 1
/-- The op and who is meant stand in blocks of their own. -/
structure QR (w0 : Nat) (o : Ox) (q : Pd) (wr : World) : Prop where
  bo : Bk wr w0 tyO o.cs
  bq : Bk wr (w0 + 1) 38 q.cs
theorem QR.only {w0 : Nat} {o : Ox} {q : Pd} {wr wr' : World} {S : List Nat} (h : QR w0 o q wr) (k : Only S wr wr') (h1 : w0 ∉ S) (h2 : w0 + 1 ∉ S) : QR w0 o q wr' := ⟨h.bo.only k h1, h.bq.only k h2⟩

end Go.Proofs.Ytlidnlcmnkagaaa
