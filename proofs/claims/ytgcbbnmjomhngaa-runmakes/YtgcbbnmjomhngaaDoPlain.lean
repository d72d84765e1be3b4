/- Plain: what a read of each kind makes of the bytes that are left and of the error: the rest, the error, the number told, the bytes told. -/
import Derived.Test.YtgcbbnmjomhngaaWordPlain
namespace Go.Proofs.Ytgcbbnmjomhngaa
open Go.RowKit

structure Out where
  rest : List UInt8
  err : Int
  num : Int
  bytes : List UInt8

def Out.no (l : List UInt8) (e : Int) : Out := ⟨l, e, 0, []⟩

def outB (l : List UInt8) : Out := if l.length = 0 then .no l 110 else ⟨l.drop 1, 0, bt l 0, []⟩
def outU (l : List UInt8) : Out := if (num l).2.2 ≠ 0 then .no l (num l).2.2 else ⟨l.drop (num l).2.1, 0, (num l).1, []⟩
def outW (l : List UInt8) : Out := if l.length < 8 then .no l 110 else ⟨l.drop 8, 0, wideVal l 8, []⟩
def outT (l : List UInt8) (m : Int) : Out := if (txt l m).2.2 ≠ 0 then .no l (txt l m).2.2 else ⟨l.drop (txt l m).2.1, 0, 0, (l.take (txt l m).2.1).drop (txt l m).1⟩
def outR (l : List UInt8) (m : Int) : Out := if m < 0 then .no l 2 else if (l.length : Int) < m then .no l 110 else ⟨l.drop m.toNat, 0, 0, l.take m.toNat⟩

/-- a read of kind k, with the number m, of a reader whose error is e -/
def outOf (k m : Int) (l : List UInt8) (e : Int) : Out :=
  if e ≠ 0 then .no l e
  else if k = 0 then outB l else if k = 1 then outU l else if k = 2 then outW l else if k = 3 then outT l m else outR l m

theorem wideVal_take (l : List UInt8) (j : Nat) : ∀ k, k ≤ j → wideVal (l.take j) k = wideVal l k := by
  intro k
  induction k with
  | zero => intro _; rfl
  | succ k ih => intro h; rw [wideVal_succ, wideVal_succ, ih (by omega), bt_take _ _ _ (by omega)]

end Go.Proofs.Ytgcbbnmjomhngaa
