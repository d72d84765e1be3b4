import Derived.Test.YtdchmmdndgbllaaDoorX32
/- Steps of a region that draws: calls of the document's hex and value. -/
namespace Go.Proofs.YtdchmmdndgbllaaDoor
open Go.RowKit

set_option maxRecDepth 20000 in
theorem step_hex (w : World) {ops : Array Oper} {o : Oper} {a : Act} {K : Act → World → Prop} {Q : Exit → Act → World → Prop} {E : Prop} (hgd : o.guard = none) (x : Nat) (t1 : TypeId)
    (ho : o.op = .call { callee := .value (.func 59), args := #[.tmp x], argTypes := #[t1] }) (v : Int) (hx : a.tmps[x]?.getD undef = .int .u8 v) (n : Nat) (hn : n < 16) (hv : v = (n : Int) ∨ v = IntKind.u8.wrap (n : Int)) (hK : K (a.put o.dst (.int .u8 ((hexd n).toNat : Int))) w) :
    if Region.wanted o (yielded ops a.tmps) = true then Oper.wp Tryd.prog o a w K Q else E := by
  have hv2 : v = IntKind.u8.wrap (n : Int) := hv.elim (fun e => by rw [e, wrap_u8 n (by omega)]) id
  subst hv2
  have hw : Region.wanted o (yielded ops a.tmps) = true := by simp [Region.wanted, hgd]
  rw [if_pos hw]
  unfold Oper.wp execOp
  simp [ho, resolve, invoke, go_sem, hx]
  refine (rhexw_any n w hn).mono ?_
  rintro e w' ⟨rfl, h1⟩
  subst h1
  simpa [go_sem] using hK
end Go.Proofs.YtdchmmdndgbllaaDoor
