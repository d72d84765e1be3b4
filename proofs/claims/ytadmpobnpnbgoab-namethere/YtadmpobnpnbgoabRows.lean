/-
  No cell of these rows narrows 'for every input' (looked for: loops, veiled, ifaces, maps, wideKeys, modest, calm, conditions, laid).
  DERIVED. THE GIVEN ROWS OF THIS SEAT. 4 by the template 'for every input the law returns true; each argument reads behind the call as it read before'; 0 by the template 'total and deterministic' (their statements: YtadmpobnpnbgoabTotals.lean).
  GIVEN WITH THE SEED: the statements are not yours to turn. If you find one false, say at which input.
  Laid BY PROGRAM, IN A SANDBOX (cutbox-rows.mjs): the forced cells as the released guide's own fill.sh prints them over the translation 2f41a5b6a1674523… (all of the seat's roots in one cut). By AI agents, Wed Nov 11 2026. No macro, syntax, notation, axiom, sorry.
-/
import Derived.Test.YtadmpobnpnbgoabChecked
import GoSem.Claim
import GoSem.ClaimJoined
import GoSem.ClaimMapViews
import Derived.JoinedTies
import Derived.KernelRfl
namespace Go.Proofs.Ytadmpobnpnbgoab
/- THE CELL 'sum', in the pinned program and in every row, IS THE sha256 OF THE DUMP (.gsa) THAT YtadmpobnpnbgoabProg.lean LOADS. Nothing in Lean hashes anything: it is a label: what it is worth is what the hold of that sum in a sandbox is worth. -/
noncomputable def Try.pinned : Pinned := { name := "ytadmpobnpnbgoab", sum := "2f41a5b6a1674523225cd32701837357c496cd2cae2ea3a81fba2a6233f6adfd", checked := Try.checked }
namespace Rows
def none {H : Type} : Left H := { results := [], args := [] }

/-- 'espalierlaw04.NameGo': WHATEVER THE INPUT: true; the input reads as it did. -/
def nameGoSpec : ChangeSpec := { name := "nameGo", fn := fun _ => fun
  | [d] => { results := [.lit (.bool true)], args := [d] }
  | _ => none }
def nameGoRow : OpenClaim := { program := "ytadmpobnpnbgoab", sum := "2f41a5b6a1674523225cd32701837357c496cd2cae2ea3a81fba2a6233f6adfd", func := "espalier/espalierlaw04.NameGo", spec := "nameGo", unfollowed := true, recurses := true, apart := false }
def NameGoSaid : Prop := nameGoRow.holds Try.pinned (OpenSpec.ofChange nameGoSpec)

/-- ITS FALSE NEIGHBOUR: 'it returns false'. Refute it at one input. -/
def nameGoWrong : ChangeSpec := { name := "nameGo", fn := fun _ => fun
  | [d] => { results := [.lit (.bool false)], args := [d] }
  | _ => none }
def NameGoWrongFalsely : Prop := nameGoRow.holds Try.pinned (OpenSpec.ofChange nameGoWrong)

/-- 'espalierlaw04.NameThere': WHATEVER THE INPUT: true; the input reads as it did. -/
def nameThereSpec : ChangeSpec := { name := "nameThere", fn := fun _ => fun
  | [d1, d2, d3] => { results := [.lit (.bool true)], args := [d1, d2, d3] }
  | _ => none }
def nameThereRow : OpenClaim := { program := "ytadmpobnpnbgoab", sum := "2f41a5b6a1674523225cd32701837357c496cd2cae2ea3a81fba2a6233f6adfd", func := "espalier/espalierlaw04.NameThere", spec := "nameThere", inPlace := ["internal/abi.NoEscape", "internal/bytealg.MakeNoZero"], unfollowed := true, recurses := true, apart := false }
def NameThereSaid : Prop := nameThereRow.holds Try.pinned (OpenSpec.ofChange nameThereSpec)

/-- ITS FALSE NEIGHBOUR: 'it returns false'. Refute it at one input. -/
def nameThereWrong : ChangeSpec := { name := "nameThere", fn := fun _ => fun
  | [d1, d2, d3] => { results := [.lit (.bool false)], args := [d1, d2, d3] }
  | _ => none }
def NameThereWrongFalsely : Prop := nameThereRow.holds Try.pinned (OpenSpec.ofChange nameThereWrong)

/-- 'espalierlaw04.NameLies': WHATEVER THE INPUT: true; the input reads as it did. -/
def nameLiesSpec : ChangeSpec := { name := "nameLies", fn := fun _ => fun
  | [d1, d2, d3] => { results := [.lit (.bool true)], args := [d1, d2, d3] }
  | _ => none }
def nameLiesRow : OpenClaim := { program := "ytadmpobnpnbgoab", sum := "2f41a5b6a1674523225cd32701837357c496cd2cae2ea3a81fba2a6233f6adfd", func := "espalier/espalierlaw04.NameLies", spec := "nameLies", unfollowed := true, recurses := true, apart := false }
def NameLiesSaid : Prop := nameLiesRow.holds Try.pinned (OpenSpec.ofChange nameLiesSpec)

/-- ITS FALSE NEIGHBOUR: 'it returns false'. Refute it at one input. -/
def nameLiesWrong : ChangeSpec := { name := "nameLies", fn := fun _ => fun
  | [d1, d2, d3] => { results := [.lit (.bool false)], args := [d1, d2, d3] }
  | _ => none }
def NameLiesWrongFalsely : Prop := nameLiesRow.holds Try.pinned (OpenSpec.ofChange nameLiesWrong)

/-- 'espalierlaw04.NameOrder': WHATEVER THE INPUT: true; the input reads as it did. -/
def nameOrderSpec : ChangeSpec := { name := "nameOrder", fn := fun _ => fun
  | [d1, d2, d3] => { results := [.lit (.bool true)], args := [d1, d2, d3] }
  | _ => none }
def nameOrderRow : OpenClaim := { program := "ytadmpobnpnbgoab", sum := "2f41a5b6a1674523225cd32701837357c496cd2cae2ea3a81fba2a6233f6adfd", func := "espalier/espalierlaw04.NameOrder", spec := "nameOrder", inPlace := ["internal/bytealg.IndexByteString", "internal/bytealg.IndexString", "internal/bytealg.abigen_runtime_cmpstring"], unfollowed := true, recurses := true, named := ["internal/bytealg.MaxLen"], apart := false }
def NameOrderSaid : Prop := nameOrderRow.holds Try.pinned (OpenSpec.ofChange nameOrderSpec)

/-- ITS FALSE NEIGHBOUR: 'it returns false'. Refute it at one input. -/
def nameOrderWrong : ChangeSpec := { name := "nameOrder", fn := fun _ => fun
  | [d1, d2, d3] => { results := [.lit (.bool false)], args := [d1, d2, d3] }
  | _ => none }
def NameOrderWrongFalsely : Prop := nameOrderRow.holds Try.pinned (OpenSpec.ofChange nameOrderWrong)

/- THE SECOND FORM. 'bulk': how many values and letters a reading holds, each counted each time it is reached (what is shared counts as often as it is met; a slice's spare places count too). A statement '..UptoSaid' is the law's where the arguments, and the package variables that the reading takes, are together of bulk at most 1048576: NARROWER than '..Said'. Prove '..Said' where nothing that the law and all that it calls make is longer than what came in: it says more and counts as full. Else prove '..UptoSaid'. A law counts once. -/
mutual
def uptoBulk {H : Type} : DataW H → Nat
  | .lit (.string bytes) => bytes.length + 1
  | .lit _ => 1
  | .nil => 1
  | .ptr d => uptoBulk d + 1
  | .slice elems spare => uptoBulkAll elems + uptoBulkAll spare + 1
  | .agg parts => uptoBulkAll parts + 1
  | .iface _ d => uptoBulk d + 1
  | .map entries => uptoBulkEntries entries + 1
  | .held _ => 1
def uptoBulkAll {H : Type} : List (DataW H) → Nat
  | [] => 0
  | d :: r => uptoBulk d + uptoBulkAll r
def uptoBulkEntries {H : Type} : List (Lit × DataW H) → Nat
  | [] => 0
  | x :: r => uptoBulkEntry x + uptoBulkEntries r
def uptoBulkEntry {H : Type} : Lit × DataW H → Nat
  | (.string bytes, d) => bytes.length + uptoBulk d + 1
  | (_, d) => uptoBulk d + 1
 end
def uptoSmall : (H : Type) → List (DataW H) → Bool := fun _ ds => decide (uptoBulkAll ds ≤ 1048576)
def OpenSpec.upto (s : _root_.Go.ChangeSpec) : _root_.Go.OpenSpec := { _root_.Go.OpenSpec.ofChange s with cond := some uptoSmall }

/-- 'espalierlaw04.NameGo', WHERE WHAT IT READS IS OF BULK AT MOST 1048576: true; the input reads as it did. -/
def nameGoUptoRow : OpenClaim := { program := "ytadmpobnpnbgoab", sum := "2f41a5b6a1674523225cd32701837357c496cd2cae2ea3a81fba2a6233f6adfd", func := "espalier/espalierlaw04.NameGo", spec := "nameGo", unfollowed := true, recurses := true, apart := false, narrowed := true }
def NameGoUptoSaid : Prop := nameGoUptoRow.holds Try.pinned (OpenSpec.upto nameGoSpec)

/-- 'espalierlaw04.NameThere', WHERE WHAT IT READS IS OF BULK AT MOST 1048576: true; the input reads as it did. -/
def nameThereUptoRow : OpenClaim := { program := "ytadmpobnpnbgoab", sum := "2f41a5b6a1674523225cd32701837357c496cd2cae2ea3a81fba2a6233f6adfd", func := "espalier/espalierlaw04.NameThere", spec := "nameThere", inPlace := ["internal/abi.NoEscape", "internal/bytealg.MakeNoZero"], unfollowed := true, recurses := true, apart := false, narrowed := true }
def NameThereUptoSaid : Prop := nameThereUptoRow.holds Try.pinned (OpenSpec.upto nameThereSpec)

/-- 'espalierlaw04.NameLies', WHERE WHAT IT READS IS OF BULK AT MOST 1048576: true; the input reads as it did. -/
def nameLiesUptoRow : OpenClaim := { program := "ytadmpobnpnbgoab", sum := "2f41a5b6a1674523225cd32701837357c496cd2cae2ea3a81fba2a6233f6adfd", func := "espalier/espalierlaw04.NameLies", spec := "nameLies", unfollowed := true, recurses := true, apart := false, narrowed := true }
def NameLiesUptoSaid : Prop := nameLiesUptoRow.holds Try.pinned (OpenSpec.upto nameLiesSpec)

/-- 'espalierlaw04.NameOrder', WHERE WHAT IT READS IS OF BULK AT MOST 1048576: true; the input reads as it did. -/
def nameOrderUptoRow : OpenClaim := { program := "ytadmpobnpnbgoab", sum := "2f41a5b6a1674523225cd32701837357c496cd2cae2ea3a81fba2a6233f6adfd", func := "espalier/espalierlaw04.NameOrder", spec := "nameOrder", inPlace := ["internal/bytealg.IndexByteString", "internal/bytealg.IndexString", "internal/bytealg.abigen_runtime_cmpstring"], unfollowed := true, recurses := true, named := ["internal/bytealg.MaxLen"], apart := false, narrowed := true }
def NameOrderUptoSaid : Prop := nameOrderUptoRow.holds Try.pinned (OpenSpec.upto nameOrderSpec)

end Rows
end Go.Proofs.Ytadmpobnpnbgoab
