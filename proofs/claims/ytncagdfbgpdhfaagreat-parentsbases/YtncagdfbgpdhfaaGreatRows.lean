/-
  No cell of these rows narrows 'for every input' (looked for: loops, veiled, ifaces, maps, wideKeys, modest, calm, conditions, laid).
  DERIVED. THE GIVEN ROWS OF THIS SEAT. 6 by the template 'for every input the law returns true; each argument reads behind the call as it read before'; 0 by the template 'total and deterministic' (their statements: YtncagdfbgpdhfaaGreatTotals.lean).
  GIVEN WITH THE SEED: the statements are not yours to turn. If you find one false, say at which input.
  Laid BY PROGRAM, IN A SANDBOX (cutbox-rows.mjs): the forced cells as the released guide's own fill.sh prints them over the translation ed107608c6d48a31… (all of the seat's roots in one cut). By AI agents, Wed Nov 11 2026. No macro, syntax, notation, axiom, sorry.
-/
import Derived.Test.YtncagdfbgpdhfaaGreatChecked
import GoSem.Claim
import GoSem.ClaimJoined
import GoSem.ClaimMapViews
import Derived.JoinedTies
import Derived.KernelRfl
namespace Go.Proofs.YtncagdfbgpdhfaaGreat
/- THE CELL 'sum', in the pinned program and in every row, IS THE sha256 OF THE DUMP (.gsa) THAT YtncagdfbgpdhfaaGreatProg.lean LOADS. Nothing in Lean hashes anything: it is a label: what it is worth is what the hold of that sum in a sandbox is worth. -/
noncomputable def Tryz.pinned : Pinned := { name := "ytncagdfbgpdhfaagreat", sum := "ed107608c6d48a318b78c1a2d2f9148eceb76c07775ee28033f4f5d162c7602d", checked := Tryz.checked }
namespace Rows
def none {H : Type} : Left H := { results := [], args := [] }

/-- 'espalierlaw12.ParentsReduce': WHATEVER THE INPUT: true; the input reads as it did. -/
def parentsReduceSpec : ChangeSpec := { name := "parentsReduce", fn := fun _ => fun
  | [d1, d2] => { results := [.lit (.bool true)], args := [d1, d2] }
  | _ => none }
def parentsReduceRow : OpenClaim := { program := "ytncagdfbgpdhfaagreat", sum := "ed107608c6d48a318b78c1a2d2f9148eceb76c07775ee28033f4f5d162c7602d", func := "espalier/espalierlaw12.ParentsReduce", spec := "parentsReduce", unfollowed := true, recurses := true, apart := false }
def ParentsReduceSaid : Prop := parentsReduceRow.holds Tryz.pinned (OpenSpec.ofChange parentsReduceSpec)

/-- ITS FALSE NEIGHBOUR: 'it returns false'. Refute it at one input. -/
def parentsReduceWrong : ChangeSpec := { name := "parentsReduce", fn := fun _ => fun
  | [d1, d2] => { results := [.lit (.bool false)], args := [d1, d2] }
  | _ => none }
def ParentsReduceWrongFalsely : Prop := parentsReduceRow.holds Tryz.pinned (OpenSpec.ofChange parentsReduceWrong)

/-- 'espalierlaw12.ParentsPairs': WHATEVER THE INPUT: true; the input reads as it did. -/
def parentsPairsSpec : ChangeSpec := { name := "parentsPairs", fn := fun _ => fun
  | [d1, d2, d3] => { results := [.lit (.bool true)], args := [d1, d2, d3] }
  | _ => none }
def parentsPairsRow : OpenClaim := { program := "ytncagdfbgpdhfaagreat", sum := "ed107608c6d48a318b78c1a2d2f9148eceb76c07775ee28033f4f5d162c7602d", func := "espalier/espalierlaw12.ParentsPairs", spec := "parentsPairs", unfollowed := true, recurses := true, apart := false }
def ParentsPairsSaid : Prop := parentsPairsRow.holds Tryz.pinned (OpenSpec.ofChange parentsPairsSpec)

/-- ITS FALSE NEIGHBOUR: 'it returns false'. Refute it at one input. -/
def parentsPairsWrong : ChangeSpec := { name := "parentsPairs", fn := fun _ => fun
  | [d1, d2, d3] => { results := [.lit (.bool false)], args := [d1, d2, d3] }
  | _ => none }
def ParentsPairsWrongFalsely : Prop := parentsPairsRow.holds Tryz.pinned (OpenSpec.ofChange parentsPairsWrong)

/-- 'espalierlaw12.ParentsNone': WHATEVER THE INPUT: true; the input reads as it did. -/
def parentsNoneSpec : ChangeSpec := { name := "parentsNone", fn := fun _ => fun
  | [d1, d2] => { results := [.lit (.bool true)], args := [d1, d2] }
  | _ => none }
def parentsNoneRow : OpenClaim := { program := "ytncagdfbgpdhfaagreat", sum := "ed107608c6d48a318b78c1a2d2f9148eceb76c07775ee28033f4f5d162c7602d", func := "espalier/espalierlaw12.ParentsNone", spec := "parentsNone", unfollowed := true, recurses := true, apart := false }
def ParentsNoneSaid : Prop := parentsNoneRow.holds Tryz.pinned (OpenSpec.ofChange parentsNoneSpec)

/-- ITS FALSE NEIGHBOUR: 'it returns false'. Refute it at one input. -/
def parentsNoneWrong : ChangeSpec := { name := "parentsNone", fn := fun _ => fun
  | [d1, d2] => { results := [.lit (.bool false)], args := [d1, d2] }
  | _ => none }
def ParentsNoneWrongFalsely : Prop := parentsNoneRow.holds Tryz.pinned (OpenSpec.ofChange parentsNoneWrong)

/-- 'espalierlaw12.ParentsLeast': WHATEVER THE INPUT: true; the input reads as it did. -/
def parentsLeastSpec : ChangeSpec := { name := "parentsLeast", fn := fun _ => fun
  | [d1, d2] => { results := [.lit (.bool true)], args := [d1, d2] }
  | _ => none }
def parentsLeastRow : OpenClaim := { program := "ytncagdfbgpdhfaagreat", sum := "ed107608c6d48a318b78c1a2d2f9148eceb76c07775ee28033f4f5d162c7602d", func := "espalier/espalierlaw12.ParentsLeast", spec := "parentsLeast", unfollowed := true, recurses := true, apart := false }
def ParentsLeastSaid : Prop := parentsLeastRow.holds Tryz.pinned (OpenSpec.ofChange parentsLeastSpec)

/-- ITS FALSE NEIGHBOUR: 'it returns false'. Refute it at one input. -/
def parentsLeastWrong : ChangeSpec := { name := "parentsLeast", fn := fun _ => fun
  | [d1, d2] => { results := [.lit (.bool false)], args := [d1, d2] }
  | _ => none }
def ParentsLeastWrongFalsely : Prop := parentsLeastRow.holds Tryz.pinned (OpenSpec.ofChange parentsLeastWrong)

/-- 'espalierlaw12.ParentsBases': WHATEVER THE INPUT: true; the input reads as it did. -/
def parentsBasesSpec : ChangeSpec := { name := "parentsBases", fn := fun _ => fun
  | [d1, d2, d3] => { results := [.lit (.bool true)], args := [d1, d2, d3] }
  | _ => none }
def parentsBasesRow : OpenClaim := { program := "ytncagdfbgpdhfaagreat", sum := "ed107608c6d48a318b78c1a2d2f9148eceb76c07775ee28033f4f5d162c7602d", func := "espalier/espalierlaw12.ParentsBases", spec := "parentsBases", unfollowed := true, recurses := true, apart := false }
def ParentsBasesSaid : Prop := parentsBasesRow.holds Tryz.pinned (OpenSpec.ofChange parentsBasesSpec)

/-- ITS FALSE NEIGHBOUR: 'it returns false'. Refute it at one input. -/
def parentsBasesWrong : ChangeSpec := { name := "parentsBases", fn := fun _ => fun
  | [d1, d2, d3] => { results := [.lit (.bool false)], args := [d1, d2, d3] }
  | _ => none }
def ParentsBasesWrongFalsely : Prop := parentsBasesRow.holds Tryz.pinned (OpenSpec.ofChange parentsBasesWrong)

/-- 'espalierlaw11.GraphWhole': WHATEVER THE INPUT: true; the input reads as it did. -/
def graphWholeSpec : ChangeSpec := { name := "graphWhole", fn := fun _ => fun
  | [d1, d2] => { results := [.lit (.bool true)], args := [d1, d2] }
  | _ => none }
def graphWholeRow : OpenClaim := { program := "ytncagdfbgpdhfaagreat", sum := "ed107608c6d48a318b78c1a2d2f9148eceb76c07775ee28033f4f5d162c7602d", func := "espalier/espalierlaw11.GraphWhole", spec := "graphWhole", unfollowed := true, recurses := true, apart := false }
def GraphWholeSaid : Prop := graphWholeRow.holds Tryz.pinned (OpenSpec.ofChange graphWholeSpec)

/-- ITS FALSE NEIGHBOUR: 'it returns false'. Refute it at one input. -/
def graphWholeWrong : ChangeSpec := { name := "graphWhole", fn := fun _ => fun
  | [d1, d2] => { results := [.lit (.bool false)], args := [d1, d2] }
  | _ => none }
def GraphWholeWrongFalsely : Prop := graphWholeRow.holds Tryz.pinned (OpenSpec.ofChange graphWholeWrong)

/- THE SECOND FORM. 'bulk': how many values and letters a reading holds, each counted each time it is reached (what is shared counts as often as it is met; a slice's spare places count too). A statement '..UptoSaid' is the law's where the arguments, and the package variables that the reading takes, are together of bulk at most 1048576: NARROWER than '..Said'. Prove '..Said' where nothing that the law and all that it calls make is longer than what came in: it says more and counts as full. Else prove '..UptoSaid'. A law counts once. -/
mutual
def uptoBulk {H : Type} : DataW H → Nat
  | .lit (.string bytes) => bytes.length + 1
  | .lit _ => 1
  | .nil => 1
  | .ptr d => uptoBulk d + 1
  | .slice elems spare => uptoBulkAll elems + uptoBulkAll spare + 1
  | .agg parts => uptoBulkAll parts + 1
  | .iface _ d => uptoBulk d + 1
  | .map entries => uptoBulkEntries entries + 1
  | .held _ => 1
def uptoBulkAll {H : Type} : List (DataW H) → Nat
  | [] => 0
  | d :: r => uptoBulk d + uptoBulkAll r
def uptoBulkEntries {H : Type} : List (Lit × DataW H) → Nat
  | [] => 0
  | x :: r => uptoBulkEntry x + uptoBulkEntries r
def uptoBulkEntry {H : Type} : Lit × DataW H → Nat
  | (.string bytes, d) => bytes.length + uptoBulk d + 1
  | (_, d) => uptoBulk d + 1
 end
def uptoSmall : (H : Type) → List (DataW H) → Bool := fun _ ds => decide (uptoBulkAll ds ≤ 1048576)
def OpenSpec.upto (s : _root_.Go.ChangeSpec) : _root_.Go.OpenSpec := { _root_.Go.OpenSpec.ofChange s with cond := some uptoSmall }

/-- 'espalierlaw12.ParentsReduce', WHERE WHAT IT READS IS OF BULK AT MOST 1048576: true; the input reads as it did. -/
def parentsReduceUptoRow : OpenClaim := { program := "ytncagdfbgpdhfaagreat", sum := "ed107608c6d48a318b78c1a2d2f9148eceb76c07775ee28033f4f5d162c7602d", func := "espalier/espalierlaw12.ParentsReduce", spec := "parentsReduce", unfollowed := true, recurses := true, apart := false, narrowed := true }
def ParentsReduceUptoSaid : Prop := parentsReduceUptoRow.holds Tryz.pinned (OpenSpec.upto parentsReduceSpec)

/-- 'espalierlaw12.ParentsPairs', WHERE WHAT IT READS IS OF BULK AT MOST 1048576: true; the input reads as it did. -/
def parentsPairsUptoRow : OpenClaim := { program := "ytncagdfbgpdhfaagreat", sum := "ed107608c6d48a318b78c1a2d2f9148eceb76c07775ee28033f4f5d162c7602d", func := "espalier/espalierlaw12.ParentsPairs", spec := "parentsPairs", unfollowed := true, recurses := true, apart := false, narrowed := true }
def ParentsPairsUptoSaid : Prop := parentsPairsUptoRow.holds Tryz.pinned (OpenSpec.upto parentsPairsSpec)

/-- 'espalierlaw12.ParentsNone', WHERE WHAT IT READS IS OF BULK AT MOST 1048576: true; the input reads as it did. -/
def parentsNoneUptoRow : OpenClaim := { program := "ytncagdfbgpdhfaagreat", sum := "ed107608c6d48a318b78c1a2d2f9148eceb76c07775ee28033f4f5d162c7602d", func := "espalier/espalierlaw12.ParentsNone", spec := "parentsNone", unfollowed := true, recurses := true, apart := false, narrowed := true }
def ParentsNoneUptoSaid : Prop := parentsNoneUptoRow.holds Tryz.pinned (OpenSpec.upto parentsNoneSpec)

/-- 'espalierlaw12.ParentsLeast', WHERE WHAT IT READS IS OF BULK AT MOST 1048576: true; the input reads as it did. -/
def parentsLeastUptoRow : OpenClaim := { program := "ytncagdfbgpdhfaagreat", sum := "ed107608c6d48a318b78c1a2d2f9148eceb76c07775ee28033f4f5d162c7602d", func := "espalier/espalierlaw12.ParentsLeast", spec := "parentsLeast", unfollowed := true, recurses := true, apart := false, narrowed := true }
def ParentsLeastUptoSaid : Prop := parentsLeastUptoRow.holds Tryz.pinned (OpenSpec.upto parentsLeastSpec)

/-- 'espalierlaw12.ParentsBases', WHERE WHAT IT READS IS OF BULK AT MOST 1048576: true; the input reads as it did. -/
def parentsBasesUptoRow : OpenClaim := { program := "ytncagdfbgpdhfaagreat", sum := "ed107608c6d48a318b78c1a2d2f9148eceb76c07775ee28033f4f5d162c7602d", func := "espalier/espalierlaw12.ParentsBases", spec := "parentsBases", unfollowed := true, recurses := true, apart := false, narrowed := true }
def ParentsBasesUptoSaid : Prop := parentsBasesUptoRow.holds Tryz.pinned (OpenSpec.upto parentsBasesSpec)

/-- 'espalierlaw11.GraphWhole', WHERE WHAT IT READS IS OF BULK AT MOST 1048576: true; the input reads as it did. -/
def graphWholeUptoRow : OpenClaim := { program := "ytncagdfbgpdhfaagreat", sum := "ed107608c6d48a318b78c1a2d2f9148eceb76c07775ee28033f4f5d162c7602d", func := "espalier/espalierlaw11.GraphWhole", spec := "graphWhole", unfollowed := true, recurses := true, apart := false, narrowed := true }
def GraphWholeUptoSaid : Prop := graphWholeUptoRow.holds Tryz.pinned (OpenSpec.upto graphWholeSpec)

end Rows
end Go.Proofs.YtncagdfbgpdhfaaGreat
