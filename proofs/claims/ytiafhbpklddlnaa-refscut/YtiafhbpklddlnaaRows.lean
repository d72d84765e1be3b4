/-
  No cell of these rows narrows 'for every input' (looked for: loops, veiled, ifaces, maps, wideKeys, modest, calm, conditions, laid).
  DERIVED. THE GIVEN ROWS OF THIS SEAT. 3 by the template 'for every input the law returns true; each argument reads behind the call as it read before'; 0 by the template 'total and deterministic' (their statements: YtiafhbpklddlnaaTotals.lean).
  GIVEN WITH THE SEED: the statements are not yours to turn. If you find one false, say at which input.
  Laid BY PROGRAM, IN A SANDBOX (cutbox-rows.mjs): the forced cells as the released guide's own fill.sh prints them over the translation bee9e8c3292d8781… (all of the seat's roots in one cut). By AI agents, Wed Nov 11 2026. No macro, syntax, notation, axiom, sorry.
-/
import Derived.Test.YtiafhbpklddlnaaChecked
import GoSem.Claim
import GoSem.ClaimJoined
import GoSem.ClaimMapViews
import Derived.JoinedTies
import Derived.KernelRfl
namespace Go.Proofs.Ytiafhbpklddlnaa
/- THE CELL 'sum', in the pinned program and in every row, IS THE sha256 OF THE DUMP (.gsa) THAT YtiafhbpklddlnaaProg.lean LOADS. Nothing in Lean hashes anything: it is a label: what it is worth is what the hold of that sum in a sandbox is worth. -/
noncomputable def Try.pinned : Pinned := { name := "ytiafhbpklddlnaa", sum := "bee9e8c3292d87818bff2094062b48cd70edc6ba97ced79bf961c9598fd2a28b", checked := Try.checked }
namespace Rows
def none {H : Type} : Left H := { results := [], args := [] }

/-- 'espalierlaw08.RefsNone': WHATEVER THE INPUT: true; the input reads as it did. -/
def refsNoneSpec : ChangeSpec := { name := "refsNone", fn := fun _ => fun
  | [d1, d2] => { results := [.lit (.bool true)], args := [d1, d2] }
  | _ => none }
def refsNoneRow : OpenClaim := { program := "ytiafhbpklddlnaa", sum := "bee9e8c3292d87818bff2094062b48cd70edc6ba97ced79bf961c9598fd2a28b", func := "espalier/espalierlaw08.RefsNone", spec := "refsNone", inPlace := ["maps.clone"], unfollowed := true, recurses := true, apart := false }
def RefsNoneSaid : Prop := refsNoneRow.holds Try.pinned (OpenSpec.ofChange refsNoneSpec)

/-- ITS FALSE NEIGHBOUR: 'it returns false'. Refute it at one input. -/
def refsNoneWrong : ChangeSpec := { name := "refsNone", fn := fun _ => fun
  | [d1, d2] => { results := [.lit (.bool false)], args := [d1, d2] }
  | _ => none }
def RefsNoneWrongFalsely : Prop := refsNoneRow.holds Try.pinned (OpenSpec.ofChange refsNoneWrong)

/-- 'espalierlaw08.RefsCut': WHATEVER THE INPUT: true; the input reads as it did. -/
def refsCutSpec : ChangeSpec := { name := "refsCut", fn := fun _ => fun
  | [d1, d2] => { results := [.lit (.bool true)], args := [d1, d2] }
  | _ => none }
def refsCutRow : OpenClaim := { program := "ytiafhbpklddlnaa", sum := "bee9e8c3292d87818bff2094062b48cd70edc6ba97ced79bf961c9598fd2a28b", func := "espalier/espalierlaw08.RefsCut", spec := "refsCut", inPlace := ["maps.clone"], unfollowed := true, recurses := true, apart := false }
def RefsCutSaid : Prop := refsCutRow.holds Try.pinned (OpenSpec.ofChange refsCutSpec)

/-- ITS FALSE NEIGHBOUR: 'it returns false'. Refute it at one input. -/
def refsCutWrong : ChangeSpec := { name := "refsCut", fn := fun _ => fun
  | [d1, d2] => { results := [.lit (.bool false)], args := [d1, d2] }
  | _ => none }
def RefsCutWrongFalsely : Prop := refsCutRow.holds Try.pinned (OpenSpec.ofChange refsCutWrong)

/-- 'espalierlaw08.RefsAgain': WHATEVER THE INPUT: true; the input reads as it did. -/
def refsAgainSpec : ChangeSpec := { name := "refsAgain", fn := fun _ => fun
  | [d] => { results := [.lit (.bool true)], args := [d] }
  | _ => none }
def refsAgainRow : OpenClaim := { program := "ytiafhbpklddlnaa", sum := "bee9e8c3292d87818bff2094062b48cd70edc6ba97ced79bf961c9598fd2a28b", func := "espalier/espalierlaw08.RefsAgain", spec := "refsAgain", inPlace := ["maps.clone"], unfollowed := true, recurses := true, apart := false }
def RefsAgainSaid : Prop := refsAgainRow.holds Try.pinned (OpenSpec.ofChange refsAgainSpec)

/-- ITS FALSE NEIGHBOUR: 'it returns false'. Refute it at one input. -/
def refsAgainWrong : ChangeSpec := { name := "refsAgain", fn := fun _ => fun
  | [d] => { results := [.lit (.bool false)], args := [d] }
  | _ => none }
def RefsAgainWrongFalsely : Prop := refsAgainRow.holds Try.pinned (OpenSpec.ofChange refsAgainWrong)

/- THE SECOND FORM. 'bulk': how many values and letters a reading holds, each counted each time it is reached (what is shared counts as often as it is met; a slice's spare places count too). A statement '..UptoSaid' is the law's where the arguments, and the package variables that the reading takes, are together of bulk at most 1048576: NARROWER than '..Said'. Prove '..Said' where nothing that the law and all that it calls make is longer than what came in: it says more and counts as full. Else prove '..UptoSaid'. A law counts once. -/
mutual
def uptoBulk {H : Type} : DataW H → Nat
  | .lit (.string bytes) => bytes.length + 1
  | .lit _ => 1
  | .nil => 1
  | .ptr d => uptoBulk d + 1
  | .slice elems spare => uptoBulkAll elems + uptoBulkAll spare + 1
  | .agg parts => uptoBulkAll parts + 1
  | .iface _ d => uptoBulk d + 1
  | .map entries => uptoBulkEntries entries + 1
  | .held _ => 1
def uptoBulkAll {H : Type} : List (DataW H) → Nat
  | [] => 0
  | d :: r => uptoBulk d + uptoBulkAll r
def uptoBulkEntries {H : Type} : List (Lit × DataW H) → Nat
  | [] => 0
  | x :: r => uptoBulkEntry x + uptoBulkEntries r
def uptoBulkEntry {H : Type} : Lit × DataW H → Nat
  | (.string bytes, d) => bytes.length + uptoBulk d + 1
  | (_, d) => uptoBulk d + 1
 end
def uptoSmall : (H : Type) → List (DataW H) → Bool := fun _ ds => decide (uptoBulkAll ds ≤ 1048576)
def OpenSpec.upto (s : _root_.Go.ChangeSpec) : _root_.Go.OpenSpec := { _root_.Go.OpenSpec.ofChange s with cond := some uptoSmall }

/-- 'espalierlaw08.RefsNone', WHERE WHAT IT READS IS OF BULK AT MOST 1048576: true; the input reads as it did. -/
def refsNoneUptoRow : OpenClaim := { program := "ytiafhbpklddlnaa", sum := "bee9e8c3292d87818bff2094062b48cd70edc6ba97ced79bf961c9598fd2a28b", func := "espalier/espalierlaw08.RefsNone", spec := "refsNone", inPlace := ["maps.clone"], unfollowed := true, recurses := true, apart := false, narrowed := true }
def RefsNoneUptoSaid : Prop := refsNoneUptoRow.holds Try.pinned (OpenSpec.upto refsNoneSpec)

/-- 'espalierlaw08.RefsCut', WHERE WHAT IT READS IS OF BULK AT MOST 1048576: true; the input reads as it did. -/
def refsCutUptoRow : OpenClaim := { program := "ytiafhbpklddlnaa", sum := "bee9e8c3292d87818bff2094062b48cd70edc6ba97ced79bf961c9598fd2a28b", func := "espalier/espalierlaw08.RefsCut", spec := "refsCut", inPlace := ["maps.clone"], unfollowed := true, recurses := true, apart := false, narrowed := true }
def RefsCutUptoSaid : Prop := refsCutUptoRow.holds Try.pinned (OpenSpec.upto refsCutSpec)

/-- 'espalierlaw08.RefsAgain', WHERE WHAT IT READS IS OF BULK AT MOST 1048576: true; the input reads as it did. -/
def refsAgainUptoRow : OpenClaim := { program := "ytiafhbpklddlnaa", sum := "bee9e8c3292d87818bff2094062b48cd70edc6ba97ced79bf961c9598fd2a28b", func := "espalier/espalierlaw08.RefsAgain", spec := "refsAgain", inPlace := ["maps.clone"], unfollowed := true, recurses := true, apart := false, narrowed := true }
def RefsAgainUptoSaid : Prop := refsAgainUptoRow.holds Try.pinned (OpenSpec.upto refsAgainSpec)

end Rows
end Go.Proofs.Ytiafhbpklddlnaa
