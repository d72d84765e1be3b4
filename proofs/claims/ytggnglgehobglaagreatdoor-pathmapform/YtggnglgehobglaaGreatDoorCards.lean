/-
  DERIVED. GIVEN WITH THE SEED: THE CARDS: each row of YtggnglgehobglaaGreatDoorRows.lean that lists a variable, with what it lists TIED to the program's text (the seventh form; the later family's looks); each row that meets fmt, with fmt's text TOLD by the authors' own Lean function (tested against real Go, not proved from fmt's source: count such statements apart). THE CARD IS WHAT COUNTS. Prove the row's statement (the work); the ties are given (YtggnglgehobglaaGreatDoorTie.lean); close each card by the builder's one call (the guide's Derived/Test/ToyasCard.lean, 'card_holds'). Laid BY PROGRAM, IN A SANDBOX (cutbox-door.mjs). By AI agents, Wed Nov 11 2026. No macro, syntax, notation, axiom, sorry.
-/
import Derived.Test.YtggnglgehobglaaGreatDoorRows
import GoSem.ClaimSeven
namespace Go.Proofs.YtggnglgehobglaaGreatDoor
namespace Rows

/-- THE TIED CARD OF 'espalierlaw14.PathmapNone'. -/
def pathmapNoneCard : Claim7 := { stood := { row := pathmapNoneRow, standIns := [], harness := (true, "b48c479fbd214da838f8694dedc9b7e26f0f2bec54bef3f4509f9eadeeacda94"), looks := false }, kinds := [], alts := [], laidByText := true, laidKinds := [.data, .pinned], laidTests := true, laidLooks := .later }
def PathmapNoneCardSaid : Prop := Claim7.holds Tryz.pinned (.plain (OpenSpec.ofChange pathmapNoneSpec)) pathmapNoneCard

/-- THE TIED CARD OF 'espalierlaw14.PathmapForm'. -/
def pathmapFormCard : Claim7 := { stood := { row := pathmapFormRow, standIns := [], harness := (true, "b48c479fbd214da838f8694dedc9b7e26f0f2bec54bef3f4509f9eadeeacda94"), looks := false }, kinds := [], alts := [], laidByText := true, laidKinds := [.data, .pinned], laidTests := true, laidLooks := .later }
def PathmapFormCardSaid : Prop := Claim7.holds Tryz.pinned (.plain (OpenSpec.ofChange pathmapFormSpec)) pathmapFormCard

/-- THE TIED CARD OF 'espalierlaw14.PathmapThree'. -/
def pathmapThreeCard : Claim7 := { stood := { row := pathmapThreeRow, standIns := [], harness := (true, "b48c479fbd214da838f8694dedc9b7e26f0f2bec54bef3f4509f9eadeeacda94"), looks := false }, kinds := [], alts := [], laidByText := true, laidKinds := [.data, .pinned], laidTests := true, laidLooks := .later }
def PathmapThreeCardSaid : Prop := Claim7.holds Tryz.pinned (.plain (OpenSpec.ofChange pathmapThreeSpec)) pathmapThreeCard

/-- THE SECOND FORM's CARD OF 'espalierlaw14.PathmapNone'. -/
def pathmapNoneUptoCard : Claim7 := { stood := { row := pathmapNoneUptoRow, standIns := [], harness := (true, "b48c479fbd214da838f8694dedc9b7e26f0f2bec54bef3f4509f9eadeeacda94"), looks := false }, kinds := [], alts := [], laidByText := true, laidKinds := [.data, .pinned], laidTests := true, laidLooks := .later }
def PathmapNoneUptoCardSaid : Prop := Claim7.holds Tryz.pinned (.plain (OpenSpec.upto pathmapNoneSpec)) pathmapNoneUptoCard

/-- THE SECOND FORM's CARD OF 'espalierlaw14.PathmapForm'. -/
def pathmapFormUptoCard : Claim7 := { stood := { row := pathmapFormUptoRow, standIns := [], harness := (true, "b48c479fbd214da838f8694dedc9b7e26f0f2bec54bef3f4509f9eadeeacda94"), looks := false }, kinds := [], alts := [], laidByText := true, laidKinds := [.data, .pinned], laidTests := true, laidLooks := .later }
def PathmapFormUptoCardSaid : Prop := Claim7.holds Tryz.pinned (.plain (OpenSpec.upto pathmapFormSpec)) pathmapFormUptoCard

/-- THE SECOND FORM's CARD OF 'espalierlaw14.PathmapThree'. -/
def pathmapThreeUptoCard : Claim7 := { stood := { row := pathmapThreeUptoRow, standIns := [], harness := (true, "b48c479fbd214da838f8694dedc9b7e26f0f2bec54bef3f4509f9eadeeacda94"), looks := false }, kinds := [], alts := [], laidByText := true, laidKinds := [.data, .pinned], laidTests := true, laidLooks := .later }
def PathmapThreeUptoCardSaid : Prop := Claim7.holds Tryz.pinned (.plain (OpenSpec.upto pathmapThreeSpec)) pathmapThreeUptoCard
end Rows
end Go.Proofs.YtggnglgehobglaaGreatDoor
