import Derived.Test.YtcbmofapnjdmgaaDoorDD09
/- The walk of the statements' own first look, wakes: it answers true in every memory and turns nothing that was there. -/
namespace Go.Proofs.YtcbmofapnjdmgaaDoor
open Go.RowKit Go.Maps

def aName : ByteArray := ⟨#[97]⟩

theorem app_wakes : ((DG.mk (fun _ => none) 0 0 false 0).app [97] [1, 2]) = ((DG.mk (fun _ => none) 0 1 false 0).add [97] [1, 2], 0) := by
  have : nameB [97] = true := by decide +kernel
  simp [DG.app, this, DG.bs, pieces, DG.can, DG.done]

set_option maxRecDepth 20000 in
set_option maxHeartbeats 2000000 in
theorem wakes_any (w : World) : Calls Tryd.prog 4 #[] w fun e w' => e = .returned (.bool true) ∧ Below w.heap.size w w' := by
  go_enter Tryd.func4, Tryd.ntmps4
  go_wp2_with fail
  refine (new_any w).mono ?_
  rintro e w1 ⟨rfl, hd1, B1⟩
  have hb2 : Bytes (w1.alloc (.cells #[.int .u8 1, .int .u8 2] 5)) (some ⟨w1.heap.size, 0, none⟩) 2 [1, 2] := by
    refine ⟨rfl, fun _ => ⟨w1.heap.size, 0, rfl, fun i hi => ?_⟩⟩
    have : i = 0 ∨ i = 1 := by omega
    rcases this with rfl | rfl <;> simp [bt]
  have B2 : Below w1.heap.size w1 (w1.alloc (.cells #[.int .u8 1, .int .u8 2] 5)) := (Below.refl _ _).alloc (Nat.le_refl _) _
  have hd2 := hd1.below B2
  have hlt1 := hd1.lt
  have happ := append_any _ _ _ _ aName _ 2 2 [1, 2] hd2 (by decide) hb2 (by omega) (by simp) (by
    intro _ x hx
    cases hx
    refine ⟨fun h => ?_, by simp⟩
    have := hlt1 _ h
    simp at this) (by simp [DG.bs]) (by simp) (by simp) (by omega)
  rw [show aName.data.toList = [97] from rfl, app_wakes] at happ
  have B12 : Below w.heap.size w (w1.alloc (.cells #[.int .u8 1, .int .u8 2] 5)) := B1.trans (B2.mono B1.size)
  clear hd1 hb2 B2 hd2 B1
  go_wp2_with fail
  refine happ.mono ?_
  rintro e w2 ⟨rfl, hd3, hT3⟩
  have B3 : Below w.heap.size w w2 := by
    have hsz := B12.size
    exact B12.trans (hT3.below (by omega) (by rintro k (rfl | rfl) <;> omega))
  have hrd := read_any _ _ _ _ aName hd3 (by decide) (by decide)
  have hwr := fun (w3 : World) (hB : Below w2.heap.size w2 w3) => writes_any _ _ _ _ (hd3.below hB)
  rw [show aName.data.toList = [97] from rfl, show DG.bs ((DG.mk (fun _ => none) 0 1 false 0).add [97] [1, 2]) [97] = [1, 2] from rfl, show DG.err ((DG.mk (fun _ => none) 0 1 false 0).add [97] [1, 2]) [97] = 0 from rfl] at hrd
  simp only [show ((DG.mk (fun _ => none) 0 1 false 0).add [97] [1, 2]).wr = 1 from rfl] at hwr
  clear happ hT3 B12 hd3
  go_wp2_with fail
  refine hrd.mono ?_
  rintro e w3 ⟨a', c', rfl, hown, hB3, hc', _⟩
  have hby := (ownsRow_toBytes hown).1
  obtain ⟨g, off, rfl, hcell⟩ := hby.2 (by decide)
  have hc1 := hcell 1 (by decide)
  rw [show bt [1, 2] 1 = 2 from rfl] at hc1
  have hw3 := hwr w3 hB3
  have B4 := B3.trans (hB3.mono B3.size)
  clear hrd hown hby hcell hwr hB3 B3
  go_wp2_with (go_at_call 14; refine hw3.mono ?_; rintro e w' ⟨rfl, rfl⟩)
  go_ret
  exact ⟨rfl, B4⟩
end Go.Proofs.YtcbmofapnjdmgaaDoor
