/- The walk of the statements' own first look, wakes: it answers true in every memory and turns nothing that was there. -/
import Derived.Test.YtkfmihbbmafolaaHash
import Derived.Test.YtkfmihbbmafolaaUint
import Derived.Lib.SlBytesConst
namespace Go.Proofs.Ytkfmihbbmafolaa
open Go.RowKit

theorem num_wakes : num (([7, 172, 2] : List UInt8).drop 1) = (300, 2, 0) := by decide +kernel
theorem hash_wakes : hashTo ([97] : List UInt8) 1 = 12638187200555641996 := by decide +kernel

set_option maxHeartbeats 1000000 in
theorem wakes_any (w : World) : Calls Try.prog 9 #[] w fun e w' => e = .returned (.bool true) ∧ Below w.heap.size w w' := by
  have kc := fun (w : World) (C : Array Value) (n c : Nat) => Lib.run_convert_bytes_const (P := Try.prog) w 22 5 C n c Try.underlying22 Try.underlying5
  have hb0 : Bytes (w.alloc (.cells #[.int .u8 7, .int .u8 172, .int .u8 2] 5)) (some ⟨w.heap.size, 0, none⟩) 3 [7, 172, 2] := by
    refine ⟨rfl, fun _ => ⟨w.heap.size, 0, rfl, fun i hi => ?_⟩⟩
    have : i = 0 ∨ i = 1 ∨ i = 2 := by omega
    rcases this with rfl | rfl | rfl <;> simp [bt]
  have B0 : Below w.heap.size w (w.alloc (.cells #[.int .u8 7, .int .u8 172, .int .u8 2] 5)) := (Below.refl _ _).alloc (Nat.le_refl _) _
  go_enter Try.func9, Try.ntmps9
  go_wp2_with fail
  refine (read_any (some ⟨w.heap.size, 0, none⟩) 3 3 [7, 172, 2] _ hb0 (by omega)).mono ?_
  rintro e w1 ⟨r, g, rfl, hr, hg, hrd, hgr⟩
  have B1 : Below w.heap.size w w1 := B0.grown hgr (by simp) (by simp)
  have hr' : w.heap.size ≤ r := by simp at hr; omega
  clear hr hg hgr B0 hb0
  go_wp2_with fail
  refine (byte_yes _ r g 0 _ hrd (by simp)).mono ?_
  rintro e w2 ⟨rfl, hrd2, hgr⟩
  have B2 : Below w.heap.size w w2 := B1.grown hgr B1.size (by simpa using hr')
  clear hgr B1 hrd
  rw [show bt [7, 172, 2] 0 = 7 from rfl]
  go_wp2_with fail
  refine (uint_yes _ r g 1 _ hrd2 (by rw [num_wakes])).mono ?_
  rw [num_wakes]
  rintro e w3 ⟨rfl, hrd3, hgr⟩
  have B3 : Below w.heap.size w w3 := B2.grown hgr B2.size (by simpa using hr')
  clear hgr B2 hrd2
  go_wp2_with fail
  refine (end_ok _ r g 3 0 _ hrd3 rfl).mono ?_
  rintro e w4 ⟨rfl, k, hw4⟩
  have B4 : Below w.heap.size w w4 := by rw [hw4]; exact B3.grown (grownBy_drewN _ _ none) B3.size (by simp)
  clear B3 hrd3 hw4
  have hb5 : Bytes (w4.alloc (.cells #[.int .u8 97] 5 (1, 2))) (some ⟨w4.heap.size, 0, none⟩) 1 [97] := by
    refine ⟨rfl, fun _ => ⟨w4.heap.size, 0, rfl, fun i hi => ?_⟩⟩
    obtain rfl : i = 0 := by omega
    rw [World.cell?_alloc_mark]
    rfl
  go_wp2_with fail
  refine (hash_any (some ⟨w4.heap.size, 0, none⟩) 1 1 [97] _ hb5 (by unfold maxLen; omega)).mono ?_
  rw [hash_wakes]
  rintro e w5 ⟨rfl, rfl⟩
  have B5 := B4.alloc B4.size (.cells #[.int .u8 97] 5 (1, 2))
  clear hb5 B4
  go_wp2
  go_ret
  exact ⟨rfl, B5⟩
end Go.Proofs.Ytkfmihbbmafolaa
