/- The walk of the law's first look: does the layer do anything? -/
import Derived.Test.YtjbifbfhlmdlbaaJGood
namespace Go.Proofs.Ytjbifbfhlmdlbaa
open Go.RowKit

def aNm : ByteArray := ⟨#[97]⟩
def fNm : ByteArray := ⟨#[102]⟩
theorem recB_a : (recB [97]).length = 10 := by rw [recB_len]; rfl
theorem recB_none : (recB []).length = 9 := by rw [recB_len]; rfl

theorem Turn.belowQ {Q : Nat → Prop} {w w' : World} {B : Nat} (h : Turn Q w w') (hB : B ≤ w.heap.size) (hq : ∀ k, Q k → B ≤ k) : Below B w w' := h.below hB hq

set_option maxRecDepth 20000 in
set_option maxHeartbeats 4000000 in
theorem jwakes_any (w : World) : Calls Try.prog 9 #[] w fun e w' => e = .returned (.bool true) ∧ Below w.heap.size w w' := by
  go_enter Try.func9, Try.ntmps9
  go_wp2_with fail
  refine (new_any w).mono ?_
  rintro e w1 ⟨rfl, hd1, B1⟩
  have hx := jl_open w1 _ _ _ aNm [] hd1 (by decide) (Good.new _) (by simp [fileB])
  have hlt1 := hd1.lt
  clear hd1
  go_wp2_with fail
  refine hx.mono ?_
  clear hx
  rintro e w2 ⟨j, rfl, hL2, hT2⟩
  have B2 : Below w.heap.size w w2 := B1.trans (hT2.below B1.size (by rintro k (rfl | rfl) <;> omega))
  have Q2 : Hid (∀ k, grow (fun k => k = w.heap.size ∨ k = w.heap.size + 1) w1 w2 k → w.heap.size ≤ k) := fun k hk => hk.elim (fun h => by omega) (fun h => by have := B1.size; omega)
  obtain ⟨Q, hQ⟩ : ∃ Q, Q = grow (fun k => k = w.heap.size ∨ k = w.heap.size + 1) w1 w2 := ⟨_, rfl⟩
  rw [← hQ] at hL2 Q2
  clear hQ hT2 hlt1 B1
  obtain ⟨w3, hw3⟩ : ∃ w3, w3 = w2.alloc (.cells #[.int .u8 97] 5 (1, 2)) := ⟨_, rfl⟩
  have hcv : (convert 22 22 (.slice (some ⟨w2.heap.size, 0, none⟩) 1 1)).run Try.prog (w2.alloc (.cells #[.int .u8 97] 5)) = .ok (.slice (some ⟨w2.heap.size, 0, none⟩) 1 1) w3 := by
    rw [hw3]; exact Lib.run_convert_bytes_const w2 22 5 #[.int .u8 97] 1 1 Try.underlying22 Try.underlying5
  have hB3 : Below w2.heap.size w2 w3 := by rw [hw3]; exact (Below.refl _ _).alloc (Nat.le_refl _) _
  have hb3 : Bytes w3 (some ⟨w2.heap.size, 0, none⟩) 1 [97] := by
    refine ⟨rfl, fun _ => ⟨w2.heap.size, 0, rfl, fun i hi => ?_⟩⟩
    obtain rfl : i = 0 := by omega
    rw [hw3, Nat.zero_add, World.cell?_alloc_mark]; rfl
  clear hw3
  have hL3 := hL2.below hB3
  have hQ2 : ∀ k, Q k → k < w2.heap.size := by obtain ⟨_, _, _, _, _, _, _, h6⟩ := hL2; exact h6
  have hx1 := jl_append Q w3 j _ _ aNm [] hL3 (by decide) (by decide) (Good.new _) (some ⟨w2.heap.size, 0, none⟩) 1 1 [97] hb3 (by omega) (fun _ x hx hq => by
    cases hx
    have h0 : w2.heap.size < w2.heap.size := hQ2 _ hq
    omega) (by rw [recB_a]; simp [fileB])
  have B3 : Hid (Below w.heap.size w w3) := B2.trans (hB3.mono B2.size)
  clear hL2 hL3 hb3 hB3 B2
  have hnil : ∀ W : World, Bytes W none 0 [] := fun W => ⟨rfl, fun h => by omega⟩
  go_wp2_with fail
  refine hx1.mono ?_
  clear hx1
  rintro e w4 ⟨rfl, ⟨S4, hL4, hg4⟩, hT4⟩
  have B4 : Hid (Below w.heap.size w w4) := B3.out.trans (hT4.below B3.out.size Q2.out)
  have Q4 : Hid (∀ k, grow Q w3 w4 k → w.heap.size ≤ k) := fun k hk => hk.elim (Q2.out k) (fun h => by have := B3.out.size; omega)
  have hx2 := jl_append _ w4 j _ S4 aNm _ hL4 (by decide) (by decide) hg4 none 0 0 [] (hnil w4) (by omega) (by omega) (by rw [recB_none]; simp [fileB, recB_a])
  clear hL4 hg4 hT4
  go_wp2_with fail
  refine hx2.mono ?_
  clear hx2
  rintro e w5 ⟨rfl, ⟨S5, ⟨F, G, hJ5, _⟩, _⟩, hT5⟩
  have B5 : Hid (Below w.heap.size w w5) := B4.out.trans (hT5.below B4.out.size Q4.out)
  have hx3 := jlen_any w5 j _ aNm _ _ false F hJ5
  have hx4 := jsize_any w5 j _ aNm _ _ false F hJ5
  have e1 : ([] ++ [[97]] ++ [[]] : List (List UInt8)).length = 2 := rfl
  have e2 : (fileB ([] ++ [[97]] ++ [[]])).length = 19 := by simp [fileB, recB_a, recB_none]
  rw [e1] at hx3
  rw [e2] at hx4
  clear e1 e2
  clear hJ5 hT5 hcv
  go_wp2_with fail
  refine hx3.mono ?_
  clear hx3
  rintro e w6 ⟨rfl, rfl⟩
  go_wp2_with fail
  refine hx4.mono ?_
  clear hx4
  rintro e w7 ⟨rfl, rfl⟩
  go_wp2
  go_ret
  exact ⟨rfl, B5.out⟩

end Go.Proofs.Ytjbifbfhlmdlbaa
