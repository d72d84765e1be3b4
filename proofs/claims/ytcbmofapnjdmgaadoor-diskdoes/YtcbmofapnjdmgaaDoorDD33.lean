import Derived.Test.YtcbmofapnjdmgaaDoorDD32
import Derived.OwnWalk
/- The walk of the law's room: bytes with room behind them. -/
namespace Go.Proofs.YtcbmofapnjdmgaaDoor
open Go.RowKit Go.Maps

set_option maxRecDepth 20000 in
set_option maxHeartbeats 4000000 in
theorem room_any (a : Option Addr) (n c : Nat) (l : List UInt8) (w : World) (hb : Bytes w a n l) (hnil : a = none → n = 0 ∧ c = 0) (hn : n ≤ 140737488351232) :
    Calls Tryd.prog 20 #[.slice a n c] w fun e w' => ∃ g c', e = .returned (.slice (some ⟨g, 0, none⟩) (n + 3) c') ∧ w'.ownsRow w.heap.size 5 1 (.slice (some ⟨g, 0, none⟩) (n + 3) c') (n + 3) (cellsOf (l ++ [7, 7, 7])) ∧ n + 3 ≤ c' ∧ Below w.heap.size w w' := by
  obtain ⟨i0, hi0, hzz0, hzz1, hzz2⟩ := info_parts Tryd.info5
  have HB : Hid (Bytes w a n l) := hb
  have ew : IntKind.i64.wrap ((n : Int) + 9) = ((n + 9 : Nat) : Int) := by rw [IntKind.wrap_i64]; omega
  have i1 : (0 : Int) ≤ ((n + 9 : Nat) : Int) := by omega
  clear hb
  go_enter Tryd.func20, Tryd.ntmps20
  go_wp2_with first
    | (at_builtin; go_loud (refine wpList_append_row _ rfl _ _ rfl (.slice a3 n c3) n (cellsOf l) rfl (H3.out.1.alloc _) (some ⟨w3.heap.size, 0, none⟩) 3 3 [7, 7, 7] rfl H3.out.2.2.2 (fun h => by cases h) (by omega) ?_; intro v4 w4 ho4 hg4 hat4; obtain ⟨a4, c4, rfl, hnc4, _⟩ := ownsRow_shape ho4))
    | (at_builtin; go_loud (refine wpList_append_row _ rfl _ _ rfl (.slice (some ⟨w.heap.size, 0, none⟩) 0 (n + 9)) 0 [] rfl H2.out.1 a n c l rfl H2.out.2.2 hnil (by omega) ?_; intro v3 w3 ho3 hg3 hat3; simp only [Nat.zero_add, List.nil_append] at ho3; obtain ⟨a3, c3, rfl, _⟩ := ownsRow_shape (w := w3) (B := 0) (n := n) ho3; have H3 : Hid (w3.ownsRow 0 5 1 (.slice a3 n c3) n (cellsOf l) ∧ (∀ g, (Value.slice a3 n c3).ownBlock = some g → w.heap.size ≤ g) ∧ Below w.heap.size w w3 ∧ Bytes (w3.alloc (.cells #[.int .u8 7, .int .u8 7, .int .u8 7] 5)) (some ⟨w3.heap.size, 0, none⟩) 3 [7, 7, 7]) := ⟨ho3, (by intro g hg; rcases hat3 with e | e <;> (rw [e] at hg; cases hg); exact Nat.le_refl _; exact H2.out.2.1.size), H2.out.2.1.grown hg3 H2.out.2.1.size (by intro k hk; cases hk; exact Nat.le_refl _), (by refine ⟨rfl, fun _ => ⟨w3.heap.size, 0, rfl, fun i hi => ?_⟩⟩; rcases (show i = 0 ∨ i = 1 ∨ i = 2 by omega) with rfl | rfl | rfl <;> simp [bt])⟩; clear ho3 hg3 hat3))
    | (at_make; go_loud (refine wpList_make_own _ rfl _ _ 32 rfl w.heap.size 5 i0 (.int .u8 0) 1 Tryd.underlying32 hi0 hzz0 hzz1 _ _ _ (n + 9) rfl rfl (by simp) (by rw [hzz2]; omega) (by unfold maxLen; omega) (Nat.le_refl _) ?_; intro w2 ho2 hg2; have H2 : Hid (w2.ownsRow 0 5 1 (.slice (some ⟨w.heap.size, 0, none⟩) 0 (n + 9)) 0 [] ∧ Below w.heap.size w w2 ∧ Bytes w2 a n l) := ⟨ownsRow_zero ho2, (Below.refl _ w).grown hg2 (Nat.le_refl _) (by simp), (Turn.of_below (fun _ => False) ((Below.refl _ w).grown hg2 (Nat.le_refl _) (by simp))).bytes HB.out (fun _ _ _ => id)⟩; clear ho2 hg2))
  go_ret
  obtain ⟨h1, h2, h3, _⟩ := H3.out
  rcases ho4.2 with ⟨_, hz⟩ | ⟨g, cap, cur, e, _⟩
  · omega
  cases e
  have hlo : w.heap.size ≤ g := by
    rcases hat4 with e | e
    · exact h2 g (by rw [← e]; rfl)
    · cases e; have := h3.size; simp; omega
  rw [← cellsOf_append] at ho4
  exact ⟨g, c4, rfl, ownsRow_base ho4 (fun g' hg' => by cases hg'; exact hlo), hnc4, (h3.alloc h3.size _).grown hg4 (by simpa using Nat.le_succ_of_le h3.size) h2⟩

end Go.Proofs.YtcbmofapnjdmgaaDoor
