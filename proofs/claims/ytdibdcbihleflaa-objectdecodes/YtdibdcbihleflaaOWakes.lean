/- The walk of wakes: a blob's bytes, and the empty tree read. -/
import Derived.Test.YtdibdcbihleflaaOBlob
import Derived.Test.YtdibdcbihleflaaUint
import Derived.Test.YtdibdcbihleflaaRoom
import Derived.Lib.SlBytesConst
namespace Go.Proofs.Ytdibdcbihleflaa
open Go.RowKit

theorem num_zero : num (([116, 0] : List UInt8).drop 1) = (0, 1, 0) := by decide +kernel

set_option maxRecDepth 20000 in
theorem readTree_zero (w : World) (r g : Nat) (h : Rd w r g 1 0 [116, 0]) (hr : r < w.heap.size) :
    Calls Try.prog 70 #[.pointer (some ⟨r, 0, none⟩)] w fun e w' => e = .returned (.iface 35 (.agg #[.slice none 0 0])) ∧ Rd w' r g 2 0 [116, 0] ∧ w.grownBy w' (some r) := by
  have hrd : Rd (w.alloc (.cells #[.slice none 0 0] 35)) r g 1 0 [116, 0] := h.kept (World.grownBy_alloc w _ none) (by simp) (by simp)
  have hbx : Boxed (w.alloc (.cells #[.slice none 0 0] 35)) w.heap.size 35 (.slice none 0 0) := Boxed.new _ _ _
  have cu := uint_yes _ r g 1 _ hrd (by rw [num_zero])
  rw [num_zero] at cu
  go_enter Try.func70, Try.ntmps70
  go_wp2_with (go_at_call 83; refine cu.mono ?_; rintro e w1 ⟨rfl, hrd1, hg1⟩; have hb1 := hbx.kept hg1 (by intro e; have := Option.some.inj e; omega); have cb := hb1.cell; clear cu hrd)
  go_loopw [4] (fun v wr => v = .int .u64 0 ∧ wr = w1) (fun _ _ => 0)
  case atStart => exact ⟨rfl, rfl⟩
  case round =>
    obtain ⟨rfl, rfl⟩ := hrel
    go_wp2
    go_ret
    refine ⟨rfl, hrd1, ?_⟩
    exact (World.grownBy_alloc w _ (some r)).trans hg1
set_option maxRecDepth 20000 in
theorem checkTree_none (w : World) : Calls Try.prog 74 #[.agg #[.slice none 0 0]] w fun e w' => e = .returned (.int .i64 0) ∧ Below w.heap.size w w' := by
  have hB0 : Below w.heap.size w (w.alloc (.cells #[.slice none 0 0] 35)) := (Below.refl _ w).alloc (Nat.le_refl _) _
  go_enter Try.func74, Try.ntmps74
  go_wp2
  go_loopw [14] (fun v wr => v = .int .i64 0 ∧ wr = w.alloc (.cells #[.slice none 0 0] 35)) (fun _ _ => 0)
  case atStart => exact ⟨rfl, rfl⟩
  case round =>
    obtain ⟨rfl, rfl⟩ := hrel
    go_wp2
    go_ret
    exact ⟨rfl, hB0⟩
theorem check_tree_none (w : World) : Calls Try.prog 50 #[.iface 35 (.agg #[.slice none 0 0])] w fun e w' => e = .returned (.int .i64 0) ∧ Below w.heap.size w w' := by
  have h0 := no_blob 35 (by decide) (.agg #[.slice none 0 0])
  have h1 := as_tree (.agg #[.slice none 0 0])
  have hB0 : Below w.heap.size w (w.alloc (.cells #[.slice none 0 0] 35)) := (Below.refl _ w).alloc (Nat.le_refl _) _
  go_enter Try.func50, Try.ntmps50
  go_wp2_with (go_at_call 74; refine (checkTree_none _).mono ?_; rintro e w1 ⟨rfl, hB⟩)
  go_ret
  exact ⟨rfl, hB0.trans (hB.mono (by simp))⟩

/-- an object of type tree that object.Tree tells -/
theorem asTree_any (a : Option Addr) (n c : Nat) (w : World) : Calls Try.prog 39 #[.iface 35 (.agg #[.slice a n c])] w fun e w' => e = .returned (.tuple #[.agg #[.slice a n c], .bool true]) ∧ Below w.heap.size w w' := by
  have h1 := as_tree (.agg #[.slice a n c])
  go_enter Try.func39, Try.ntmps39
  go_wp2
  refine bodyPost_ret (v := .tuple #[.agg #[.slice a n c], .bool true]) (by simp [results, Try.results39, go_sem]) rfl ⟨rfl, ((Below.refl _ w).alloc (Nat.le_refl _) _).alloc (by simp) _⟩
theorem Tree_any (a : Option Addr) (n c : Nat) (w : World) : Calls Try.prog 14 #[.iface 35 (.agg #[.slice a n c])] w fun e w' => e = .returned (.tuple #[.agg #[.slice a n c], .bool true]) ∧ Below w.heap.size w w' := by
  have hB0 : Below w.heap.size w (w.alloc (.cells #[.slice none 0 0] 35)) := (Below.refl _ w).alloc (Nat.le_refl _) _
  go_enter Try.func14, Try.ntmps14
  go_wp2_with (go_at_call 39; refine (asTree_any a n c _).mono ?_; rintro e w1 ⟨rfl, hB⟩; have hb : Boxed w1 w.heap.size 35 (.slice none 0 0) := ((hB.block w.heap.size (by simp)).trans (World.alloc_heap_new _ _)); have cb := hb.cell; have fb := hb.frozen)
  have c2 := (hb.set (.slice a n c)).cell
  refine bodyPost_ret (v := .tuple #[.agg #[.slice a n c], .bool true]) (by simp [results, Try.results14, go_sem, c2]) rfl ⟨rfl, (hB0.trans (hB.mono (by simp))).setCell (p := ⟨w.heap.size, 0, none⟩) (Nat.le_refl _) _⟩

set_option maxRecDepth 20000 in
set_option maxHeartbeats 1000000 in
theorem decode_wake (a : Option Addr) (c : Nat) (w : World) (hb : Bytes w a 2 [116, 0]) : Calls Try.prog 49 #[.slice a 2 c] w fun e w' => e = .returned (.iface 35 (.agg #[.slice none 0 0])) ∧ Below w.heap.size w w' := by
  have hbt : bt [116, 0] 0 = 116 := rfl
  go_enter Try.func49, Try.ntmps49
  go_wp2_with first
    | (go_at_call 66; refine (oread_any a 2 c [116, 0] _ hb (by omega)).mono ?_; rintro e w1 ⟨r, g, rfl, hr, hg, hrd, hgr⟩; have B1 : Below w.heap.size w w1 := (Below.refl _ w).grown hgr (Nat.le_refl _) (by simp); clear hgr)
    | (go_at_call 67; refine (byte_yes _ r g 0 _ hrd (by simp)).mono ?_; rw [hbt]; rintro e w2 ⟨rfl, hrd2, hgr2⟩; have B2 : Below w.heap.size w w2 := B1.grown hgr2 B1.size (fun k hk => by cases hk; exact hr); have hrl : r < w2.heap.size := World.block_lt_of_cell? w2 _ hrd2.c0; clear hgr2 B1 hrd)
    | (go_at_call 70; refine (readTree_zero _ r g hrd2 hrl).mono ?_; rintro e w3 ⟨rfl, hrd3, hgr3⟩; have B3 : Below w.heap.size w w3 := B2.grown hgr3 B2.size (fun k hk => by cases hk; exact hr); clear hgr3 B2 hrd2 hrl)
    | (go_at_call 72; refine (end_ok _ r g 2 0 _ hrd3 rfl).mono ?_; rintro e w4 ⟨rfl, k, hw4⟩; have B4 : Below w.heap.size w w4 := (by rw [hw4]; exact B3.grown (grownBy_drewN _ _ none) B3.size (by simp)); clear hw4 B3 hrd3)
  go_ret
  exact ⟨rfl, B4⟩
theorem Decode_wake (a : Option Addr) (c : Nat) (w : World) (hb : Bytes w a 2 [116, 0]) : Calls Try.prog 23 #[.slice a 2 c] w fun e w' => e = .returned (.tuple #[.iface 35 (.agg #[.slice none 0 0]), .int .i64 0]) ∧ Below w.heap.size w w' := by
  go_enter Try.func23, Try.ntmps23
  go_wp2_with first
    | (go_at_call 49; refine (decode_wake a c _ hb).mono ?_; rintro e w1 ⟨rfl, hB1⟩)
    | (go_at_call 50; refine (check_tree_none _).mono ?_; rintro e w2 ⟨rfl, hB2⟩)
  go_ret2
  exact ⟨rfl, hB1.trans (hB2.mono hB1.size)⟩

set_option maxRecDepth 20000 in
set_option maxHeartbeats 1000000 in
theorem wakes_any (w : World) : Calls Try.prog 9 #[] w fun e w' => e = .returned (.bool true) ∧ Below w.heap.size w w' := by
  have kc := fun (w : World) (C : Array Value) (n c : Nat) => Lib.run_convert_bytes_const (P := Try.prog) w 22 5 C n c Try.underlying22 Try.underlying5
  have hb0 : Bytes (w.alloc (.cells #[.int .u8 97] 5 (1, 2))) (some ⟨w.heap.size, 0, none⟩) 1 [97] := by
    refine ⟨rfl, fun _ => ⟨w.heap.size, 0, rfl, fun i hi => ?_⟩⟩
    obtain rfl : i = 0 := by omega
    rw [World.cell?_alloc_mark]
    rfl
  have hB0 : Below w.heap.size w (w.alloc (.cells #[.int .u8 97] 5 (1, 2))) := (Below.refl _ w).alloc (Nat.le_refl _) _
  have hcmp : ((⟨([98, 97] : List UInt8).toArray⟩ : ByteArray).toList == [98, 97]) = true := by decide +kernel
  obtain ⟨T, hT⟩ : ∃ T : ByteArray, T = ⟨([98, 97] : List UInt8).toArray⟩ := ⟨_, rfl⟩
  rw [← hT] at hcmp
  go_enter Try.func9, Try.ntmps9
  go_wp2_with first
    | (go_at_call 29; refine (Encode_blob (some ⟨w.heap.size, 0, none⟩) 1 1 [97] _ hb0 (fun h => by cases h) (by omega)).mono ?_; rintro e w1 ⟨v, rfl, ho, hB1⟩; obtain ⟨ad, cp, rfl, _⟩ := row_shape ho; have HB1 : Below w.heap.size w w1 := hB0.trans (hB1.mono hB0.size); have HC : Hid (∀ W, Below w1.heap.size w1 W → (convert 22 9 (.slice ad 2 cp)).run Try.prog W = .ok (.string T) W) := (fun W hB => by rw [hT]; exact run_string W ad 2 cp [98, 97] (bytes_below (row_bytes ho) hB)); clear ho hB1 hB0)
    | (go_at_call 23; refine (Decode_wake (some ⟨w1.heap.size, 0, none⟩) 2 _ (bytes_new w1 [116, 0] _ rfl)).mono ?_; rintro e w2 ⟨rfl, hB2⟩; have HB2 : Below w1.heap.size w1 w2 := ((Below.refl _ _).alloc (Nat.le_refl _) _).trans (hB2.mono (by simp)); clear hB2)
    | (go_at_call 14; refine (Tree_any none 0 0 _).mono ?_; rintro e w3 ⟨rfl, hB3⟩; have HB3 : Below w1.heap.size w1 (w3.alloc (.cells #[.slice none 0 0] 35)) := ((HB2.trans (hB3.mono HB2.size)).alloc (by have := HB2.size; have := hB3.size; omega) _); have hcv := HC.out _ HB3; clear hB3 HB2)
    | (go_at_call 32; refine (kind_tree _ _).mono ?_; rintro e w4 ⟨rfl, rfl⟩)
  go_ret
  exact ⟨rfl, HB1.trans (HB3.mono HB1.size)⟩
end Go.Proofs.Ytdibdcbihleflaa
