/- What is none of the three kinds: nil, pointers. -/
import Derived.Test.YtdibdcbihleflaaOWakes
namespace Go.Proofs.Ytdibdcbihleflaa
open Go.RowKit

/-- an interface value that holds none of the three types -/
structure Odd (o : Value) : Prop where
  b : ∀ xT w, (Instr.typeAssert o xT 25 true).run Try.prog w = .ok (.tuple #[.agg #[.slice none 0 0], .bool false]) w
  t : ∀ xT w, (Instr.typeAssert o xT 35 true).run Try.prog w = .ok (.tuple #[.agg #[.slice none 0 0], .bool false]) w
  c : ∀ xT w, (Instr.typeAssert o xT 42 true).run Try.prog w = .ok (.tuple #[.agg #[.int .u64 0, .slice none 0 0, .string ⟨#[]⟩, .int .i64 0, .string ⟨#[]⟩], .bool false]) w
  mt : ∀ xT w, ∃ ob, (Instr.typeAssert o xT 35 false).run Try.prog w = .halt (.panic (.iface 15 (.pointer (some ⟨w.heap.size, 0, none⟩)))) (w.alloc ob)
  mc : ∀ xT w, ∃ ob, (Instr.typeAssert o xT 42 false).run Try.prog w = .halt (.panic (.iface 15 (.pointer (some ⟨w.heap.size, 0, none⟩)))) (w.alloc ob)
theorem odd_nil : Odd .nilIface := ⟨nil_blob, nil_tree, nil_commit, must_nil_tree, must_nil_commit⟩
theorem odd_iface (t : TypeId) (v : Value) (h1 : t ≠ 25) (h2 : t ≠ 35) (h3 : t ≠ 42) : Odd (.iface t v) := ⟨no_blob t h1 v, no_tree t h2 v, no_commit t h3 v, must_not_tree t h2 v, must_not_commit t h3 v⟩

theorem ocheck_odd (o : Value) (h : Odd o) (w : World) : Calls Try.prog 50 #[o] w fun e w' => e = .returned (.int .i64 160) ∧ w' = w := by
  have h1 := h.b
  have h2 := h.t
  have h3 := h.c
  go_enter Try.func50, Try.ntmps50
  go_wp2
  go_ret
  exact ⟨rfl, rfl⟩
theorem Check_odd (o : Value) (h : Odd o) (w : World) : Calls Try.prog 31 #[o] w fun e w' => e = .returned (.int .i64 160) ∧ w' = w := by
  go_enter Try.func31, Try.ntmps31
  go_wp2_with (go_at_call 50; refine (ocheck_odd o h _).mono ?_; rintro e w1 ⟨rfl, rfl⟩)
  go_ret
  exact ⟨rfl, rfl⟩
theorem Encode_odd (o : Value) (h : Odd o) (w : World) : Calls Try.prog 29 #[o] w fun e w' => e = .returned (.tuple #[.slice none 0 0, .int .i64 160]) ∧ w' = w := by
  go_enter Try.func29, Try.ntmps29
  go_wp2_with (go_at_call 50; refine (ocheck_odd o h _).mono ?_; rintro e w1 ⟨rfl, rfl⟩)
  go_ret2
  exact ⟨rfl, rfl⟩
theorem Of_odd (o : Value) (h : Odd o) (w : World) : Calls Try.prog 30 #[o] w fun e w' => e = .returned (.tuple #[.int .u64 0, .int .i64 160]) ∧ w' = w := by
  go_enter Try.func30, Try.ntmps30
  go_wp2_with (go_at_call 50; refine (ocheck_odd o h _).mono ?_; rintro e w1 ⟨rfl, rfl⟩)
  go_ret2
  exact ⟨rfl, rfl⟩
theorem okind_odd (o : Value) (h : Odd o) (w : World) : Calls Try.prog 58 #[o] w fun e w' => e = .returned (.int .i64 0) ∧ w' = w := by
  have h1 := h.b
  have h2 := h.t
  have h3 := h.c
  go_enter Try.func58, Try.ntmps58
  go_wp2
  go_ret
  exact ⟨rfl, rfl⟩
theorem Kind_odd (o : Value) (h : Odd o) (w : World) : Calls Try.prog 32 #[o] w fun e w' => e = .returned (.int .i64 0) ∧ w' = w := by
  go_enter Try.func32, Try.ntmps32
  go_wp2_with (go_at_call 58; refine (okind_odd o h _).mono ?_; rintro e w1 ⟨rfl, rfl⟩)
  go_ret
  exact ⟨rfl, rfl⟩
theorem Links_odd (o : Value) (h : Odd o) (w : World) : Calls Try.prog 33 #[o] w fun e w' => e = .returned (.slice none 0 0) ∧ w' = w := by
  go_enter Try.func33, Try.ntmps33
  go_wp2_with (go_at_call 50; refine (ocheck_odd o h _).mono ?_; rintro e w1 ⟨rfl, rfl⟩)
  go_ret
  exact ⟨rfl, rfl⟩
theorem fresh_odd (o : Value) (h : Odd o) (w : World) : Calls Try.prog 41 #[o] w fun e w' => e = .returned .nilIface ∧ w' = w := by
  have h1 := h.b
  have h2 := h.t
  have h3 := h.c
  go_enter Try.func41, Try.ntmps41
  go_wp2
  go_ret
  exact ⟨rfl, rfl⟩
theorem Copy_odd (o : Value) (h : Odd o) (w : World) : Calls Try.prog 16 #[o] w fun e w' => e = .returned .nilIface ∧ w' = w := by
  go_enter Try.func16, Try.ntmps16
  go_wp2_with (go_at_call 41; refine (fresh_odd o h _).mono ?_; rintro e w1 ⟨rfl, rfl⟩)
  go_ret
  exact ⟨rfl, rfl⟩
theorem Same_odd (o x : Value) (h : Odd o) (w : World) : Calls Try.prog 34 #[o, x] w fun e w' => e = .returned (.bool false) ∧ w' = w := by
  go_enter Try.func34, Try.ntmps34
  go_wp2_with (go_at_call 50; refine (ocheck_odd o h _).mono ?_; rintro e w1 ⟨rfl, rfl⟩)
  go_ret
  exact ⟨rfl, rfl⟩
theorem Same_tree_odd (o : Value) (h : Odd o) (w : World) : Calls Try.prog 34 #[.iface 35 (.agg #[.slice none 0 0]), o] w fun e w' => e = .returned (.bool false) ∧ Below w.heap.size w w' := by
  have c1 := check_tree_none w
  have c2 := fun w => ocheck_odd o h w
  go_enter Try.func34, Try.ntmps34
  go_wp2_with first
    | (go_at_call 50; refine c1.mono ?_; clear c1; rintro e w1 ⟨rfl, hB1⟩)
    | (go_at_call 50; refine (c2 _).mono ?_; rintro e w2 ⟨rfl, rfl⟩)
  go_ret
  exact ⟨rfl, hB1⟩
theorem asBlob_odd (o : Value) (h : Odd o) (w : World) : Calls Try.prog 38 #[o] w fun e w' => e = .returned (.tuple #[.agg #[.slice none 0 0], .bool false]) ∧ Below w.heap.size w w' := by
  have h1 := h.b
  go_enter Try.func38, Try.ntmps38
  go_wp2
  refine bodyPost_ret (v := .tuple #[.agg #[.slice none 0 0], .bool false]) (by simp [results, Try.results38, go_sem]) rfl ⟨rfl, ((Below.refl _ w).alloc (Nat.le_refl _) _).alloc (by simp) _⟩
theorem Blob_odd (o : Value) (h : Odd o) (w : World) : Calls Try.prog 13 #[o] w fun e w' => e = .returned (.tuple #[.agg #[.slice none 0 0], .bool false]) ∧ Below w.heap.size w w' := by
  have hB0 : Below w.heap.size w (w.alloc (.cells #[.slice none 0 0] 25)) := (Below.refl _ w).alloc (Nat.le_refl _) _
  go_enter Try.func13, Try.ntmps13
  go_wp2_with (go_at_call 38; refine (asBlob_odd o h _).mono ?_; rintro e w1 ⟨rfl, hB⟩; have hb : Boxed w1 w.heap.size 25 (.slice none 0 0) := ((hB.block w.heap.size (by simp)).trans (World.alloc_heap_new _ _)); have cb := hb.cell; have fb := hb.frozen)
  have c2 := (hb.set (.slice none 0 0)).cell
  refine bodyPost_ret (v := .tuple #[.agg #[.slice none 0 0], .bool false]) (by simp [results, Try.results13, go_sem, c2]) rfl ⟨rfl, (hB0.trans (hB.mono (by simp))).setCell (p := ⟨w.heap.size, 0, none⟩) (Nat.le_refl _) _⟩
theorem asTree_odd (o : Value) (h : Odd o) (w : World) : Calls Try.prog 39 #[o] w fun e w' => e = .returned (.tuple #[.agg #[.slice none 0 0], .bool false]) ∧ Below w.heap.size w w' := by
  have h1 := h.t
  go_enter Try.func39, Try.ntmps39
  go_wp2
  refine bodyPost_ret (v := .tuple #[.agg #[.slice none 0 0], .bool false]) (by simp [results, Try.results39, go_sem]) rfl ⟨rfl, ((Below.refl _ w).alloc (Nat.le_refl _) _).alloc (by simp) _⟩
theorem Tree_odd (o : Value) (h : Odd o) (w : World) : Calls Try.prog 14 #[o] w fun e w' => e = .returned (.tuple #[.agg #[.slice none 0 0], .bool false]) ∧ Below w.heap.size w w' := by
  have hB0 : Below w.heap.size w (w.alloc (.cells #[.slice none 0 0] 35)) := (Below.refl _ w).alloc (Nat.le_refl _) _
  go_enter Try.func14, Try.ntmps14
  go_wp2_with (go_at_call 39; refine (asTree_odd o h _).mono ?_; rintro e w1 ⟨rfl, hB⟩; have hb : Boxed w1 w.heap.size 35 (.slice none 0 0) := ((hB.block w.heap.size (by simp)).trans (World.alloc_heap_new _ _)); have cb := hb.cell; have fb := hb.frozen)
  have c2 := (hb.set (.slice none 0 0)).cell
  refine bodyPost_ret (v := .tuple #[.agg #[.slice none 0 0], .bool false]) (by simp [results, Try.results14, go_sem, c2]) rfl ⟨rfl, (hB0.trans (hB.mono (by simp))).setCell (p := ⟨w.heap.size, 0, none⟩) (Nat.le_refl _) _⟩
end Go.Proofs.Ytdibdcbihleflaa
