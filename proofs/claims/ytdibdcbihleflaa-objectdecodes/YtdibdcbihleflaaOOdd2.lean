/- What is none of the three kinds, as a commit; and what MustTree, MustCommit do of it. -/
import Derived.Test.YtdibdcbihleflaaOOdd
namespace Go.Proofs.Ytdibdcbihleflaa
open Go.RowKit

abbrev zC : Value := .agg #[.int .u64 0, .slice none 0 0, .string ⟨#[]⟩, .int .i64 0, .string ⟨#[]⟩]
/-- a block of a commit's five cells -/
def Box5 (W : World) (B : Nat) (a b c d e : Value) : Prop := W.heap[B]? = some (.cells #[a, b, c, d, e] 42 (0, 0))
theorem Box5.lt {W : World} {B : Nat} {a b c d e : Value} (h : Box5 W B a b c d e) : B < W.heap.size := (Array.getElem?_eq_some_iff.1 h).1
theorem Box5.cell {W : World} {B : Nat} {a b c d e : Value} (h : Box5 W B a b c d e) : W.cell? ⟨B, 0, none⟩ = some a ∧ W.cell? ⟨B, 1, none⟩ = some b ∧ W.cell? ⟨B, 2, none⟩ = some c ∧ W.cell? ⟨B, 3, none⟩ = some d ∧ W.cell? ⟨B, 4, none⟩ = some e := by
  have h' : W.heap[B]? = _ := h
  simp [World.cell?, h']
theorem Box5.frozen {W : World} {B : Nat} {a b c d e : Value} (h : Box5 W B a b c d e) : W.frozen? ⟨B, 0, none⟩ = false ∧ W.frozen? ⟨B, 1, none⟩ = false ∧ W.frozen? ⟨B, 2, none⟩ = false ∧ W.frozen? ⟨B, 3, none⟩ = false ∧ W.frozen? ⟨B, 4, none⟩ = false := by
  have h' : W.heap[B]? = _ := h
  simp [World.frozen?, h']
theorem Box5.new (W : World) (a b c d e : Value) : Box5 (W.alloc (.cells #[a, b, c, d, e] 42)) W.heap.size a b c d e := World.alloc_heap_new W _
theorem Box5.kept {W W' : World} {B : Nat} {a b c d e : Value} (h : Box5 W B a b c d e) (hB : Below W.heap.size W W') : Box5 W' B a b c d e := (hB.block B h.lt).trans h
theorem Box5.all {W : World} {B : Nat} {a b c d e : Value} (h : Box5 W B a b c d e) (a' b' c' d' e' : Value) : Box5 (((((W.setCell ⟨B, 0, none⟩ a').setCell ⟨B, 1, none⟩ b').setCell ⟨B, 2, none⟩ c').setCell ⟨B, 3, none⟩ d').setCell ⟨B, 4, none⟩ e') B a' b' c' d' e' := by
  have h' : W.heap[B]? = _ := h
  have hl := h.lt
  unfold Box5
  simp [World.setCell, Array.getElem?_modify, h']
theorem below5 {n0 : Nat} {w W : World} (h : Below n0 w W) {B : Nat} (hB : n0 ≤ B) (a' b' c' d' e' : Value) : Below n0 w (((((W.setCell ⟨B, 0, none⟩ a').setCell ⟨B, 1, none⟩ b').setCell ⟨B, 2, none⟩ c').setCell ⟨B, 3, none⟩ d').setCell ⟨B, 4, none⟩ e') :=
  ((((h.setCell (p := ⟨B, 0, none⟩) hB _).setCell (p := ⟨B, 1, none⟩) hB _).setCell (p := ⟨B, 2, none⟩) hB _).setCell (p := ⟨B, 3, none⟩) hB _).setCell (p := ⟨B, 4, none⟩) hB _

theorem asCommit_odd (o : Value) (h : Odd o) (w : World) : Calls Try.prog 40 #[o] w fun e w' => e = .returned (.tuple #[zC, .bool false]) ∧ Below w.heap.size w w' := by
  have h1 := h.c
  go_enter Try.func40, Try.ntmps40
  go_wp2
  refine bodyPost_ret (v := .tuple #[zC, .bool false]) (by simp [results, Try.results40, go_sem]) rfl ⟨rfl, ((Below.refl _ w).alloc (Nat.le_refl _) _).alloc (by simp) _⟩
theorem Commit_odd (o : Value) (h : Odd o) (w : World) : Calls Try.prog 15 #[o] w fun e w' => e = .returned (.tuple #[zC, .bool false]) ∧ Below w.heap.size w w' := by
  have hB0 : Below w.heap.size w (w.alloc (.cells #[.int .u64 0, .slice none 0 0, .string ⟨#[]⟩, .int .i64 0, .string ⟨#[]⟩] 42)) := (Below.refl _ w).alloc (Nat.le_refl _) _
  go_enter Try.func15, Try.ntmps15
  go_wp2_with (go_at_call 40; refine (asCommit_odd o h _).mono ?_; rintro e w1 ⟨rfl, hB⟩; have hb : Box5 w1 w.heap.size (.int .u64 0) (.slice none 0 0) (.string ⟨#[]⟩) (.int .i64 0) (.string ⟨#[]⟩) := ((hB.block w.heap.size (by simp)).trans (World.alloc_heap_new _ _)); obtain ⟨cb0, cb1, cb2, cb3, cb4⟩ := hb.cell; obtain ⟨fb0, fb1, fb2, fb3, fb4⟩ := hb.frozen)
  obtain ⟨d0, d1, d2, d3, d4⟩ := (hb.all (.int .u64 0) (.slice none 0 0) (.string ⟨#[]⟩) (.int .i64 0) (.string ⟨#[]⟩)).cell
  refine bodyPost_ret (v := .tuple #[zC, .bool false]) (by simp [results, Try.results15, go_sem, d0, d1, d2, d3, d4]) rfl ⟨rfl, below5 (hB0.trans (hB.mono (by simp))) (Nat.le_refl _) _ _ _ _ _⟩
theorem mustTree_odd (o : Value) (h : Odd o) (w : World) : Calls Try.prog 46 #[o] w fun e w' => (∃ p, e = .panicked [{ v := .iface 15 p, recovered := false }]) ∧ Below w.heap.size w w' := by
  obtain ⟨ob, ho⟩ := h.mt 46 (w.alloc (.cells #[.slice none 0 0] 35))
  go_enter Try.func46, Try.ntmps46
  go_wp2
  exact ⟨rfl, ⟨_, rfl⟩, ((Below.refl _ w).alloc (Nat.le_refl _) _).alloc (by simp) _⟩
theorem MustTree_odd (o : Value) (h : Odd o) (w : World) : Calls Try.prog 19 #[o] w fun e w' => (∃ p, e = .panicked [{ v := .iface 15 p, recovered := false }]) ∧ Below w.heap.size w w' := by
  go_enter Try.func19, Try.ntmps19
  go_wp2_with (go_at_call 46; refine (mustTree_odd o h _).mono ?_; rintro e w1 ⟨⟨p, rfl⟩, hB⟩)
  exact ⟨rfl, ⟨_, rfl⟩, ((Below.refl _ w).alloc (Nat.le_refl _) _).trans (hB.mono (by simp))⟩
theorem mustCommit_odd (o : Value) (h : Odd o) (w : World) : Calls Try.prog 48 #[o] w fun e w' => (∃ p, e = .panicked [{ v := .iface 15 p, recovered := false }]) ∧ Below w.heap.size w w' := by
  obtain ⟨ob, ho⟩ := h.mc 46 (w.alloc (.cells #[.int .u64 0, .slice none 0 0, .string ⟨#[]⟩, .int .i64 0, .string ⟨#[]⟩] 42))
  go_enter Try.func48, Try.ntmps48
  go_wp2
  exact ⟨rfl, ⟨_, rfl⟩, ((Below.refl _ w).alloc (Nat.le_refl _) _).alloc (by simp) _⟩
theorem MustCommit_odd (o : Value) (h : Odd o) (w : World) : Calls Try.prog 22 #[o] w fun e w' => (∃ p, e = .panicked [{ v := .iface 15 p, recovered := false }]) ∧ Below w.heap.size w w' := by
  go_enter Try.func22, Try.ntmps22
  go_wp2_with (go_at_call 48; refine (mustCommit_odd o h _).mono ?_; rintro e w1 ⟨⟨p, rfl⟩, hB⟩)
  exact ⟨rfl, ⟨_, rfl⟩, ((Below.refl _ w).alloc (Nat.le_refl _) _).trans (hB.mono (by simp))⟩
theorem falls_odd (o : Value) (h : Odd o) (k : Int) (hk : k = 0 ∨ k = 1) (w : World) : Calls Try.prog 35 #[o, .int .i64 k] w fun e w' => e = .returned (.bool true) ∧ Below w.heap.size w w' := by
  have hmf : ∀ (fn : Fn) (first cap : Array Value) (w : World), (Instr.makeFunc fn first cap).run Try.prog w = .ok (.func fn first cap) w := fun _ _ _ _ => rfl
  have hB0 : Below w.heap.size w (w.alloc (.cells #[.bool false] 4)) := (Below.refl _ w).alloc (Nat.le_refl _) _
  rcases hk with rfl | rfl
  · go_enter_defers Try.func35, Try.ntmps35
    go_wp2_with (go_at_call 19; refine (MustTree_odd o h _).mono ?_; rintro e w1 ⟨⟨p, rfl⟩, hB⟩; have hb : Boxed w1 w.heap.size 4 (.bool false) := ((hB.block w.heap.size (by simp)).trans (World.alloc_heap_new _ _)); have cb := hb.cell; have fb := hb.frozen)
    refine leaves_cons (f := 60) (args := #[.pointer (some ⟨w.heap.size, 0, none⟩)]) (by simp) (by simp [go_sem]) ?_
    refine (catch_any ⟨w.heap.size, 0, none⟩ false _ _ _ cb fb).mono ?_
    rintro e u' w'' ⟨rfl, rfl, rfl⟩
    have c2 := (hb.set (.bool true)).cell
    simp [Leaves, settle, results, Try.results35, go_sem, c2]
    exact (hB0.trans (hB.mono (by simp))).setCell (p := ⟨w.heap.size, 0, none⟩) (Nat.le_refl _) _
  · go_enter_defers Try.func35, Try.ntmps35
    go_wp2_with (go_at_call 22; refine (MustCommit_odd o h _).mono ?_; rintro e w1 ⟨⟨p, rfl⟩, hB⟩; have hb : Boxed w1 w.heap.size 4 (.bool false) := ((hB.block w.heap.size (by simp)).trans (World.alloc_heap_new _ _)); have cb := hb.cell; have fb := hb.frozen)
    refine leaves_cons (f := 60) (args := #[.pointer (some ⟨w.heap.size, 0, none⟩)]) (by simp) (by simp [go_sem]) ?_
    refine (catch_any ⟨w.heap.size, 0, none⟩ false _ _ _ cb fb).mono ?_
    rintro e u' w'' ⟨rfl, rfl, rfl⟩
    have c2 := (hb.set (.bool true)).cell
    simp [Leaves, settle, results, Try.results35, go_sem, c2]
    exact (hB0.trans (hB.mono (by simp))).setCell (p := ⟨w.heap.size, 0, none⟩) (Nat.le_refl _) _
end Go.Proofs.Ytdibdcbihleflaa
