/- The walks of what tells an object's kind by its type. -/
import Derived.Test.YtdibdcbihleflaaOAssert
import Derived.Test.YtdibdcbihleflaaBytes
import Derived.Tactics
import Derived.Tactics2
import Derived.Defers
import Derived.Recover
import Derived.Laws.Pointers
import Derived.RangeFuncBox
namespace Go.Proofs.Ytdibdcbihleflaa
open Go.RowKit

theorem okind_tree (v : Value) (w : World) : Calls Try.prog 58 #[.iface 35 v] w fun e w' => e = .returned (.int .i64 2) ∧ w' = w := by
  have h1 := no_blob 35 (by decide) v
  have h2 := as_tree v
  go_enter Try.func58, Try.ntmps58
  go_wp2
  go_ret
  exact ⟨rfl, rfl⟩
theorem kind_tree (v : Value) (w : World) : Calls Try.prog 32 #[.iface 35 v] w fun e w' => e = .returned (.int .i64 2) ∧ w' = w := by
  go_enter Try.func32, Try.ntmps32
  go_wp2_with (go_at_call 58; refine (okind_tree v _).mono ?_; rintro e w1 ⟨rfl, rfl⟩)
  go_ret
  exact ⟨rfl, rfl⟩

theorem omust_tree (a : Option Addr) (n c : Nat) (w : World) : Calls Try.prog 46 #[.iface 35 (.agg #[.slice a n c])] w fun e w' => e = .returned (.agg #[.slice a n c]) ∧ Below w.heap.size w w' := by
  have h1 := must_tree (.agg #[.slice a n c])
  go_enter Try.func46, Try.ntmps46
  go_wp2
  refine bodyPost_ret (v := .agg #[.slice a n c]) (by simp [results, Try.results46, go_sem]) rfl ⟨rfl, (Below.refl _ w).alloc (Nat.le_refl _) _⟩
theorem must_tree_any (a : Option Addr) (n c : Nat) (w : World) : Calls Try.prog 19 #[.iface 35 (.agg #[.slice a n c])] w fun e w' => e = .returned (.agg #[.slice a n c]) ∧ Below w.heap.size w w' := by
  have hB0 : Below w.heap.size w (w.alloc (.cells #[.slice none 0 0] 35)) := (Below.refl _ w).alloc (Nat.le_refl _) _
  go_enter Try.func19, Try.ntmps19
  go_wp2_with (go_at_call 46; refine (omust_tree a n c _).mono ?_; rintro e w1 ⟨rfl, hB⟩; have hb : Boxed w1 w.heap.size 35 (.slice none 0 0) := ((hB.block w.heap.size (by simp)).trans (World.alloc_heap_new _ _)); have cb := hb.cell; have fb := hb.frozen)
  have hb2 := hb.set (.slice a n c)
  have c2 := hb2.cell
  refine bodyPost_ret (v := .agg #[.slice a n c]) (by simp [results, Try.results19, go_sem, c2]) rfl ⟨rfl, (hB0.trans (hB.mono (by simp))).setCell (p := ⟨w.heap.size, 0, none⟩) (Nat.le_refl _) _⟩
theorem omust_not_tree (t : TypeId) (ht : t ≠ 35) (v : Value) (w : World) : Calls Try.prog 46 #[.iface t v] w fun e w' => (∃ p, e = .panicked [{ v := .iface 15 p, recovered := false }]) ∧ Below w.heap.size w w' := by
  obtain ⟨o, ho⟩ := must_not_tree t ht v 46 (w.alloc (.cells #[.slice none 0 0] 35))
  go_enter Try.func46, Try.ntmps46
  go_wp2
  exact ⟨rfl, ⟨_, rfl⟩, ((Below.refl _ w).alloc (Nat.le_refl _) _).alloc (by simp) _⟩
theorem must_not_tree_any (t : TypeId) (ht : t ≠ 35) (v : Value) (w : World) : Calls Try.prog 19 #[.iface t v] w fun e w' => (∃ p, e = .panicked [{ v := .iface 15 p, recovered := false }]) ∧ Below w.heap.size w w' := by
  go_enter Try.func19, Try.ntmps19
  go_wp2_with (go_at_call 46; refine (omust_not_tree t ht v _).mono ?_; rintro e w1 ⟨⟨p, rfl⟩, hB⟩)
  exact ⟨rfl, ⟨_, rfl⟩, ((Below.refl _ w).alloc (Nat.le_refl _) _).trans (hB.mono (by simp))⟩

theorem omust_not_commit (t : TypeId) (ht : t ≠ 42) (v : Value) (w : World) : Calls Try.prog 48 #[.iface t v] w fun e w' => (∃ p, e = .panicked [{ v := .iface 15 p, recovered := false }]) ∧ Below w.heap.size w w' := by
  obtain ⟨o, ho⟩ := must_not_commit t ht v 46 (w.alloc (.cells #[.int .u64 0, .slice none 0 0, .string ⟨#[]⟩, .int .i64 0, .string ⟨#[]⟩] 42))
  go_enter Try.func48, Try.ntmps48
  go_wp2
  exact ⟨rfl, ⟨_, rfl⟩, ((Below.refl _ w).alloc (Nat.le_refl _) _).alloc (by simp) _⟩
theorem must_not_commit_any (t : TypeId) (ht : t ≠ 42) (v : Value) (w : World) : Calls Try.prog 22 #[.iface t v] w fun e w' => (∃ p, e = .panicked [{ v := .iface 15 p, recovered := false }]) ∧ Below w.heap.size w w' := by
  go_enter Try.func22, Try.ntmps22
  go_wp2_with (go_at_call 48; refine (omust_not_commit t ht v _).mono ?_; rintro e w1 ⟨⟨p, rfl⟩, hB⟩)
  exact ⟨rfl, ⟨_, rfl⟩, ((Below.refl _ w).alloc (Nat.le_refl _) _).trans (hB.mono (by simp))⟩

theorem catch_any (p : Addr) (b : Bool) (u : TypeId) (pv : Value) (w : World) (hc : w.cell? p = some (.bool b)) (hz : w.frozen? p = false) :
    CallsD Try.prog 60 #[.pointer (some p)] (.panicking [{ v := .iface u pv, recovered := false }]) w fun e u' w' =>
      e = .returned (.tuple #[]) ∧ u' = .panicking [{ v := .iface u pv, recovered := true }] ∧ w' = w.setCell p (.bool true) := by
  refine callsD_of_wpS Try.func60 rfl fun c₀ cs hu => ?_
  apply wpS_region
  simp [wpOpsS, go_sem, recoverD, hu, Try.ntmps60, hc, hz, bodyPostS, results, Try.results60]

theorem falls_tree (t : TypeId) (ht : t ≠ 35) (v : Value) (w : World) : Calls Try.prog 35 #[.iface t v, .int .i64 0] w fun e w' => e = .returned (.bool true) ∧ Below w.heap.size w w' := by
  have hmf : ∀ (fn : Fn) (first cap : Array Value) (w : World), (Instr.makeFunc fn first cap).run Try.prog w = .ok (.func fn first cap) w := fun _ _ _ _ => rfl
  have hB0 : Below w.heap.size w (w.alloc (.cells #[.bool false] 4)) := (Below.refl _ w).alloc (Nat.le_refl _) _
  go_enter_defers Try.func35, Try.ntmps35
  go_wp2_with (go_at_call 19; refine (must_not_tree_any t ht v _).mono ?_; rintro e w1 ⟨⟨p, rfl⟩, hB⟩; have hb : Boxed w1 w.heap.size 4 (.bool false) := ((hB.block w.heap.size (by simp)).trans (World.alloc_heap_new _ _)); have cb := hb.cell; have fb := hb.frozen)
  refine leaves_cons (f := 60) (args := #[.pointer (some ⟨w.heap.size, 0, none⟩)]) (by simp) (by simp [go_sem]) ?_
  refine (catch_any ⟨w.heap.size, 0, none⟩ false _ _ _ cb fb).mono ?_
  rintro e u' w'' ⟨rfl, rfl, rfl⟩
  have c2 := (hb.set (.bool true)).cell
  simp [Leaves, settle, results, Try.results35, go_sem, c2]
  exact (hB0.trans (hB.mono (by simp))).setCell (p := ⟨w.heap.size, 0, none⟩) (Nat.le_refl _) _
theorem falls_commit (t : TypeId) (ht : t ≠ 42) (v : Value) (w : World) : Calls Try.prog 35 #[.iface t v, .int .i64 1] w fun e w' => e = .returned (.bool true) ∧ Below w.heap.size w w' := by
  have hmf : ∀ (fn : Fn) (first cap : Array Value) (w : World), (Instr.makeFunc fn first cap).run Try.prog w = .ok (.func fn first cap) w := fun _ _ _ _ => rfl
  have hB0 : Below w.heap.size w (w.alloc (.cells #[.bool false] 4)) := (Below.refl _ w).alloc (Nat.le_refl _) _
  go_enter_defers Try.func35, Try.ntmps35
  go_wp2_with (go_at_call 22; refine (must_not_commit_any t ht v _).mono ?_; rintro e w1 ⟨⟨p, rfl⟩, hB⟩; have hb : Boxed w1 w.heap.size 4 (.bool false) := ((hB.block w.heap.size (by simp)).trans (World.alloc_heap_new _ _)); have cb := hb.cell; have fb := hb.frozen)
  refine leaves_cons (f := 60) (args := #[.pointer (some ⟨w.heap.size, 0, none⟩)]) (by simp) (by simp [go_sem]) ?_
  refine (catch_any ⟨w.heap.size, 0, none⟩ false _ _ _ cb fb).mono ?_
  rintro e u' w'' ⟨rfl, rfl, rfl⟩
  have c2 := (hb.set (.bool true)).cell
  simp [Leaves, settle, results, Try.results35, go_sem, c2]
  exact (hB0.trans (hB.mono (by simp))).setCell (p := ⟨w.heap.size, 0, none⟩) (Nat.le_refl _) _
end Go.Proofs.Ytdibdcbihleflaa
