/- Assertions of an object's type, as equations. -/
import Derived.Test.YtdibdcbihleflaaProg
import Derived.Outline
import Derived.WalkKit
namespace Go.Proofs.Ytdibdcbihleflaa
open Go.RowKit

def zBlob : Value := .agg #[.slice none 0 0]
def zTree : Value := .agg #[.slice none 0 0]
def zCommit : Value := .agg #[.int .u64 0, .slice none 0 0, .string ⟨#[]⟩, .int .i64 0, .string ⟨#[]⟩]
theorem as_blob (v : Value) (xT : TypeId) (w : World) : (Instr.typeAssert (.iface 25 v) xT 25 true).run Try.prog w = .ok (.tuple #[v, .bool true]) w := by
  simp [Instr.typeAssert, run_underlying Try.underlying25, go_sem, Result.andThen]
theorem as_tree (v : Value) (xT : TypeId) (w : World) : (Instr.typeAssert (.iface 35 v) xT 35 true).run Try.prog w = .ok (.tuple #[v, .bool true]) w := by
  simp [Instr.typeAssert, run_underlying Try.underlying35, go_sem, Result.andThen]
theorem as_commit (v : Value) (xT : TypeId) (w : World) : (Instr.typeAssert (.iface 42 v) xT 42 true).run Try.prog w = .ok (.tuple #[v, .bool true]) w := by
  simp [Instr.typeAssert, run_underlying Try.underlying42, go_sem, Result.andThen]
theorem no_blob (t : TypeId) (ht : t ≠ 25) (v : Value) (xT : TypeId) (w : World) : (Instr.typeAssert (.iface t v) xT 25 true).run Try.prog w = .ok (.tuple #[zBlob, .bool false]) w := by
  simp [Instr.typeAssert, run_underlying Try.underlying25, go_sem, Result.andThen, ht]
  rfl
theorem no_tree (t : TypeId) (ht : t ≠ 35) (v : Value) (xT : TypeId) (w : World) : (Instr.typeAssert (.iface t v) xT 35 true).run Try.prog w = .ok (.tuple #[zTree, .bool false]) w := by
  simp [Instr.typeAssert, run_underlying Try.underlying35, go_sem, Result.andThen, ht]
  rfl
theorem no_commit (t : TypeId) (ht : t ≠ 42) (v : Value) (xT : TypeId) (w : World) : (Instr.typeAssert (.iface t v) xT 42 true).run Try.prog w = .ok (.tuple #[zCommit, .bool false]) w := by
  simp [Instr.typeAssert, run_underlying Try.underlying42, go_sem, Result.andThen, ht]
  rfl
theorem nil_blob (xT : TypeId) (w : World) : (Instr.typeAssert .nilIface xT 25 true).run Try.prog w = .ok (.tuple #[zBlob, .bool false]) w := by
  simp [Instr.typeAssert, run_underlying Try.underlying25, go_sem, Result.andThen]
  rfl
theorem nil_tree (xT : TypeId) (w : World) : (Instr.typeAssert .nilIface xT 35 true).run Try.prog w = .ok (.tuple #[zTree, .bool false]) w := by
  simp [Instr.typeAssert, run_underlying Try.underlying35, go_sem, Result.andThen]
  rfl
theorem nil_commit (xT : TypeId) (w : World) : (Instr.typeAssert .nilIface xT 42 true).run Try.prog w = .ok (.tuple #[zCommit, .bool false]) w := by
  simp [Instr.typeAssert, run_underlying Try.underlying42, go_sem, Result.andThen]
  rfl
theorem must_tree (v : Value) (xT : TypeId) (w : World) : (Instr.typeAssert (.iface 35 v) xT 35 false).run Try.prog w = .ok v w := by
  simp [Instr.typeAssert, run_underlying Try.underlying35, go_sem, Result.andThen]
theorem must_commit (v : Value) (xT : TypeId) (w : World) : (Instr.typeAssert (.iface 42 v) xT 42 false).run Try.prog w = .ok v w := by
  simp [Instr.typeAssert, run_underlying Try.underlying42, go_sem, Result.andThen]
theorem must_not_tree (t : TypeId) (ht : t ≠ 35) (v : Value) (xT : TypeId) (w : World) : ∃ o, (Instr.typeAssert (.iface t v) xT 35 false).run Try.prog w = .halt (.panic (.iface 15 (.pointer (some ⟨w.heap.size, 0, none⟩)))) (w.alloc o) := by
  simp [Instr.typeAssert, run_underlying Try.underlying35, go_sem, Result.andThen, ht, elemOf, run_underlying Try.underlying15]
  exact ⟨_, rfl⟩
theorem must_nil_tree (xT : TypeId) (w : World) : ∃ o, (Instr.typeAssert .nilIface xT 35 false).run Try.prog w = .halt (.panic (.iface 15 (.pointer (some ⟨w.heap.size, 0, none⟩)))) (w.alloc o) := by
  simp [Instr.typeAssert, run_underlying Try.underlying35, go_sem, Result.andThen, elemOf, run_underlying Try.underlying15]
  exact ⟨_, rfl⟩
theorem must_not_commit (t : TypeId) (ht : t ≠ 42) (v : Value) (xT : TypeId) (w : World) : ∃ o, (Instr.typeAssert (.iface t v) xT 42 false).run Try.prog w = .halt (.panic (.iface 15 (.pointer (some ⟨w.heap.size, 0, none⟩)))) (w.alloc o) := by
  simp [Instr.typeAssert, run_underlying Try.underlying42, go_sem, Result.andThen, ht, elemOf, run_underlying Try.underlying15]
  exact ⟨_, rfl⟩
theorem must_nil_commit (xT : TypeId) (w : World) : ∃ o, (Instr.typeAssert .nilIface xT 42 false).run Try.prog w = .halt (.panic (.iface 15 (.pointer (some ⟨w.heap.size, 0, none⟩)))) (w.alloc o) := by
  simp [Instr.typeAssert, run_underlying Try.underlying42, go_sem, Result.andThen, elemOf, run_underlying Try.underlying15]
  exact ⟨_, rfl⟩
end Go.Proofs.Ytdibdcbihleflaa
