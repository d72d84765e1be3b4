import Derived.Test.YtdchmmdndgbllaaDoorY24
/- What Words answers of a line that is right. -/
namespace Go.Proofs.YtdchmmdndgbllaaDoor
open Go.RowKit
theorem words_right {s : ByteArray} {w W : World} {e : Ending} {ws : List (List UInt8)} (hs : wordsL (bs s) 0 = .ok ws) (h : WordsPost s w e W) :
    ∃ a c, e = .returned (.tuple #[.slice a ws.length c, .agg #[.int .i64 0, .int .i64 0]]) ∧ Strs W a ws.length (ws.map mk) ∧ Below w.heap.size w W := by
  obtain ⟨h1, hB⟩ := h
  rcases h1 with ⟨ws', v, hr, rfl, hrow⟩ | ⟨p, hr, _⟩
  · rw [hs] at hr
    cases hr
    obtain ⟨a, c, rfl, _, hst⟩ := wrow_strs hrow
    exact ⟨a, c, rfl, hst, hB⟩
  · rw [hs] at hr; cases hr
theorem box_new (w : World) : Box2 (w.alloc (.cells #[.int .i64 0, .int .i64 0] 35)) w.heap.size (.int .i64 0) (.int .i64 0) := Box2.new _ _ _
end Go.Proofs.YtdchmmdndgbllaaDoor
