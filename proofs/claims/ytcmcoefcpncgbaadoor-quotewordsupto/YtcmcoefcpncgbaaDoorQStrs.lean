/- Slices of texts; the laws' same of one list twice. -/
import Derived.Test.YtcmcoefcpncgbaaDoorQWords
namespace Go.Proofs.YtcmcoefcpncgbaaDoor
open Go.RowKit

def Strs (w : World) (a : Option Addr) (n : Nat) (l : List ByteArray) : Prop := l.length = n ∧ (0 < n → ∃ b off, a = some ⟨b, off, none⟩ ∧ ∀ (j : Nat) x, l[j]? = some x → w.cell? ⟨b, off + j, none⟩ = some (.string x))
theorem Strs.kept {w w' : World} {a : Option Addr} {n : Nat} {l : List ByteArray} (h : Strs w a n l) (hB : Below w.heap.size w w') : Strs w' a n l :=
  ⟨h.1, fun h0 => by
    obtain ⟨b, off, e, hc⟩ := h.2 h0
    exact ⟨b, off, e, fun j x hx => (hB.cell (p := ⟨b, off + j, none⟩) (World.block_lt_of_cell? w _ (hc j x hx))).trans (hc j x hx)⟩⟩
theorem strs_new (w : World) (l : List ByteArray) (t : TypeId) (n : Nat) (hn : l.length = n) : Strs (w.alloc (.cells (l.map Value.string).toArray t)) (some ⟨w.heap.size, 0, none⟩) n l :=
  ⟨hn, fun _ => ⟨w.heap.size, 0, rfl, fun j x hx => by
    have h := World.alloc_heap_new w (.cells (l.map Value.string).toArray t)
    simp only [World.cell?, h]
    show (l.map Value.string).toArray[0 + j]? = _
    simp [hx]⟩⟩
theorem wrow_strs {w : World} {base : Nat} {v : Value} {ws : List (List UInt8)} (h : w.ownsRow base 9 1 v ws.length (wcells ws)) : ∃ a c, v = .slice a ws.length c ∧ ws.length ≤ c ∧ Strs w a ws.length (ws.map mk) := by
  rcases h.2 with ⟨rfl, h0⟩ | ⟨g, cap, cur, rfl, _, hg, hc, _, _, ht⟩
  · rw [h0]
    have : ws = [] := List.eq_nil_of_length_eq_zero h0
    subst this
    exact ⟨none, 0, rfl, Nat.le_refl _, rfl, fun h => by cases h⟩
  · refine ⟨_, cap, rfl, hc, by simp, fun _ => ⟨g, 0, rfl, fun j x hx => ?_⟩⟩
    have hj : j < ws.length := by have := (List.getElem?_eq_some_iff.1 hx).1; simpa using this
    have e : (cur.toList.take (ws.length * 1))[j]? = some (.string x) := by
      rw [ht]
      simp only [wcells, List.getElem?_map] at hx ⊢
      cases hw : ws[j]? with
      | none => rw [hw] at hx; cases hx
      | some z => rw [hw] at hx; cases hx; rfl
    rw [List.getElem?_take_of_lt (by omega)] at e
    simp only [World.cell?, hg]
    rw [Nat.zero_add, ← Array.getElem?_toList]; exact e

theorem same_yes (w : World) (a b : Option Addr) (n c d : Nat) (l : List ByteArray) (h1 : Strs w a n l) (h2 : Strs w b n l) (hn : n ≤ 100000000) :
    Calls Tryd.prog 15 #[.slice a n c, .slice b n d] w fun e w' => e = .returned (.bool true) ∧ Below w.heap.size w w' := by
  go_enter Tryd.func15, Tryd.ntmps15
  go_wp2
  go_loopw [13] (fun i wr => ∃ k : Nat, k ≤ n ∧ i = .int .i64 k ∧ Hid (Below w.heap.size w wr)) (fun i _ => n - (intOf i).toNat)
  case atStart => exact ⟨0, Nat.zero_le _, rfl, Below.refl _ _⟩
  case round =>
    obtain ⟨k, hk, rfl, H⟩ := hrel
    by_cases hlt : k < n
    · obtain ⟨x, hx⟩ : ∃ x, l[k]? = some x := ⟨_, List.getElem?_eq_getElem (by rw [h1.1]; exact hlt)⟩
      obtain ⟨b1, o1, rfl, hc1⟩ := h1.2 (by omega)
      obtain ⟨b2, o2, rfl, hc2⟩ := h2.2 (by omega)
      have q1 : wr.cell? ⟨b1, o1 + k, none⟩ = some (.string x) := (H.out.cell (p := ⟨b1, o1 + k, none⟩) (World.block_lt_of_cell? w _ (hc1 k x hx))).trans (hc1 k x hx)
      have q2 : wr.cell? ⟨b2, o2 + k, none⟩ = some (.string x) := (H.out.cell (p := ⟨b2, o2 + k, none⟩) (World.block_lt_of_cell? w _ (hc2 k x hx))).trans (hc2 k x hx)
      have i1 : (k : Int) < (n : Int) := by omega
      have i2 : ¬ n ≤ k := by omega
      clear hc1 hc2 h1 h2 hx
      go_wp2_with fail
      go_quiet (fail)
      go_wp2_with fail
      go_roundw
      case rel => exact ⟨k + 1, by omega, by simp, below_drewN H.out _⟩
      case measure => simp [intOf]; omega
    · obtain rfl : k = n := by omega
      go_wp2
      go_ret
      exact ⟨rfl, H.out⟩
end Go.Proofs.YtcmcoefcpncgbaaDoor
