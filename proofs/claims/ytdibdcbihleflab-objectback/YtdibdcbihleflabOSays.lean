/- Does an object answer what it must: the walk of says, of every object. -/
import Derived.Test.YtdibdcbihleflabOBlob2
import Derived.Test.YtdibdcbihleflabOSame
import Derived.Laws.OwnMore
namespace Go.Proofs.Ytdibdcbihleflab
open Go.RowKit

attribute [local go_sem] Oper.semAt_some

theorem Ids.below {w W : World} {a : Option Addr} {n : Nat} {l : List Int} (h : Ids w a n l) (hB : Below w.heap.size w W) : Ids W a n l := by
  refine ⟨h.1, fun h0 => ?_⟩
  obtain ⟨b, off, e, hc⟩ := h.2 h0
  exact ⟨b, off, e, fun j x hx => (hB.cell (p := ⟨b, off + j, none⟩) (World.block_lt_of_cell? w _ (hc j x hx))).trans (hc j x hx)⟩

set_option maxHeartbeats 2000000 in
theorem ids_like (w : World) (a b : Option Addr) (n c d : Nat) (l : List Int) (h : Ids w a n l) (h' : Ids w b n l) (hn : n ≤ 9223372036854775807) :
    Calls Try.prog 24 #[.slice a n c, .slice b n d] w fun e w' => e = .returned (.bool true) ∧ Below w.heap.size w w' := by
  go_enter Try.func24, Try.ntmps24
  go_wp2
  go_loopw [13] (fun i wr => ∃ k : Nat, k ≤ n ∧ i = .int .i64 k ∧ Hid (Below w.heap.size w wr)) (fun i _ => n - (intOf i).toNat)
  case atStart => exact ⟨0, Nat.zero_le _, rfl, Below.refl _ _⟩
  case round =>
    obtain ⟨k, hk, rfl, H⟩ := hrel
    by_cases hlt : k < n
    · obtain ⟨x, hx⟩ : ∃ x, l[k]? = some x := ⟨_, List.getElem?_eq_getElem (by rw [h.1]; exact hlt)⟩
      obtain ⟨b1, o1, rfl, hc1⟩ := h.2 (by omega)
      obtain ⟨b2, o2, rfl, hc2⟩ := h'.2 (by omega)
      have q1 : wr.cell? ⟨b1, o1 + k, none⟩ = some (.int .u64 x) := (H.out.cell (p := ⟨b1, o1 + k, none⟩) (World.block_lt_of_cell? w _ (hc1 k x hx))).trans (hc1 k x hx)
      have q2 : wr.cell? ⟨b2, o2 + k, none⟩ = some (.int .u64 x) := (H.out.cell (p := ⟨b2, o2 + k, none⟩) (World.block_lt_of_cell? w _ (hc2 k x hx))).trans (hc2 k x hx)
      have i1 : (k : Int) < (n : Int) := by omega
      have i2 : ¬ n ≤ k := by omega
      clear hc1 h hx hc2 h'
      go_wp2_with fail
      go_quiet (fail)
      go_wp2_with fail
      go_roundw
      case rel => exact ⟨k + 1, by omega, by simp, below_drewN H.out _⟩
      case measure => simp [intOf]; omega
    · obtain rfl : k = n := by omega
      go_wp2
      go_ret
      exact ⟨rfl, H.out⟩

theorem own_ids {w : World} {B : Nat} {v : Value} {ids : List Int} (h : w.ownsRow B 25 1 v ids.length (ids.map (Value.int .u64))) : ∃ ad c, v = .slice ad ids.length c ∧ Ids w ad ids.length ids := by
  obtain ⟨ad, c, rfl, hc, hn⟩ := row_shape h
  refine ⟨ad, c, rfl, rfl, fun h0 => ?_⟩
  rcases h.2 with ⟨e, h'⟩ | ⟨g, cap, cur, e, _⟩
  · omega
  · cases e
    refine ⟨g, 0, rfl, fun j x hx => ?_⟩
    have := h.cells (g := g) rfl j (.int .u64 x) (by rw [List.getElem?_map, hx]; rfl)
    rw [Addr.add_lit] at this
    exact this
def OwnR (B : Nat) (v : Value) (n : Nat) (W : World) : Prop := ∃ xs, W.ownsRow B 5 1 v n xs
def OwnI (B : Nat) (v : Value) (n : Nat) (W : World) : Prop := ∃ xs, W.ownsRow B 25 1 v n xs
theorem below_gr {W W' : World} {B n : Nat} {t : TypeId} {v : Value} {xs : List Value} (h : W.ownsRow B t 1 v n xs) (hB : B ≤ W.heap.size) (hg : W.grownBy W' v.ownBlock) : Below B W W' :=
  ⟨hg.os, hg.tape, hg.output, hg.size, fun k hk => hg.block k (by omega) (fun e => by have := (row_block h k e.symm).1; omega)⟩
theorem cells_two (W : World) (t : TypeId) (a b : Value) : ∀ (j : Nat) u, [a, b][j]? = some u → (W.alloc (.cells #[a, b] t)).cell? (Addr.add ⟨W.heap.size, 0, none⟩ j) = some u := by
  intro j u hj
  match j, hj with
  | 0, hj => simp at hj; subst hj; simp [Addr.add]
  | 1, hj => simp at hj; subst hj; simp [Addr.add]

end Go.Proofs.Ytdibdcbihleflab
