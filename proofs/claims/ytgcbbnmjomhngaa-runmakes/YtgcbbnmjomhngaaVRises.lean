/- The walk of rises. -/
import Derived.Test.YtgcbbnmjomhngaaVRow
namespace Go.Proofs.Ytgcbbnmjomhngaa
open Go.RowKit Go.Shelf Go.Maps

attribute [local go_sem] Oper.semAt_some

theorem drop_getV {l : List Pr} {k : Nat} {x : Pr} (h : l[k]? = some x) : l.drop k = x :: l.drop (k + 1) := by
  obtain ⟨hk, rfl⟩ := List.getElem?_eq_some_iff.1 h
  exact List.drop_eq_getElem_cons hk
theorem take_getV {l : List Pr} {k : Nat} {x : Pr} (h : l[k]? = some x) : l.take (k + 1) = l.take k ++ [x] := by
  obtain ⟨hk, rfl⟩ := List.getElem?_eq_some_iff.1 h
  exact List.take_succ_eq_append_getElem hk

set_option maxRecDepth 100000 in
set_option maxHeartbeats 2000000 in
theorem rises_any (w : World) (a : Option Addr) (n c : Nat) (l : List Pr) (h : Prs w a n l) (hn : n ≤ 1000000) :
    Calls Try.prog 26 #[.slice a n c] w fun e w' => e = .returned (.bool (risF 0 l)) ∧ Below w.heap.size w w' := by
  go_enter Try.func26, Try.ntmps26
  go_wp2
  go_loopw [3, 8] (fun s i wr => ∃ k p : Nat, k ≤ n ∧ i = .int .i64 (k : Int) ∧ s = .int .u64 (p : Int) ∧ Hid (risF 0 l = risF p (l.drop k) ∧ Below w.heap.size w wr)) (fun _ i _ => n - (intOf i).toNat)
  case atStart => exact ⟨0, 0, Nat.zero_le _, rfl, rfl, rfl, Below.refl _ _⟩
  case round =>
    obtain ⟨k, p, hk, rfl, rfl, H⟩ := hrel
    by_cases hlt : k < n
    · obtain ⟨⟨x, y⟩, hx⟩ : ∃ x, l[k]? = some x := ⟨_, List.getElem?_eq_getElem (by rw [h.1]; exact hlt)⟩
      obtain ⟨b1, o1, rfl, hc1⟩ := h.2 (by omega)
      obtain ⟨t1, t2⟩ := hc1 k _ hx
      have q1 := (H.out.2.cell (p := ⟨b1, o1 + k * 2, none⟩) (World.block_lt_of_cell? w _ t1)).trans t1
      have q2 := (H.out.2.cell (p := ⟨b1, o1 + k * 2 + 1, none⟩) (World.block_lt_of_cell? w _ t2)).trans t2
      have i2 : (k : Int) < (n : Int) := by omega
      have HR : Hid (risF 0 l = (decide (p < x) && risF x (l.drop (k + 1)))) := by
        have e := H.out.1
        rw [drop_getV hx, risF] at e
        exact e
      have HB : Hid (Below w.heap.size w (wr.alloc (.cells #[.int .u64 (x : Int), .int .u64 (y : Int)] 47))) := H.out.2.alloc H.out.2.size _
      simp only at q1 q2
      clear hc1 t1 t2 hx h H
      by_cases hxp : p < x
      · have i3 : ¬ (x : Int) ≤ (p : Int) := by omega
        go_wp2
        go_roundw
        case rel => exact ⟨k + 1, x, by omega, by go_num, rfl, by rw [HR.out, decide_eq_true hxp, Bool.true_and], HB.out⟩
        case measure => simp [intOf]; omega
      · have i3 : (x : Int) ≤ (p : Int) := by omega
        go_wp2
        go_ret
        exact ⟨by rw [HR.out, decide_eq_false hxp, Bool.false_and]; rfl, HB.out⟩
    · obtain rfl : k = n := by omega
      have HR : Hid (risF 0 l = true) := by
        have e := H.out.1
        rw [List.drop_of_length_le (by rw [h.1]; exact Nat.le_refl _), risF] at e
        exact e
      go_wp2
      go_ret
      exact ⟨by rw [HR.out]; rfl, H.out.2⟩
end Go.Proofs.Ytgcbbnmjomhngaa
