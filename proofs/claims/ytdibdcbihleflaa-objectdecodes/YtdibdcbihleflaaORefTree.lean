/- The document's check of a tree. -/
import Derived.Test.YtdibdcbihleflaaOTree
import Derived.Deep.QuietTactic
import Derived.BigQuiet
namespace Go.Proofs.Ytdibdcbihleflaa
open Go.RowKit

attribute [local go_sem] Oper.semAt_some

theorem sle_none (nm : ByteArray) (h : (spot (bs nm)).1 = 0) : sle nm ⟨#[]⟩ = false := by
  have hne : nm.toList ≠ [] := by
    intro e
    rw [toList_bs] at e
    rw [e] at h
    exact absurd h (by decide)
  unfold sle
  have : (⟨#[]⟩ : ByteArray).toList = [] := by rw [toList_bs]; rfl
  rw [this]
  cases hn : nm.toList with
  | nil => exact absurd hn hne
  | cons x r => rfl

set_option maxRecDepth 100000 in
set_option maxHeartbeats 8000000 in
theorem refCheckTree_any (a : Option Addr) (n c : Nat) (l : List Ent) (w : World) (h : Ents w a n l) (hs : Short l) (hn : n ≤ 9223372036854775807) :
    Calls Try.prog 42 #[.slice a n c] w fun e w' => e = .returned (.int .i64 (treeErrs l)) ∧ Below w.heap.size w w' := by
  have hll := h.1
  have hlq := run_leq
  by_cases h256 : 256 < n
  · have i1 : (256 : Int) < n := by omega
    have e1 : treeErrs l = 3 := by unfold treeErrs; rw [if_pos (by omega)]
    go_enter Try.func42, Try.ntmps42
    go_wp2
    go_ret
    exact ⟨by rw [e1]; rfl, Below.refl _ _⟩
  · have i1 : ¬ (256 : Int) < n := by omega
    have e1 : treeErrs l = treeErr ⟨#[]⟩ l := by unfold treeErrs; rw [if_neg (by omega)]
    rw [e1]
    obtain ⟨E, hE⟩ : ∃ E, E = treeErr ⟨#[]⟩ l := ⟨_, rfl⟩
    rw [← hE]
    go_enter Try.func42, Try.ntmps42
    go_wp2
    go_loopw [11] (fun i wr => ∃ (k : Nat) (s : ByteArray), k ≤ n ∧ i = .int .i64 (k : Int) ∧ Hid (E = treeErr s (l.drop k) ∧ (k = 0 → s = ⟨#[]⟩) ∧ (∀ x, 0 < k → l[k - 1]? = some x → s = x.1) ∧ Below w.heap.size w wr)) (fun i _ => n - (intOf i).toNat)
    case atStart => exact ⟨0, _, Nat.zero_le _, rfl, hE, fun _ => rfl, fun _ h => by omega, Below.refl _ _⟩
    case round =>
      clear hE e1
      obtain ⟨k, s, hk, rfl, H⟩ := hrel
      by_cases hlt : k < n
      · obtain ⟨x, hx⟩ : ∃ x, l[k]? = some x := ⟨_, List.getElem?_eq_getElem (by omega)⟩
        obtain ⟨b1, o1, rfl, hc1⟩ := h.2 (by omega)
        obtain ⟨t1, t2, t3⟩ := hc1 k x hx
        have hBw := H.out.2.2.2
        have q1 := (hBw.cell (p := ⟨b1, o1 + k * 3, none⟩) (World.block_lt_of_cell? w _ t1)).trans t1
        have q2 := (hBw.cell (p := ⟨b1, o1 + k * 3 + 1, none⟩) (World.block_lt_of_cell? w _ t2)).trans t2
        have q3 := (hBw.cell (p := ⟨b1, o1 + k * 3 + 2, none⟩) (World.block_lt_of_cell? w _ t3)).trans t3
        have hd := treeErr_drop s l k x hx
        have hck := fun w => refSpot_any x.1 w (hs k x hx)
        have i2 : (k : Int) < (n : Int) := by omega
        have i3 : ¬ n ≤ k := by omega
        have HD : Hid (treeErr s (l.drop k) = if (spot (bs x.1)).1 ≠ 0 then ((spot (bs x.1)).1 : Int) else if sle x.1 s then 161 else if x.2.2 = 0 then 2 else treeErr x.1 (l.drop (k + 1))) := hd
        have HX : Hid (l[k]? = some x) := hx
        have HP : Hid (0 < k → ∀ W, Below w.heap.size w W → W.cell? ⟨b1, o1 + (k - 1) * 3, none⟩ = some (.string s)) := fun h0 W hW => by
          obtain ⟨y, hy⟩ : ∃ y, l[k - 1]? = some y := ⟨_, List.getElem?_eq_getElem (by omega)⟩
          rw [H.out.2.2.1 y h0 hy]
          obtain ⟨u1, _, _⟩ := hc1 (k - 1) y hy
          exact (hW.cell (p := ⟨b1, o1 + (k - 1) * 3, none⟩) (World.block_lt_of_cell? w _ u1)).trans u1
        have HZ : Hid ((spot (bs x.1)).1 = 0 → k = 0 → sle x.1 s = false) := fun h1 h2 => by rw [H.out.2.1 h2]; exact sle_none _ h1
        clear hc1 hx t1 t2 t3 hd h
        obtain ⟨nm, fo, id⟩ := x
        simp only at q1 q2 q3 hck HD HZ
        obtain ⟨se, sp⟩ : ∃ se, se = spot (bs nm) := ⟨_, rfl⟩
        rw [← sp] at hck HD HZ
        clear sp
        simp only [spotV] at hck
        obtain ⟨se1, se2⟩ := se
        simp only at hck HD HZ
        by_cases h1 : se1 = 0
        · subst h1
          rw [if_neg (by simp)] at HD
          simp only [show ((0 : Nat) : Int) = 0 from rfl] at hck
          go_wp2_with (go_at_call 64; refine (hck _).mono ?_; clear hck; rintro e w2 ⟨rfl, hB2⟩; have hs2 := hB2.size; obtain ⟨c0, c1, c2⟩ := ((Box3.new wr (.string nm) (.bool fo) (.int .u64 id)).below (hB2.alloc hB2.size (.cells #[.int .i64 0, .int .i64 (se2 : Int)] 99)) (by simp)).cell; have HB : Hid (Below w.heap.size w (w2.alloc (.cells #[.int .i64 0, .int .i64 (se2 : Int)] 99))) := ((hBw.alloc hBw.size _).trans (hB2.mono (by simp; have := hBw.size; omega))).alloc (by have := hBw.size; have := hB2.size; simp at this; omega) _; clear hB2)
          clear q1 q2 q3
          cases k with
          | zero =>
            have h2 := HZ.out trivial rfl
            rw [if_neg (by rw [h2]; simp)] at HD
            simp only [show ((0 : Nat) : Int) = 0 from rfl] at i2 ⊢
            go_quiet (fail)
            by_cases h3 : id = 0
            · rw [if_pos h3] at HD
              subst h3
              have HE : Hid (E = 2) := H.out.1.trans HD.out
              clear HD
              go_wp2_with fail
              go_ret
              exact ⟨by rw [HE.out]; rfl, below_drewN HB.out _⟩
            · rw [if_neg h3] at HD
              have h3' : (id == 0) = false := beq_eq_false_iff_ne.2 h3
              have HE : Hid (E = treeErr nm (l.drop 1)) := H.out.1.trans HD.out
              clear HD
              go_wp2_with fail
              go_roundw
              case rel => exact ⟨1, nm, by omega, by simp, HE.out, fun h => by omega, fun x _ hx => by have := HX.out; rw [hx] at this; cases this; rfl, below_drewN HB.out _⟩
              case measure => simp [intOf]; omega
          | succ j =>
            have cp := HP.out (by omega) _ HB.out
            simp only [Nat.add_sub_cancel] at cp
            have hq := run_leq nm s
            clear hlq
            by_cases h2 : sle nm s = true
            · rw [if_pos h2] at HD
              rw [h2] at hq
              clear h2
              go_quiet (fail)
              have HE : Hid (E = 161) := H.out.1.trans HD.out
              clear HD
              go_wp2_with fail
              go_ret
              exact ⟨by rw [HE.out]; rfl, below_drewN HB.out _⟩
            · rw [if_neg h2] at HD
              rw [show sle nm s = false by simpa using h2] at hq
              clear h2
              go_quiet (fail)
              by_cases h3 : id = 0
              · rw [if_pos h3] at HD
                subst h3
                have HE : Hid (E = 2) := H.out.1.trans HD.out
                clear HD
                go_wp2_with fail
                go_ret
                exact ⟨by rw [HE.out]; rfl, below_drewN HB.out _⟩
              · rw [if_neg h3] at HD
                have h3' : (id == 0) = false := beq_eq_false_iff_ne.2 h3
                have HE : Hid (E = treeErr nm (l.drop (j + 1 + 1))) := H.out.1.trans HD.out
                clear HD
                go_wp2_with fail
                go_roundw
                case rel => exact ⟨j + 1 + 1, nm, by omega, by simp, HE.out, fun h => by omega, fun x _ hx => by have := HX.out; rw [Nat.add_sub_cancel] at hx; rw [hx] at this; cases this; rfl, below_drewN HB.out _⟩
                case measure => simp [intOf]; omega
        · rw [if_pos h1] at HD
          have h1' : ((se1 : Int) == 0) = false := beq_eq_false_iff_ne.2 (by omega)
          have HE : Hid (E = (se1 : Int)) := H.out.1.trans HD.out
          clear HD
          go_wp2_with (go_at_call 64; refine (hck _).mono ?_; clear hck; rintro e w2 ⟨rfl, hB2⟩; have hs2 := hB2.size; obtain ⟨c0, c1, c2⟩ := ((Box3.new wr (.string nm) (.bool fo) (.int .u64 id)).below (hB2.alloc hB2.size (.cells #[.int .i64 (se1 : Int), .int .i64 (se2 : Int)] 99)) (by simp)).cell; have HB : Hid (Below w.heap.size w (w2.alloc (.cells #[.int .i64 (se1 : Int), .int .i64 (se2 : Int)] 99))) := ((hBw.alloc hBw.size _).trans (hB2.mono (by simp; have := hBw.size; omega))).alloc (by have := hBw.size; have := hB2.size; simp at this; omega) _; clear hB2)
          go_ret
          exact ⟨by rw [HE.out]; rfl, HB.out⟩
      · obtain rfl : k = n := by omega
        have i2 : ¬ (k : Int) < (k : Int) := by omega
        have e0 : E = 0 := by rw [H.out.1, ← hll]; exact treeErr_end _ _
        subst e0
        go_wp2
        go_ret
        exact ⟨rfl, H.out.2.2.2⟩
end Go.Proofs.Ytdibdcbihleflaa
