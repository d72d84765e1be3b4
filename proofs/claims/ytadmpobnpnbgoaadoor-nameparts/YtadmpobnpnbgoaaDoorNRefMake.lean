/- The walk of the document's Make. -/
import Derived.Test.YtadmpobnpnbgoaaDoorNRefSpot
import Derived.Test.YtadmpobnpnbgoaaDoorNMake
namespace Go.Proofs.YtadmpobnpnbgoaaDoor
open Go.RowKit Go.Shelf

set_option maxRecDepth 20000 in
set_option maxHeartbeats 4000000 in
theorem refMake_any (w : World) (a : Option Addr) (n c : Nat) (l : List ByteArray) (h : Strs w a n l) (hl : ∀ x ∈ l, x.size ≤ maxLen) (hc : n ≤ c) (hn : n ≤ 1000) :
    Calls Tryd.prog 22 #[.slice a n c] w fun e w' => e = .returned (.tuple #[.string (mk (makeP (l.map bs)).1), .int .i64 ((makeP (l.map bs)).2 : Int)]) ∧ Below w.heap.size w w' := by
  have H0 : Hid (Strs w a n l) := h
  go_enter Tryd.func22, Tryd.ntmps22
  go_wp2
  go_loopw [10] (fun i wr => ∃ k : Nat, k ≤ n ∧ i = .int .i64 k ∧ Hid (Below w.heap.size w wr ∧ firstN (l.map bs) = firstN ((l.drop k).map bs))) (fun i _ => n - (intOf i).toNat)
  case atStart => exact ⟨0, Nat.zero_le _, rfl, Below.refl _ _, rfl⟩
  case round =>
    obtain ⟨k, hk, rfl, H⟩ := hrel
    by_cases hlt : k < n
    · obtain ⟨b, off, rfl, hcl⟩ := h.2 (by omega)
      obtain ⟨x, hx⟩ : ∃ x, l[k]? = some x := ⟨_, List.getElem?_eq_getElem (by rw [h.1]; exact hlt)⟩
      have hc0 := hcl k x hx
      have hcr : wr.cell? ⟨b, off + k, none⟩ = some (.string x) := (H.out.1.cell (p := ⟨b, off + k, none⟩) (World.block_lt_of_cell? w _ hc0)).trans hc0
      have hp := refSpot_any x wr (hl x (List.mem_of_getElem? hx))
      have HX : Hid (l[k]? = some x) := hx
      obtain ⟨e1, h1⟩ : ∃ e1, e1 = (spot (bs x)).1 := ⟨_, rfl⟩
      obtain ⟨e2, h2⟩ : ∃ e2, e2 = (spot (bs x)).2 := ⟨_, rfl⟩
      simp only [spotV] at hp
      rw [← h1, ← h2] at hp
      have H1 : Hid (e1 = (spot (bs x)).1) := h1
      have i1 : (k : Int) < (n : Int) := by omega
      have i2 : ¬ n ≤ k := by omega
      clear h1 h2 hcl hc0 h hx hl H0
      by_cases h0 : e1 = 0
      · subst h0
        have HI : Hid (okName (bs x) = true) := by show _ = _; unfold okName; rw [← H1.out]; rfl
        have HN : Hid (firstN (l.map bs) = firstN ((l.drop (k + 1)).map bs)) := by
          show _ = _
          rw [H.out.2, firstN_drop l k x HX.out, if_pos HI.out]
        go_wp2_with (go_at_call 11; refine hp.mono ?_; clear hp; rintro e w1 ⟨rfl, hB1⟩; obtain ⟨q0, q1⟩ := box2_at w1 (.int .i64 0) (.int .i64 (e2 : Int)))
        go_roundw
        case rel => exact ⟨k + 1, by omega, by simp, (H.out.1.trans (hB1.mono H.out.1.size)).alloc (by have := H.out.1.size; have := hB1.size; omega) _, HN.out⟩
        case measure => simp [intOf]; omega
      · have j0 : ¬ (e1 : Int) = 0 := by omega
        have HI : Hid (okName (bs x) = false) := by show _ = _; unfold okName; rw [← H1.out]; simpa using h0
        have HN : Hid (makeP (l.map bs) = ([], e1)) := by
          show _ = _
          have hf : firstN (l.map bs) = e1 := by rw [H.out.2, firstN_drop l k x HX.out, HI.out, H1.out]; rfl
          unfold makeP
          rw [hf, if_pos h0]
        go_wp2_with (go_at_call 11; refine hp.mono ?_; clear hp; rintro e w1 ⟨rfl, hB1⟩; obtain ⟨q0, q1⟩ := box2_at w1 (.int .i64 (e1 : Int)) (.int .i64 (e2 : Int)))
        go_quiet (fail)
        go_wp2_with fail
        go_ret2
        rw [HN.out]
        exact ⟨rfl, below_drewN ((H.out.1.trans (hB1.mono H.out.1.size)).alloc (by have := H.out.1.size; have := hB1.size; omega) _) _⟩
    · obtain rfl : k = n := by omega
      have hF : firstN (l.map bs) = 0 := by
        rw [H.out.2, List.drop_eq_nil_of_le (by rw [h.1]; exact Nat.le_refl _)]; rfl
      have hG := firstN_zero _ hF
      have hgs := glue_small _ hG
      rw [List.length_map, h.1] at hgs
      have hm : makeP (l.map bs) = if 16 < k ∨ 200 < (glue (l.map bs)).length then ([], 3) else (glue (l.map bs), 0) := by
        unfold makeP
        rw [hF, List.length_map, h.1]; rfl
      have HS : Hid (Strs wr a k l) := by
        refine ⟨h.1, fun h0 => ?_⟩
        obtain ⟨b, off, e, hcl⟩ := h.2 h0
        exact ⟨b, off, e, fun j x hx => (H.out.1.cell (p := ⟨b, off + j, none⟩) (World.block_lt_of_cell? w _ (hcl j x hx))).trans (hcl j x hx)⟩
      clear h hl hF hG H0
      have hj := join_any' wr a k c l HS.out hc (by omega) (by omega)
      have hsz : (mk (glue (l.map bs))).size = (glue (l.map bs)).length := by rw [← bs_len, bs_mk]
      have HM : Hid (makeP (l.map bs) = if 16 < k ∨ 200 < (mk (glue (l.map bs))).size then ([], 3) else (bs (mk (glue (l.map bs))), 0)) := by
        show _ = _
        rw [hm, hsz, bs_mk]
      clear hm
      generalize mk (glue (l.map bs)) = P at hj HM hsz
      have hPs : P.size ≤ 1000000 := by omega
      by_cases h16 : 16 < k
      · have i16 : (16 : Int) < k := by omega
        have HM' : Hid (makeP (l.map bs) = ([], 3)) := by show _ = _; rw [HM.out, if_pos (.inl h16)]
        clear HM
        go_wp2_with (go_at_call 43; refine hj.mono ?_; clear hj; rintro e w1 ⟨rfl, hB1⟩)
        go_ret2
        rw [HM'.out]
        exact ⟨rfl, H.out.1.trans (hB1.mono H.out.1.size)⟩
      · have i16 : ¬ (16 : Int) < k := by omega
        by_cases h2 : 200 < P.size
        · have i2 : (200 : Int) < P.size := by omega
          have HM' : Hid (makeP (l.map bs) = ([], 3)) := by show _ = _; rw [HM.out, if_pos (.inr h2)]
          clear HM
          go_wp2_with (go_at_call 43; refine hj.mono ?_; clear hj; rintro e w1 ⟨rfl, hB1⟩)
          go_ret2
          rw [HM'.out]
          exact ⟨rfl, H.out.1.trans (hB1.mono H.out.1.size)⟩
        · have i2 : ¬ (200 : Int) < P.size := by omega
          have HM' : Hid (makeP (l.map bs) = (bs P, 0)) := by show _ = _; rw [HM.out, if_neg (by omega)]
          clear HM
          go_wp2_with (go_at_call 43; refine hj.mono ?_; clear hj; rintro e w1 ⟨rfl, hB1⟩)
          go_ret2
          rw [HM'.out]
          simp only
          rw [mk_bs]
          exact ⟨rfl, H.out.1.trans (hB1.mono H.out.1.size)⟩
end Go.Proofs.YtadmpobnpnbgoaaDoor
