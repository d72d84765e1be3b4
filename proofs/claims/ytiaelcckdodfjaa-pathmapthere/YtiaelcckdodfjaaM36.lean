import Derived.Test.YtiaelcckdodfjaaM32
import Derived.Test.YtiaelcckdodfjaaM35
/- The walk of Compare, with how much was drawn; Compare as a sort takes it (gend.py, out of NRest and NCmp). -/
namespace Go.Proofs.Ytiaelcckdodfjaa
open Go.RowKit Go.Shelf Go.Lib

attribute [local go_sem] Oper.semAt_some

theorem lod_drewN {B : Nat} {w w' : World} (h : LoD B w w') (n : Nat) : LoD B w (w'.drewN n) := ⟨below_drewN h.toBelow n, Nat.le_trans h.d (Nat.le_add_right _ _)⟩
theorem disPath_any (s : ByteArray) (w : World) (hs : s.size ≤ maxLen) :
    Calls Try.prog 58 #[.string s] w fun e w' => e = .returned (.bool (isP (bs s))) ∧ LoD w.heap.size w w' := by
  have hp := dpath_any s w hs
  obtain ⟨e1, h1⟩ : ∃ e1, e1 = (pathSpot (bs s)).1 := ⟨_, rfl⟩
  obtain ⟨e2, h2⟩ : ∃ e2, e2 = (pathSpot (bs s)).2 := ⟨_, rfl⟩
  simp only [spotV] at hp
  rw [← h1, ← h2] at hp
  have H : Hid (((e1 : Int) == 0) = isP (bs s)) := by
    show _ = _
    unfold isP
    rw [← h1, Bool.eq_iff_iff, beq_iff_eq, beq_iff_eq]; omega
  clear h1 h2
  have hfd := fun w => field0 (.int .i64 (e1 : Int)) (.int .i64 (e2 : Int)) w
  go_enter Try.func58, Try.ntmps58
  go_wp2_with (go_at_call 13; refine hp.mono ?_; rintro e w' ⟨rfl, hB⟩)
  go_ret
  exact ⟨by rw [← H.out]; rfl, hB⟩

set_option maxHeartbeats 2000000 in
theorem dcomparePaths_any (a b : ByteArray) (w : World) (hsa : a.size ≤ 1000000) (hsb : b.size ≤ 1000000) (ha : ∀ c ∈ bs a, 32 ≤ c.toNat) (hb : ∀ c ∈ bs b, 32 ≤ c.toNat) :
    Calls Try.prog 71 #[.string a, .string b] w fun e w' => e = .returned (.int .i64 (cmpW (bs a) (bs b))) ∧ LoD w.heap.size w w' := by
  have HA : Hid ((∀ c ∈ bs a, 32 ≤ c.toNat) ∧ ∀ c ∈ bs b, 32 ≤ c.toNat) := ⟨ha, hb⟩
  clear ha hb
  by_cases hab : b.size < a.size
  · have iab : (b.size : Int) < a.size := by omega
    go_enter Try.func71, Try.ntmps71
    go_wp2
    go_loopw [11] (fun i wr => ∃ k : Nat, k ≤ b.size ∧ i = .int .i64 k ∧ Hid (LoD w.heap.size w wr ∧ (bs a).take k = (bs b).take k)) (fun i _ => b.size - (intOf i).toNat)
    case atStart => exact ⟨0, Nat.zero_le _, rfl, LoD.refl _ _, rfl⟩
    case round =>
      obtain ⟨k, hk, rfl, H⟩ := hrel
      by_cases hlt : k < b.size
      · have i1 : (k : Int) < (b.size : Int) := by omega
        have ka : k < a.size := by omega
        have kb : k < b.size := by omega
        have i2 : (k : Int) < a.size := by omega
        have i3 : (k : Int) < b.size := by omega
        by_cases he : a[k] = b[k]
        · have HT : Hid ((bs a).take (k + 1) = (bs b).take (k + 1)) := by
            show _ = _
            rw [List.take_add_one, List.take_add_one, H.out.2, bs_get a k ka, bs_get b k kb, he]
          go_wp2_with fail
          go_quiet (fail)
          go_wp2_with fail
          go_roundw
          case rel => exact ⟨k + 1, by omega, by simp, lod_drewN H.out.1 _, HT.out⟩
          case measure => simp [intOf]; omega
        · have j1 : ¬ (a[k].toNat : Int) = (b[k].toNat : Int) := fun e => he (UInt8.toNat_inj.1 (by omega))
          have HC : Hid (cmpW (bs a) (bs b) = cmpI ((wt a[k]).toNat : Int) ((wt b[k]).toNat : Int)) := by
            show _ = _
            have l1 : k < (bs a).length := by rw [bs_len]; exact ka
            have l2 : k < (bs b).length := by rw [bs_len]; exact kb
            exact cmpW_at (bs a) (bs b) k l1 l2 H.out.2 he HA.out.1 HA.out.2
          go_wp2_with fail
          go_quiet (fail)
          go_wp2_with fail
          go_region_held3 (fun _ => True)
            (trivial)
            (first
              | (go_at_call 80; refine (weight_any _ _).mono ?_; rintro e w' ⟨rfl, rfl⟩)
              | (go_at_call 79; refine (cmp_byte _ _ _).mono ?_; rintro e w' ⟨rfl, rfl⟩))
          all_goals go_wp2_with fail
          all_goals go_ret
          all_goals exact ⟨by rw [HC.out]; rfl, lod_drewN H.out.1 _⟩
      · obtain rfl : k = b.size := by omega
        have HC : Hid (cmpW (bs a) (bs b) = cmpI (a.size : Int) (b.size : Int)) := by
          show _ = _
          rw [← bs_len a, ← bs_len b]
          exact cmpW_end _ _ b.size (by rw [bs_len, bs_len]; omega) H.out.2
        go_wp2_with (go_at_call 81; refine (cmp_int _ _ _).mono ?_; rintro e w' ⟨rfl, rfl⟩)
        go_ret
        exact ⟨by rw [HC.out]; rfl, H.out.1⟩
  · have iab : ¬ (b.size : Int) < a.size := by omega
    go_enter Try.func71, Try.ntmps71
    go_wp2
    go_loopw [11] (fun i wr => ∃ k : Nat, k ≤ a.size ∧ i = .int .i64 k ∧ Hid (LoD w.heap.size w wr ∧ (bs a).take k = (bs b).take k)) (fun i _ => a.size - (intOf i).toNat)
    case atStart => exact ⟨0, Nat.zero_le _, rfl, LoD.refl _ _, rfl⟩
    case round =>
      obtain ⟨k, hk, rfl, H⟩ := hrel
      by_cases hlt : k < a.size
      · have i1 : (k : Int) < (a.size : Int) := by omega
        have ka : k < a.size := by omega
        have kb : k < b.size := by omega
        have i2 : (k : Int) < a.size := by omega
        have i3 : (k : Int) < b.size := by omega
        by_cases he : a[k] = b[k]
        · have HT : Hid ((bs a).take (k + 1) = (bs b).take (k + 1)) := by
            show _ = _
            rw [List.take_add_one, List.take_add_one, H.out.2, bs_get a k ka, bs_get b k kb, he]
          go_wp2_with fail
          go_quiet (fail)
          go_wp2_with fail
          go_roundw
          case rel => exact ⟨k + 1, by omega, by simp, lod_drewN H.out.1 _, HT.out⟩
          case measure => simp [intOf]; omega
        · have j1 : ¬ (a[k].toNat : Int) = (b[k].toNat : Int) := fun e => he (UInt8.toNat_inj.1 (by omega))
          have HC : Hid (cmpW (bs a) (bs b) = cmpI ((wt a[k]).toNat : Int) ((wt b[k]).toNat : Int)) := by
            show _ = _
            have l1 : k < (bs a).length := by rw [bs_len]; exact ka
            have l2 : k < (bs b).length := by rw [bs_len]; exact kb
            exact cmpW_at (bs a) (bs b) k l1 l2 H.out.2 he HA.out.1 HA.out.2
          go_wp2_with fail
          go_quiet (fail)
          go_wp2_with fail
          go_region_held3 (fun _ => True)
            (trivial)
            (first
              | (go_at_call 80; refine (weight_any _ _).mono ?_; rintro e w' ⟨rfl, rfl⟩)
              | (go_at_call 79; refine (cmp_byte _ _ _).mono ?_; rintro e w' ⟨rfl, rfl⟩))
          all_goals go_wp2_with fail
          all_goals go_ret
          all_goals exact ⟨by rw [HC.out]; rfl, lod_drewN H.out.1 _⟩
      · obtain rfl : k = a.size := by omega
        have HC : Hid (cmpW (bs a) (bs b) = cmpI (a.size : Int) (b.size : Int)) := by
          show _ = _
          rw [← bs_len a, ← bs_len b]
          exact cmpW_end _ _ a.size (by rw [bs_len, bs_len]; omega) H.out.2
        go_wp2_with (go_at_call 81; refine (cmp_int _ _ _).mono ?_; rintro e w' ⟨rfl, rfl⟩)
        go_ret
        exact ⟨by rw [HC.out]; rfl, H.out.1⟩

theorem dCompare_any (a b : ByteArray) (w : World) (hsa : a.size ≤ 1000000) (hsb : b.size ≤ 1000000) :
    Calls Try.prog 54 #[.string a, .string b] w fun e w' => e = .returned (.int .i64 (ordP (bs a) (bs b))) ∧ LoD w.heap.size w w' := by
  have hx := disPath_any a w (by unfold maxLen; omega)
  have hy := fun w => disPath_any b w (by unfold maxLen; omega)
  have hcs := fun w => cmp_str a b w
  have hcp := fun w h1 h2 => dcomparePaths_any a b w hsa hsb h1 h2
  unfold ordP
  cases h1 : isP (bs a) with
  | false =>
    rw [h1] at hx
    cases h2 : isP (bs b) with
    | false =>
      rw [h2] at hy
      generalize compareBytes (bs a) (bs b) = r at hcs ⊢
      go_enter Try.func54, Try.ntmps54
      go_wp2_with first
        | (go_at_call 58; refine hx.mono ?_; clear hx; rintro e w1 ⟨rfl, hB1⟩; replace hy := hy w1)
        | (go_at_call 58; refine hy.mono ?_; clear hy; rintro e w2 ⟨rfl, hB2⟩)
        | (go_at_call 72; refine (hcs _).mono ?_; rintro e w3 ⟨rfl, rfl⟩)
      go_ret
      exact ⟨rfl, hB1.trans (hB2.mono hB1.size)⟩
    | true =>
      rw [h2] at hy
      go_enter Try.func54, Try.ntmps54
      go_wp2_with first
        | (go_at_call 58; refine hx.mono ?_; clear hx; rintro e w1 ⟨rfl, hB1⟩; replace hy := hy w1)
        | (go_at_call 58; refine hy.mono ?_; clear hy; rintro e w2 ⟨rfl, hB2⟩)
      go_ret
      exact ⟨rfl, hB1.trans (hB2.mono hB1.size)⟩
  | true =>
    rw [h1] at hx
    cases h2 : isP (bs b) with
    | false =>
      rw [h2] at hy
      go_enter Try.func54, Try.ntmps54
      go_wp2_with first
        | (go_at_call 58; refine hx.mono ?_; clear hx; rintro e w1 ⟨rfl, hB1⟩; replace hy := hy w1)
        | (go_at_call 58; refine hy.mono ?_; clear hy; rintro e w2 ⟨rfl, hB2⟩)
      go_ret
      exact ⟨rfl, hB1.trans (hB2.mono hB1.size)⟩
    | true =>
      rw [h2] at hy
      have hcq := fun w => hcp w (isP_bytes _ h1) (isP_bytes _ h2)
      clear hcp
      generalize cmpW (bs a) (bs b) = r at hcq ⊢
      go_enter Try.func54, Try.ntmps54
      go_wp2_with first
        | (go_at_call 58; refine hx.mono ?_; clear hx; rintro e w1 ⟨rfl, hB1⟩; replace hy := hy w1)
        | (go_at_call 58; refine hy.mono ?_; clear hy; rintro e w2 ⟨rfl, hB2⟩)
        | (go_at_call 71; refine (hcq _).mono ?_; rintro e w3 ⟨rfl, hB3⟩)
      go_ret
      have h3 := hB1.trans (hB2.mono hB1.size)
      exact ⟨rfl, h3.trans (hB3.mono h3.size)⟩
end Go.Proofs.Ytiaelcckdodfjaa
