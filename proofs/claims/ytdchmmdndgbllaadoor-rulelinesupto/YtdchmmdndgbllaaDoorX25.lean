import Derived.Test.YtdchmmdndgbllaaDoorX13
/- The walk of the document's Spot. -/
namespace Go.Proofs.YtdchmmdndgbllaaDoor
open Go.RowKit

theorem rspot_new {w : World} {s : ByteArray} (a b : Int) (h : spotV (spot (bs s)) = .agg #[.int .i64 a, .int .i64 b]) {x : Act} (ha : x.tmps[2]?.getD undef = .pointer (some ⟨w.heap.size, 0, none⟩)) (hd : x.defers = []) :
    bodyPost Tryd.prog Tryd.f70 (fun e w' => e = Ending.returned (spotV (spot (bs s))) ∧ Below w.heap.size w w') Exit.ret x (w.alloc (.cells #[.int .i64 a, .int .i64 b] 35)) :=
  spot_ret (k := 2) rfl (Box2.new _ _ _) ha hd ⟨by rw [h], (Below.refl _ w).alloc (Nat.le_refl _) _⟩

set_option maxRecDepth 20000 in
set_option maxHeartbeats 4000000 in
theorem refSpot_any (s : ByteArray) (w : World) (hs : s.size ≤ maxLen) :
    Calls Tryd.prog 70 #[.string s] w fun e w' => e = .returned (spotV (spot (bs s))) ∧ Below w.heap.size w w' := by
  have hs' : s.size ≤ 9223372036854775807 := by unfold maxLen at hs; omega
  by_cases h1 : s.toList = []
  · go_enter Tryd.func70, Tryd.ntmps70
    go_wp2
    exact rspot_new _ _ (by rw [toList_bs] at h1; rw [h1]; rfl) rfl rfl
  · by_cases h2 : s.toList = [46]
    · go_enter Tryd.func70, Tryd.ntmps70
      go_wp2
      exact rspot_new _ _ (by rw [toList_bs] at h2; rw [h2]; rfl) rfl rfl
    · by_cases h3 : s.toList = [46, 46]
      · go_enter Tryd.func70, Tryd.ntmps70
        go_wp2
        exact rspot_new _ _ (by rw [toList_bs] at h3; rw [h3]; rfl) rfl rfl
      · have h0 : ¬ (bs s = [] ∨ bs s = [46] ∨ bs s = [46, 46]) := by rw [← toList_bs]; simp [h1, h2, h3]
        have b1 : s.toList.isEmpty = false := by simpa using h1
        have b2 : (s.toList == [46]) = false := by simpa using h2
        have b3 : (s.toList == [46, 46]) = false := by simpa using h3
        by_cases h4 : 32 < s.size
        · have i4 : (32 : Int) < s.size := by omega
          go_enter Tryd.func70, Tryd.ntmps70
          go_wp2
          exact rspot_new _ _ (by unfold spot; rw [if_neg h0, if_pos (show 32 < (bs s).length by rw [bs_len]; exact h4)]; rfl) rfl rfl
        · have i4 : ¬ (32 : Int) < s.size := by omega
          have HS : Hid (spot (bs s) = match badAt (bs s) with | some k => (140, k) | none => (0, 0)) := by
            show _ = _
            unfold spot; rw [if_neg h0, if_neg (show ¬ 32 < (bs s).length by rw [bs_len]; exact h4)]; cases badAt (bs s) <;> rfl
          clear h0
          go_enter Tryd.func70, Tryd.ntmps70
          go_wp2
          go_loopw [] (fun wr => ∃ p : Nat, p ≤ s.size ∧ wr = (w.alloc (.cells #[.int .i64 0, .int .i64 0] 35)).iter s p ∧ Hid (badAt (bs s) = (badAt ((bs s).drop p)).map (· + p))) (fun wr => s.size - wr.iterPos (w.heap.size + 1))
          case atStart => exact ⟨0, Nat.zero_le _, rfl, by simp [Hid]⟩
          case round =>
            obtain ⟨p, hp, rfl, H⟩ := hrel
            by_cases hlt : p < s.size
            · obtain ⟨r, hr⟩ : ∃ r, r = (dec ((bs s).drop p)).1 := ⟨_, rfl⟩
              obtain ⟨d, hd⟩ : ∃ d, d = (dec ((bs s).drop p)).2 := ⟨_, rfl⟩
              have hne : (bs s).drop p ≠ [] := fun e => by
                have := congrArg List.length e
                rw [List.length_drop, bs_len] at this; simp at this; omega
              have hd1 : 1 ≤ d := by rw [hd]; exact dec_pos _
              have hd2 : p + d ≤ s.size := by
                have := dec_le _ hne
                rw [← hd, List.length_drop, bs_len] at this; omega
              have hdec : Utf8.decode s p = (r, d) := by rw [decode_dec, hr, hd]; rfl
              have hrle : r ≤ 2147483647 := by have := decode_le s p; rw [hdec] at this; exact this
              have hnx := run_next_any (P := Tryd.prog) (w.alloc (.cells #[.int .i64 0, .int .i64 0] 35)) s p (h := hlt)
              rw [hdec] at hnx
              obtain ⟨W1, hW1⟩ : ∃ W1, W1 = (w.alloc (.cells #[.int .i64 0, .int .i64 0] 35)).iter s p := ⟨_, rfl⟩
              obtain ⟨W2, hW2⟩ : ∃ W2, W2 = (w.alloc (.cells #[.int .i64 0, .int .i64 0] 35)).iter s (p + d) := ⟨_, rfl⟩
              have hbox : Box2 W2 w.heap.size (.int .i64 0) (.int .i64 0) := by
                rw [hW2]; exact (Box2.new w _ _).kept ((Below.refl _ _).alloc (Nat.le_refl _) _)
              have HB2 : Hid (Below w.heap.size w W2) := by
                rw [hW2]; exact ((Below.refl _ w).alloc (Nat.le_refl _) _).alloc (by simp) _
              have HBox : Hid (Box2 W2 w.heap.size (.int .i64 0) (.int .i64 0)) := hbox
              have HW2 : Hid (W2 = (w.alloc (.cells #[.int .i64 0, .int .i64 0] 35)).iter s (p + d)) := hW2
              have hm1 : Hid (s.size - W2.iterPos (w.heap.size + 1) < s.size - W1.iterPos (w.heap.size + 1)) := by
                have e1 := World.iterPos_iter (w.alloc (.cells #[.int .i64 0, .int .i64 0] 35)) s p
                have e2 := World.iterPos_iter (w.alloc (.cells #[.int .i64 0, .int .i64 0] 35)) s (p + d)
                rw [← hW1, World.size_alloc] at e1
                rw [← hW2, World.size_alloc] at e2
                show _ < _
                rw [e1, e2]; omega
              rw [← hW1, ← hW2, World.size_alloc] at hnx
              rw [← hW1]
              obtain ⟨c0, c1⟩ := hbox.cell
              obtain ⟨f0, f1⟩ := hbox.frozen
              have HBd : Hid (bad ((bs s).drop p) = (decide (r < 32) || decide (r = 127) || decide (r = 47) || (decide (r = 65533) && !(pre fffd (bs (s.extract p s.size)))))) := by
                show _ = _
                rw [bs_extract, show (bs s).take s.size = bs s by rw [← bs_len]; exact List.take_length]
                simp only [bad, ← hr]
                rfl
              have HEnd : Hid (bad ((bs s).drop p) = true → ∀ a : Act, a.tmps[2]?.getD undef = .pointer (some ⟨w.heap.size, 0, none⟩) → a.defers = [] → bodyPost Tryd.prog Tryd.f70 (fun e w' => e = Ending.returned (spotV (spot (bs s))) ∧ Below w.heap.size w w') Exit.ret a ((W2.setCell ⟨w.heap.size, 0, none⟩ (.int .i64 140)).setCell ⟨w.heap.size, 1, none⟩ (.int .i64 (p : Int)))) := fun hb a ha hd =>
                spot_ret (k := 2) rfl (HBox.out.all _ _) ha hd ⟨by rw [HS.out, H.out, badAt_bad _ hne hb]; simp [spotV], (HB2.out.setCell (p := ⟨w.heap.size, 0, none⟩) (Nat.le_refl _) _).setCell (p := ⟨w.heap.size, 1, none⟩) (Nat.le_refl _) _⟩
              have HNext : Hid (bad ((bs s).drop p) = false → ∃ p', p' ≤ s.size ∧ W2 = (w.alloc (.cells #[.int .i64 0, .int .i64 0] 35)).iter s p' ∧ Hid (badAt (bs s) = (badAt ((bs s).drop p')).map (· + p'))) := fun hb => ⟨p + d, hd2, HW2.out, by
                show _ = _
                rw [H.out, badAt_go _ hne hb, ← hd, List.drop_drop, Option.map_map]
                congr 1
                funext x; simp; omega⟩
              have i3 : (p : Int) ≤ s.size := by omega
              clear hne hd hr hdec hW1 hW2 hbox HS H HW2 HBox
              by_cases h65 : r = 65533
              · subst h65
                simp only [show ((65533 : Nat) : Int) = 65533 from rfl] at hnx
                have hx := fun w => has_prefix (s.extract p s.size) ⟨#[239, 191, 189]⟩ w (by simp; omega) (by decide)
                rw [show bs ⟨#[239, 191, 189]⟩ = fffd from rfl] at hx
                cases hfp : pre fffd (bs (s.extract p s.size)) with
                | false =>
                  rw [hfp] at hx
                  have HX : Hid (bad ((bs s).drop p) = true) := by show _ = _; rw [HBd.out, hfp]; rfl
                  clear HBd HNext hfp
                  go_wp2_with (go_at_call 79; refine (hx _).mono ?_; rintro e w' ⟨rfl, rfl⟩)
                  exact HEnd.out HX.out _ rfl rfl
                | true =>
                  rw [hfp] at hx
                  have HX : Hid (bad ((bs s).drop p) = false) := by show _ = _; rw [HBd.out, hfp]; rfl
                  clear HBd HEnd hfp
                  go_wp2_with (go_at_call 79; refine (hx _).mono ?_; rintro e w' ⟨rfl, rfl⟩)
                  go_roundw
                  case rel => exact HNext.out HX.out
                  case measure => exact hm1.out
              · have i65 : ¬ (r : Int) = 65533 := by omega
                have c65 : ((r : Int) == 65533) = false := beq_eq_false_iff_ne.2 i65
                by_cases h32 : r < 32
                · have i32 : (r : Int) < 32 := by omega
                  have HX : Hid (bad ((bs s).drop p) = true) := by show _ = _; rw [HBd.out]; simp [h32]
                  clear HBd HNext
                  go_wp2
                  exact HEnd.out HX.out _ rfl rfl
                · have i32 : ¬ (r : Int) < 32 := by omega
                  by_cases h127 : r = 127
                  · subst h127
                    simp only [show ((127 : Nat) : Int) = 127 from rfl] at hnx
                    have HX : Hid (bad ((bs s).drop p) = true) := by show _ = _; rw [HBd.out]; simp
                    clear HBd HNext
                    go_wp2
                    exact HEnd.out HX.out _ rfl rfl
                  · have i127 : ¬ (r : Int) = 127 := by omega
                    have c127 : ((r : Int) == 127) = false := beq_eq_false_iff_ne.2 i127
                    by_cases h47 : r = 47
                    · subst h47
                      simp only [show ((47 : Nat) : Int) = 47 from rfl] at hnx
                      have HX : Hid (bad ((bs s).drop p) = true) := by show _ = _; rw [HBd.out]; simp
                      clear HBd HNext
                      go_wp2
                      exact HEnd.out HX.out _ rfl rfl
                    · have i47 : ¬ (r : Int) = 47 := by omega
                      have c47 : ((r : Int) == 47) = false := beq_eq_false_iff_ne.2 i47
                      have HX : Hid (bad ((bs s).drop p) = false) := by show _ = _; rw [HBd.out]; simp [h65, h127, h47]; omega
                      clear HBd HEnd
                      go_wp2
                      go_roundw
                      case rel => exact HNext.out HX.out
                      case measure => exact hm1.out
            · obtain rfl : p = s.size := by omega
              have hnx := run_next_end (P := Tryd.prog) (w.alloc (.cells #[.int .i64 0, .int .i64 0] 35)) s s.size (h := Nat.lt_irrefl _)
              obtain ⟨W1, hW1⟩ : ∃ W1, W1 = (w.alloc (.cells #[.int .i64 0, .int .i64 0] 35)).iter s s.size := ⟨_, rfl⟩
              have hbox : Box2 W1 w.heap.size (.int .i64 0) (.int .i64 0) := by
                rw [hW1]; exact (Box2.new w _ _).kept ((Below.refl _ _).alloc (Nat.le_refl _) _)
              have HBox : Hid (Box2 W1 w.heap.size (.int .i64 0) (.int .i64 0)) := hbox
              have HB1 : Hid (Below w.heap.size w W1) := by
                rw [hW1]; exact ((Below.refl _ w).alloc (Nat.le_refl _) _).alloc (by simp) _
              rw [← hW1, World.size_alloc] at hnx
              rw [← hW1]
              obtain ⟨c0, c1⟩ := hbox.cell
              obtain ⟨f0, f1⟩ := hbox.frozen
              have HE : Hid (spotV (spot (bs s)) = .agg #[.int .i64 0, .int .i64 0]) := by
                show _ = _
                rw [HS.out, H.out, List.drop_eq_nil_of_le (by rw [bs_len]; exact Nat.le_refl _), badAt_nil]; rfl
              clear hW1 hbox HS H
              go_wp2
              exact spot_ret (k := 2) rfl (HBox.out.all _ _) rfl rfl ⟨by rw [HE.out], (HB1.out.setCell (p := ⟨w.heap.size, 0, none⟩) (Nat.le_refl _) _).setCell (p := ⟨w.heap.size, 1, none⟩) (Nat.le_refl _) _⟩
end Go.Proofs.YtdchmmdndgbllaaDoor
