import Derived.Test.YtggnglgehobglaaGreatDoorN03
/- The walk of Check, with how much was drawn (gend.py, out of NCheck). -/
namespace Go.Proofs.YtggnglgehobglaaGreatDoor
open Go.RowKit

attribute [local go_sem] Oper.semAt_some

/-- what lay below stays, and nothing that was drawn is given back -/
structure LoD (B : Nat) (w w' : World) : Prop where
  toBelow : Below B w w'
  d : w.drawn ≤ w'.drawn
theorem LoD.refl (B : Nat) (w : World) : LoD B w w := ⟨Below.refl B w, Nat.le_refl _⟩
theorem LoD.trans {B : Nat} {a b c : World} (h : LoD B a b) (k : LoD B b c) : LoD B a c := ⟨h.toBelow.trans k.toBelow, Nat.le_trans h.d k.d⟩
theorem LoD.mono {B B' : Nat} {w w' : World} (h : LoD B w w') (hb : B' ≤ B) : LoD B' w w' := ⟨h.toBelow.mono hb, h.d⟩
theorem LoD.size {B : Nat} {w w' : World} (h : LoD B w w') : w.heap.size ≤ w'.heap.size := h.toBelow.size
theorem LoD.alloc {B : Nat} {w w' : World} (h : LoD B w w') (hb : B ≤ w'.heap.size) (o : Obj) : LoD B w (w'.alloc o) := ⟨h.toBelow.alloc hb o, h.d⟩
theorem LoD.setCell {B : Nat} {w w' : World} (h : LoD B w w') {p : Addr} (hp : B ≤ p.block) (v : Value) : LoD B w (w'.setCell p v) := ⟨h.toBelow.setCell hp v, h.d⟩
theorem dspot_new {w : World} {s : ByteArray} (a b : Int) (h : spotV (spot (bs s)) = .agg #[.int .i64 a, .int .i64 b]) {x : Act} (ha : x.tmps[2]?.getD undef = .pointer (some ⟨w.heap.size, 0, none⟩)) (hd : x.defers = []) :
    bodyPost Tryz.prog Tryz.f73 (fun e w' => e = Ending.returned (spotV (spot (bs s))) ∧ LoD w.heap.size w w') Exit.ret x (w.alloc (.cells #[.int .i64 a, .int .i64 b] 48)) :=
  spot_ret (k := 2) rfl (Box2.new _ _ _) ha hd ⟨by rw [h], (LoD.refl _ w).alloc (Nat.le_refl _) _⟩

set_option maxHeartbeats 2000000 in
theorem dcheck_any (s : ByteArray) (w : World) (hs : s.size ≤ maxLen) :
    Calls Tryz.prog 73 #[.string s] w fun e w' => e = .returned (spotV (spot (bs s))) ∧ LoD w.heap.size w w' := by
  have hs' : s.size ≤ 9223372036854775807 := by unfold maxLen at hs; omega
  by_cases h1 : s.toList = []
  · go_enter Tryz.func73, Tryz.ntmps73
    go_wp2
    exact dspot_new _ _ (by rw [toList_bs] at h1; rw [h1]; rfl) rfl rfl
  · by_cases h2 : s.toList = [46]
    · go_enter Tryz.func73, Tryz.ntmps73
      go_wp2
      exact dspot_new _ _ (by rw [toList_bs] at h2; rw [h2]; rfl) rfl rfl
    · by_cases h3 : s.toList = [46, 46]
      · go_enter Tryz.func73, Tryz.ntmps73
        go_wp2
        exact dspot_new _ _ (by rw [toList_bs] at h3; rw [h3]; rfl) rfl rfl
      · have h0 : ¬ (bs s = [] ∨ bs s = [46] ∨ bs s = [46, 46]) := by rw [← toList_bs]; simp [h1, h2, h3]
        have b1 : s.toList.isEmpty = false := by simpa using h1
        have b2 : (s.toList == [46]) = false := by simpa using h2
        have b3 : (s.toList == [46, 46]) = false := by simpa using h3
        by_cases h4 : 32 < s.size
        · have i4 : (32 : Int) < s.size := by omega
          go_enter Tryz.func73, Tryz.ntmps73
          go_wp2
          exact dspot_new _ _ (by unfold spot; rw [if_neg h0, if_pos (show 32 < (bs s).length by rw [bs_len]; exact h4)]; rfl) rfl rfl
        · have i4 : ¬ (32 : Int) < s.size := by omega
          have hsp : spot (bs s) = match badAt (bs s) with | some k => (140, k) | none => (0, 0) := by
            unfold spot; rw [if_neg h0, if_neg (show ¬ 32 < (bs s).length by rw [bs_len]; exact h4)] <;> cases badAt (bs s) <;> rfl
          have HS : Hid (spot (bs s) = match badAt (bs s) with | some k => (140, k) | none => (0, 0)) := hsp
          clear hsp h0
          go_enter Tryz.func73, Tryz.ntmps73
          go_wp2
          go_loopw [] (fun wr => ∃ p : Nat, p ≤ s.size ∧ wr = (w.alloc (.cells #[.int .i64 0, .int .i64 0] 48)).iter s p ∧ Hid (badAt (bs s) = (badAt ((bs s).drop p)).map (· + p))) (fun wr => s.size - wr.iterPos (w.heap.size + 1))
          case atStart => exact ⟨0, Nat.zero_le _, rfl, by simp [Hid]⟩
          case round =>
            obtain ⟨p, hp, rfl, H⟩ := hrel
            by_cases hlt : p < s.size
            · obtain ⟨r, hr⟩ : ∃ r, r = (dec ((bs s).drop p)).1 := ⟨_, rfl⟩
              obtain ⟨d, hd⟩ : ∃ d, d = (dec ((bs s).drop p)).2 := ⟨_, rfl⟩
              have hne : (bs s).drop p ≠ [] := fun e => by
                have := congrArg List.length e
                rw [List.length_drop, bs_len] at this; simp at this; omega
              have hd1 : 1 ≤ d := by rw [hd]; exact dec_pos _
              have hd2 : p + d ≤ s.size := by
                have := dec_le _ hne
                rw [← hd, List.length_drop, bs_len] at this; omega
              have hdec : Utf8.decode s p = (r, d) := by rw [decode_dec, hr, hd]; rfl
              have hrle : r ≤ 2147483647 := by have := decode_le s p; rw [hdec] at this; exact this
              have hnx := run_next_any (P := Tryz.prog) (w.alloc (.cells #[.int .i64 0, .int .i64 0] 48)) s p (h := hlt)
              rw [hdec] at hnx
              obtain ⟨W1, hW1⟩ : ∃ W1, W1 = (w.alloc (.cells #[.int .i64 0, .int .i64 0] 48)).iter s p := ⟨_, rfl⟩
              obtain ⟨W2, hW2⟩ : ∃ W2, W2 = (w.alloc (.cells #[.int .i64 0, .int .i64 0] 48)).iter s (p + d) := ⟨_, rfl⟩
              have hbox : Box2 W2 w.heap.size (.int .i64 0) (.int .i64 0) := by
                rw [hW2]; exact (Box2.new w _ _).kept ((Below.refl _ _).alloc (Nat.le_refl _) _)
              have HB2 : Hid (LoD w.heap.size w W2) := by
                rw [hW2]; exact ((LoD.refl _ w).alloc (Nat.le_refl _) _).alloc (by simp) _
              have HBox : Hid (Box2 W2 w.heap.size (.int .i64 0) (.int .i64 0)) := hbox
              have HW2 : Hid (W2 = (w.alloc (.cells #[.int .i64 0, .int .i64 0] 48)).iter s (p + d)) := hW2
              have hm1 : Hid (s.size - W2.iterPos (w.heap.size + 1) < s.size - W1.iterPos (w.heap.size + 1)) := by
                have e1 := World.iterPos_iter (w.alloc (.cells #[.int .i64 0, .int .i64 0] 48)) s p
                have e2 := World.iterPos_iter (w.alloc (.cells #[.int .i64 0, .int .i64 0] 48)) s (p + d)
                rw [← hW1, World.size_alloc] at e1
                rw [← hW2, World.size_alloc] at e2
                show _ < _
                rw [e1, e2]; omega
              rw [← hW1, ← hW2, World.size_alloc] at hnx
              rw [← hW1]
              obtain ⟨c0, c1⟩ := hbox.cell
              obtain ⟨f0, f1⟩ := hbox.frozen
              have HBd : Hid (bad ((bs s).drop p) = (!may (r : Int) || (decide (r = 65533) && !(fffd.isPrefixOf (bs (s.extract p s.size)))))) := by
                show _ = _
                rw [bs_extract, show (bs s).take s.size = bs s by rw [← bs_len]; exact List.take_length]
                simp only [bad, may, ← hr, Bool.not_not]
                have e1 : decide ((r : Int) < 32) = decide (r < 32) := decide_eq_decide.2 (by omega)
                have e2 : decide ((r : Int) = 127) = decide (r = 127) := decide_eq_decide.2 (by omega)
                have e3 : decide ((r : Int) = 47) = decide (r = 47) := decide_eq_decide.2 (by omega)
                rw [e1, e2, e3]
              have HStop : Hid (bad ((bs s).drop p) = true → spotV (spot (bs s)) = .agg #[.int .i64 140, .int .i64 (p : Int)]) := fun hb => by
                rw [HS.out, H.out, badAt_bad _ hne hb]; simp [spotV]
              have HGo : Hid (bad ((bs s).drop p) = false → badAt (bs s) = (badAt ((bs s).drop (p + d))).map (· + (p + d))) := fun hb => by
                rw [H.out, badAt_go _ hne hb, ← hd, List.drop_drop, Option.map_map]
                congr 1
                funext x; simp; omega
              have HNe : Hid ((bs s).drop p ≠ []) := hne
              clear hne hd hr hdec hW1 hW2 hbox HS H
              have i3 : (p : Int) ≤ s.size := by omega
              have HEnd : Hid (bad ((bs s).drop p) = true → ∀ a : Act, a.tmps[2]?.getD undef = .pointer (some ⟨w.heap.size, 0, none⟩) → a.defers = [] → bodyPost Tryz.prog Tryz.f73 (fun e w' => e = Ending.returned (spotV (spot (bs s))) ∧ LoD w.heap.size w w') Exit.ret a ((W2.setCell ⟨w.heap.size, 0, none⟩ (.int .i64 140)).setCell ⟨w.heap.size, 1, none⟩ (.int .i64 (p : Int)))) := fun hb a ha hd =>
                spot_ret (k := 2) rfl (HBox.out.all _ _) ha hd ⟨by rw [HStop.out hb], (HB2.out.setCell (p := ⟨w.heap.size, 0, none⟩) (Nat.le_refl _) _).setCell (p := ⟨w.heap.size, 1, none⟩) (Nat.le_refl _) _⟩
              have HNext : Hid (bad ((bs s).drop p) = false → ∃ p', p' ≤ s.size ∧ W2 = (w.alloc (.cells #[.int .i64 0, .int .i64 0] 48)).iter s p' ∧ Hid (badAt (bs s) = (badAt ((bs s).drop p')).map (· + p'))) := fun hb => ⟨p + d, hd2, HW2.out, HGo.out hb⟩
              clear HW2 HBox HStop HGo HNe
              cases hmy : may (r : Int) with
              | false =>
                have HX : Hid (bad ((bs s).drop p) = true) := by show _ = _; rw [HBd.out, hmy]; rfl
                clear HBd HNext
                go_wp2_with (go_at_call 95; refine (mayStand_any r _).mono ?_; rintro e w' ⟨rfl, rfl⟩; rw [hmy])
                exact HEnd.out HX.out _ rfl rfl
              | true =>
                by_cases h65 : r = 65533
                · subst h65
                  simp only [show ((65533 : Nat) : Int) = 65533 from rfl] at hnx hmy HBd
                  cases hfp : (!(fffd.isPrefixOf (bs (s.extract p s.size)))) with
                  | true =>
                    have HX : Hid (bad ((bs s).drop p) = true) := by show _ = _; rw [HBd.out, hmy, hfp]; rfl
                    clear HBd HNext
                    go_wp2_with first
                      | (go_at_call 95; refine (mayStand_any 65533 _).mono ?_; rintro e w' ⟨rfl, rfl⟩; rw [hmy])
                      | (go_at_call 96; refine (broken_any (s.extract p s.size) _ (by simp; omega)).mono ?_; rintro e w' ⟨rfl, rfl⟩; rw [hfp])
                    exact HEnd.out HX.out _ rfl rfl
                  | false =>
                    have HX : Hid (bad ((bs s).drop p) = false) := by show _ = _; rw [HBd.out, hmy, hfp]; simp
                    clear HBd HEnd
                    go_wp2_with first
                      | (go_at_call 95; refine (mayStand_any 65533 _).mono ?_; rintro e w' ⟨rfl, rfl⟩; rw [hmy])
                      | (go_at_call 96; refine (broken_any (s.extract p s.size) _ (by simp; omega)).mono ?_; rintro e w' ⟨rfl, rfl⟩; rw [hfp])
                    go_roundw
                    case rel => exact HNext.out HX.out
                    case measure => exact hm1.out
                · have i5 : ¬ (r : Int) = 65533 := by omega
                  have HX : Hid (bad ((bs s).drop p) = false) := by show _ = _; rw [HBd.out, hmy]; simp [h65]
                  clear HBd HEnd
                  go_wp2_with (go_at_call 95; refine (mayStand_any r _).mono ?_; rintro e w' ⟨rfl, rfl⟩; rw [hmy])
                  go_roundw
                  case rel => exact HNext.out HX.out
                  case measure => exact hm1.out
            · obtain rfl : p = s.size := by omega
              have hnx := run_next_end (P := Tryz.prog) (w.alloc (.cells #[.int .i64 0, .int .i64 0] 48)) s s.size (h := Nat.lt_irrefl _)
              obtain ⟨W1, hW1⟩ : ∃ W1, W1 = (w.alloc (.cells #[.int .i64 0, .int .i64 0] 48)).iter s s.size := ⟨_, rfl⟩
              have hbox : Box2 W1 w.heap.size (.int .i64 0) (.int .i64 0) := by
                rw [hW1]; exact (Box2.new w _ _).kept ((Below.refl _ _).alloc (Nat.le_refl _) _)
              have HBox : Hid (Box2 W1 w.heap.size (.int .i64 0) (.int .i64 0)) := hbox
              have HB1 : Hid (LoD w.heap.size w W1) := by
                rw [hW1]; exact ((LoD.refl _ w).alloc (Nat.le_refl _) _).alloc (by simp) _
              rw [← hW1, World.size_alloc] at hnx
              rw [← hW1]
              obtain ⟨c0, c1⟩ := hbox.cell
              obtain ⟨f0, f1⟩ := hbox.frozen
              have HE : Hid (spotV (spot (bs s)) = .agg #[.int .i64 0, .int .i64 0]) := by
                show _ = _
                rw [HS.out, H.out, List.drop_eq_nil_of_le (by rw [bs_len]; exact Nat.le_refl _), badAt_nil]; rfl
              clear hW1 hbox HS H
              go_wp2
              exact spot_ret (k := 2) rfl (HBox.out.all _ _) rfl rfl ⟨by rw [HE.out], (HB1.out.setCell (p := ⟨w.heap.size, 0, none⟩) (Nat.le_refl _) _).setCell (p := ⟨w.heap.size, 1, none⟩) (Nat.le_refl _) _⟩
end Go.Proofs.YtggnglgehobglaaGreatDoor
