import Derived.Test.YtggnglgehobglaaGreatDoorN40
/- The walks of what tells runes: control, broken, width, Plain. -/
namespace Go.Proofs.YtggnglgehobglaaGreatDoor
open Go.RowKit

/-- the two tables of unicode/utf8 -/
def Tabs (w : World) : Prop := Lib.Utf8Tabs 0 1 w
theorem Tabs.below {w w' : World} (h : Tabs w) (hb : Below w.heap.size w w') : Tabs w' := Utf8Tabs_below h hb

theorem qcontrol_any (r : Nat) (w : World) :
    Calls Tryz.prog 107 #[.int .i32 (r : Int)] w fun e w' => e = .returned (.bool (ctl r)) ∧ w' = w := by
  by_cases h1 : r < 32
  · have i1 : (r : Int) < 32 := by omega
    go_enter Tryz.func107, Tryz.ntmps107
    go_wp2
    go_ret
    exact ⟨by simp [ctl, h1], rfl⟩
  · have i1 : ¬ (r : Int) < 32 := by omega
    by_cases h2 : 127 ≤ r
    · have i2 : (127 : Int) ≤ r := by omega
      by_cases h3 : r ≤ 159
      · have i3 : (r : Int) ≤ 159 := by omega
        go_enter Tryz.func107, Tryz.ntmps107
        go_wp2
        go_ret
        exact ⟨by simp [ctl, h2, h3], rfl⟩
      · have i3 : ¬ (r : Int) ≤ 159 := by omega
        go_enter Tryz.func107, Tryz.ntmps107
        go_wp2
        go_ret
        exact ⟨by simp [ctl, h1, h3], rfl⟩
    · have i2 : ¬ (127 : Int) ≤ r := by omega
      go_enter Tryz.func107, Tryz.ntmps107
      go_wp2
      go_ret
      exact ⟨by simp [ctl, h1, h2], rfl⟩

theorem qbroken_any (r k : Nat) (w : World) :
    Calls Tryz.prog 108 #[.int .i32 (r : Int), .int .i64 (k : Int)] w fun e w' => e = .returned (.bool (decide (r = 65533) && decide (k = 1))) ∧ w' = w := by
  by_cases h1 : r = 65533
  · subst h1
    by_cases h2 : k = 1
    · subst h2
      go_enter Tryz.func108, Tryz.ntmps108
      go_wp2
      go_ret
      exact ⟨rfl, rfl⟩
    · have i2 : ¬ (k : Int) = 1 := by omega
      go_enter Tryz.func108, Tryz.ntmps108
      go_wp2
      go_ret
      exact ⟨by simp [h2]; omega, rfl⟩
  · have i1 : ¬ (r : Int) = 65533 := by omega
    go_enter Tryz.func108, Tryz.ntmps108
    go_wp2
    go_ret
    exact ⟨by simp [h1], rfl⟩

theorem width_any (s : ByteArray) (w : World) (hT : Tabs w) (h0 : bs s ≠ []) :
    Calls Tryz.prog 109 #[.string s] w fun e w' => e = .returned (.int .i64 ((dec (bs s)).2 : Int)) ∧ Below w.heap.size w w' := by
  have hd : Lib.decodeGo s = dec (bs s) := by
    unfold Lib.decodeGo
    rw [if_neg (fun h => h0 ((bs_nil s).2 h)), decode_dec]; rfl
  have hc := Tryz.utf8_DecodeRuneInString s w hT
  rw [hd] at hc
  obtain ⟨r, hr⟩ : ∃ r, r = (dec (bs s)).1 := ⟨_, rfl⟩
  obtain ⟨d, hd'⟩ : ∃ d, d = (dec (bs s)).2 := ⟨_, rfl⟩
  rw [← hr, ← hd'] at hc
  rw [← hd']
  clear hr hd' hd
  go_enter Tryz.func109, Tryz.ntmps109
  go_wp2_with (go_at_call 125; refine hc.mono ?_; rintro e w' ⟨rfl, hB⟩)
  go_ret
  exact ⟨rfl, hB⟩

theorem row_start (w : World) (s : ByteArray) : Row w w.heap.size (.stringIter s 0) (.slice none 0 0) [] (w.alloc (.stringIter s 0)) :=
  ⟨World.ownsRow_nil _ _ _ _, World.alloc_heap_new _ _, (fun _ _ _ h => by cases h), (Below.refl _ w).alloc (Nat.le_refl _) _, Nat.le_refl _⟩
theorem iter_obj (s : ByteArray) (p : Nat) : ∀ cs t f, Obj.stringIter s p ≠ .cells cs t f := fun _ _ _ h => by cases h

set_option maxHeartbeats 2000000 in
theorem qplain_any (s : ByteArray) (w : World) (hT : Tabs w) (hs : s.size ≤ maxLen) :
    Calls Tryz.prog 90 #[.string s] w fun e w' => e = .returned (.bool (plainL (bs s))) ∧ Below w.heap.size w w' := by
  have hs' : s.size ≤ 9223372036854775807 := by unfold maxLen at hs; omega
  by_cases h0 : s.toList = []
  · have hz : plainL (bs s) = false := by rw [← toList_bs, h0]; rfl
    have b0 : s.toList.isEmpty = true := by rw [h0]; rfl
    go_enter Tryz.func90, Tryz.ntmps90
    go_wp2
    go_ret
    exact ⟨by rw [hz]; rfl, Below.refl _ _⟩
  · have b0 : s.toList.isEmpty = false := by simpa using h0
    have hz : 0 < s.size := by
      rw [toList_bs] at h0
      have := mt (bs_nil s).2 h0
      omega
    have i0 : (0 : Int) < s.size := by omega
    have hx0 : ∃ c, s[0]'hz = c := ⟨_, rfl⟩
    obtain ⟨c, hc⟩ := hx0
    have hg : (bs s).getD 0 0 = c := by
      rw [← hc, List.getD_eq_getElem?_getD, List.getElem?_eq_getElem (by rw [bs_len]; exact hz)]; rfl
    by_cases h1 : c = 35
    · have hp : plainL (bs s) = false := by unfold plainL; rw [hg, h1]; simp
      have hc' : ((s[0]'hz).toNat : Int) = 35 := by rw [hc, h1]; rfl
      clear hg hc
      go_enter Tryz.func90, Tryz.ntmps90
      go_wp2
      go_ret
      exact ⟨by rw [hp]; rfl, Below.refl _ _⟩
    · have hp : plainL (bs s) = plainF (bs s) := by
        unfold plainL
        rw [hg, ← toList_bs]
        simp [h0, h1]
      have HP : Hid (plainL (bs s) = plainF (bs s)) := hp
      have hc' : ¬ ((s[0]'hz).toNat : Int) = 35 := by
        rw [hc]; intro e
        exact h1 (UInt8.toNat_inj.1 (by show _ = 35; omega))
      have hcb : ((((s[0]'hz).toNat : Nat) : Int) == 35) = false := beq_eq_false_iff_ne.2 hc'
      clear hg hc hp hc'
      go_enter Tryz.func90, Tryz.ntmps90
      go_wp2
      go_loopw [] (fun wr => ∃ p : Nat, p ≤ s.size ∧ Row w w.heap.size (.stringIter s p) (.slice none 0 0) [] wr ∧ Hid (plainF (bs s) = plainF ((bs s).drop p))) (fun wr => s.size - wr.iterPos w.heap.size)
      case atStart => exact ⟨0, Nat.zero_le _, row_start w s, by simp [Hid]⟩
      case round =>
        obtain ⟨p, hp, hR, H⟩ := hrel
        by_cases hlt : p < s.size
        · obtain ⟨r, d, hdec, hd, hd1, hd2, hr, hne, he, _⟩ := rune_at s p hlt
          have hnx := run_next_at (P := Tryz.prog) wr w.heap.size s p hR.iter hlt
          rw [hdec] at hnx
          have hR2 := hR.put (.stringIter s (p + d)) (iter_obj s _)
          obtain ⟨W2, hW2⟩ : ∃ W2, W2 = wr.putObj w.heap.size (.stringIter s (p + d)) := ⟨_, rfl⟩
          simp only at hnx
          rw [← hW2] at hnx hR2
          have hm : Hid (∀ W3 : World, W3.heap[w.heap.size]? = some (.stringIter s (p + d)) → s.size - W3.iterPos w.heap.size < s.size - wr.iterPos w.heap.size) := by
            intro W3 h3
            rw [iterPos_of hR.iter, iterPos_of h3]; omega
          have hT2 : Tabs W2 := hT.below hR2.bel
          have HB : Hid (badw ((bs s).drop p) = (decide (r = 32) || decide (r = 34) || decide (r = 92) || ctl r || (decide (r = 65533) && decide (d = 1)))) := by
            show _ = _
            unfold badw
            rw [brk_iff _ hne, hd]
          have HG : Hid (plainF (bs s) = (!badw ((bs s).drop p) && plainF ((bs s).drop (p + d)))) := by
            show _ = _
            rw [H.out, plainF_go _ hne, hd, List.drop_drop]
          have HR : Hid (Row w w.heap.size (.stringIter s (p + d)) (.slice none 0 0) [] W2) := hR2
          have hwd := fun W hT => width_any (s.extract p s.size) W hT (by rw [he]; exact hne)
          rw [he, hd] at hwd
          have i3 : (p : Int) ≤ s.size := by omega
          have HBel : Hid (Below w.heap.size w W2) := hR2.bel
          clear hd he hne hdec hW2 hR2 H hR
          by_cases h32 : r = 32
          · subst h32
            simp only [show ((32 : Nat) : Int) = 32 from rfl] at hnx
            have HX : Hid (plainL (bs s) = false) := by show _ = _; rw [HP.out, HG.out, HB.out]; rfl
            clear HB HG HP hm
            go_wp2
            go_ret
            exact ⟨by rw [HX.out]; rfl, HBel.out⟩
          · have c32 : ((r : Int) == 32) = false := beq_eq_false_iff_ne.2 (by omega)
            by_cases h34 : r = 34
            · subst h34
              simp only [show ((34 : Nat) : Int) = 34 from rfl] at hnx
              have HX : Hid (plainL (bs s) = false) := by show _ = _; rw [HP.out, HG.out, HB.out]; rfl
              clear HB HG HP hm
              go_wp2
              go_ret
              exact ⟨by rw [HX.out]; rfl, HBel.out⟩
            · have c34 : ((r : Int) == 34) = false := beq_eq_false_iff_ne.2 (by omega)
              by_cases h92 : r = 92
              · subst h92
                simp only [show ((92 : Nat) : Int) = 92 from rfl] at hnx
                have HX : Hid (plainL (bs s) = false) := by show _ = _; rw [HP.out, HG.out, HB.out]; rfl
                clear HB HG HP hm
                go_wp2
                go_ret
                exact ⟨by rw [HX.out]; rfl, HBel.out⟩
              · have c92 : ((r : Int) == 92) = false := beq_eq_false_iff_ne.2 (by omega)
                have hct := fun W => qcontrol_any r W
                have HB' : Hid (badw ((bs s).drop p) = (ctl r || (decide (r = 65533) && decide (d = 1)))) := by
                  show _ = _; rw [HB.out]; simp [h32, h34, h92]
                clear HB
                cases hcr : ctl r with
                | true =>
                  rw [hcr] at hct
                  have HX : Hid (plainL (bs s) = false) := by show _ = _; rw [HP.out, HG.out, HB'.out, hcr]; rfl
                  clear HB' HG HP hm
                  go_wp2_with (go_at_call 107; refine (hct _).mono ?_; rintro e w' ⟨rfl, rfl⟩)
                  go_ret
                  exact ⟨by rw [HX.out]; rfl, HBel.out⟩
                | false =>
                  rw [hcr] at hct
                  have hbk := fun W => qbroken_any r d W
                  have HB2 : Hid (badw ((bs s).drop p) = (decide (r = 65533) && decide (d = 1))) := by show _ = _; rw [HB'.out, hcr]; rfl
                  clear HB'
                  cases hbb : (decide (r = 65533) && decide (d = 1)) with
                  | true =>
                    rw [hbb] at hbk
                    have HX : Hid (plainL (bs s) = false) := by show _ = _; rw [HP.out, HG.out, HB2.out, hbb]; rfl
                    clear HB2 HG HP hm
                    go_wp2_with first
                      | (go_at_call 107; refine (hct _).mono ?_; rintro e w' ⟨rfl, rfl⟩)
                      | (go_at_call 109; refine (hwd _ hT2).mono ?_; rintro e w3 ⟨rfl, hB3⟩)
                      | (go_at_call 108; refine (hbk _).mono ?_; rintro e w' ⟨rfl, rfl⟩)
                    go_ret
                    exact ⟨by rw [HX.out]; rfl, (HR.out.below hB3).bel⟩
                  | false =>
                    rw [hbb] at hbk
                    have HX : Hid (plainF (bs s) = plainF ((bs s).drop (p + d))) := by show _ = _; rw [HG.out, HB2.out, hbb]; rfl
                    clear HB2 HG HP
                    go_wp2_with first
                      | (go_at_call 107; refine (hct _).mono ?_; rintro e w' ⟨rfl, rfl⟩)
                      | (go_at_call 109; refine (hwd _ hT2).mono ?_; rintro e w3 ⟨rfl, hB3⟩)
                      | (go_at_call 108; refine (hbk _).mono ?_; rintro e w' ⟨rfl, rfl⟩)
                    go_roundw
                    case rel => exact ⟨p + d, hd2, HR.out.below hB3, HX⟩
                    case measure => exact hm.out _ (HR.out.below hB3).iter
        · obtain rfl : p = s.size := by omega
          have hnx := run_next_over (P := Tryz.prog) wr w.heap.size s s.size hR.iter hlt
          have HX : Hid (plainL (bs s) = true) := by
            show _ = _
            rw [HP.out, H.out, List.drop_eq_nil_of_le (by rw [bs_len]; exact Nat.le_refl _), plainF_nil]
          have HBel : Hid (Below w.heap.size w wr) := hR.bel
          clear HP H hR
          go_wp2
          go_ret
          exact ⟨by rw [HX.out]; rfl, HBel.out⟩
end Go.Proofs.YtggnglgehobglaaGreatDoor
