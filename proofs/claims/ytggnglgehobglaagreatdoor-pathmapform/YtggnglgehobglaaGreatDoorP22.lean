import Derived.Test.YtggnglgehobglaaGreatDoorP05
import Derived.Test.YtggnglgehobglaaGreatDoorP21
import Derived.WalkLawsBesides
import Derived.Deep.RegionHeld3
import Derived.Test.YtggnglgehobglaaGreatDoorP20
/- The walks of Compare and of what it calls. -/
namespace Go.Proofs.YtggnglgehobglaaGreatDoor
open Go.RowKit Go.Shelf
open Go.Lib (compareBytes)

theorem less_cmp : ∀ x y : List UInt8, Op.bytesLess x y = decide (compareBytes x y = -1)
  | [], [] => by simp [Op.bytesLess, compareBytes]
  | _ :: _, [] => by simp [Op.bytesLess, compareBytes]
  | [], _ :: _ => by simp [Op.bytesLess, compareBytes]
  | a :: s, b :: t => by
    unfold Op.bytesLess compareBytes
    by_cases h1 : a < b
    · rw [if_pos h1]; simp [h1]
    · rw [if_neg h1]
      by_cases h2 : b < a
      · rw [if_pos h2]
        have : (a == b) = false := beq_eq_false_iff_ne.2 (fun e => by rw [e] at h2; exact UInt8.lt_irrefl _ h2)
        simp [h1, this]
      · rw [if_neg h2]
        have e : a = b := UInt8.le_antisymm (UInt8.not_lt.1 h2) (UInt8.not_lt.1 h1)
        rw [less_cmp s t, e]; simp [UInt8.lt_irrefl]

theorem nan_str (x : ByteArray) (w : World) : Calls Tryz.prog 103 #[.string x] w fun e w' => e = .returned (.bool false) ∧ w' = w := by
  go_enter Tryz.func103, Tryz.ntmps103
  go_wp2
  go_ret
  exact ⟨by simp, rfl⟩
theorem cmp_str (x y : ByteArray) (w : World) : Calls Tryz.prog 79 #[.string x, .string y] w fun e w' => e = .returned (.int .i64 (compareBytes (bs x) (bs y))) ∧ w' = w := by
  have h1 : Op.bytesLess x.toList y.toList = decide (compareBytes (bs x) (bs y) = -1) := by rw [less_cmp, toList_bs, toList_bs]
  have h2 : Op.bytesLess y.toList x.toList = decide (compareBytes (bs x) (bs y) = 1) := by
    rw [less_cmp, toList_bs, toList_bs, cmp_neg]
    exact decide_eq_decide.2 (by omega)
  have h3 : (x.toList == y.toList) = decide (compareBytes (bs x) (bs y) = 0) := by
    rw [str_beq]
    exact decide_eq_decide.2 ⟨fun e => by rw [e, cmp_self], cmp_zero _ _⟩
  rcases cmp_range (bs x) (bs y) with e | e | e
  all_goals
    rw [e] at h1 h2 h3
    rw [e]
    go_enter Tryz.func79, Tryz.ntmps79
    go_wp2_with (go_at_call 103; refine (nan_str _ _).mono ?_; rintro e w' ⟨rfl, rfl⟩)
    go_ret
    exact ⟨rfl, rfl⟩

def cmpI (x y : Int) : Int := if x < y then -1 else if y < x then 1 else 0
theorem nan_int (x : Int) (w : World) : Calls Tryz.prog 124 #[.int .i64 x] w fun e w' => e = .returned (.bool false) ∧ w' = w := by
  go_enter Tryz.func124, Tryz.ntmps124
  go_wp2
  go_ret
  exact ⟨by simp, rfl⟩
theorem cmp_int (x y : Int) (w : World) : Calls Tryz.prog 102 #[.int .i64 x, .int .i64 y] w fun e w' => e = .returned (.int .i64 (cmpI x y)) ∧ w' = w := by
  unfold cmpI
  by_cases h1 : x < y
  · rw [if_pos h1]
    go_enter Tryz.func102, Tryz.ntmps102
    go_wp2_with (go_at_call 124; refine (nan_int _ _).mono ?_; rintro e w' ⟨rfl, rfl⟩)
    go_ret
    exact ⟨rfl, rfl⟩
  · rw [if_neg h1]
    by_cases h2 : y < x
    · rw [if_pos h2]
      go_enter Tryz.func102, Tryz.ntmps102
      go_wp2_with (go_at_call 124; refine (nan_int _ _).mono ?_; rintro e w' ⟨rfl, rfl⟩)
      go_ret
      exact ⟨rfl, rfl⟩
    · rw [if_neg h2]
      go_enter Tryz.func102, Tryz.ntmps102
      go_wp2_with (go_at_call 124; refine (nan_int _ _).mono ?_; rintro e w' ⟨rfl, rfl⟩)
      go_ret
      exact ⟨rfl, rfl⟩
theorem nan_byte (x : Int) (w : World) : Calls Tryz.prog 123 #[.int .u8 x] w fun e w' => e = .returned (.bool false) ∧ w' = w := by
  go_enter Tryz.func123, Tryz.ntmps123
  go_wp2
  go_ret
  exact ⟨by simp, rfl⟩
theorem cmp_byte (x y : Int) (w : World) : Calls Tryz.prog 100 #[.int .u8 x, .int .u8 y] w fun e w' => e = .returned (.int .i64 (cmpI x y)) ∧ w' = w := by
  unfold cmpI
  by_cases h1 : x < y
  · rw [if_pos h1]
    go_enter Tryz.func100, Tryz.ntmps100
    go_wp2_with (go_at_call 123; refine (nan_byte _ _).mono ?_; rintro e w' ⟨rfl, rfl⟩)
    go_ret
    exact ⟨rfl, rfl⟩
  · rw [if_neg h1]
    by_cases h2 : y < x
    · rw [if_pos h2]
      go_enter Tryz.func100, Tryz.ntmps100
      go_wp2_with (go_at_call 123; refine (nan_byte _ _).mono ?_; rintro e w' ⟨rfl, rfl⟩)
      go_ret
      exact ⟨rfl, rfl⟩
    · rw [if_neg h2]
      go_enter Tryz.func100, Tryz.ntmps100
      go_wp2_with (go_at_call 123; refine (nan_byte _ _).mono ?_; rintro e w' ⟨rfl, rfl⟩)
      go_ret
      exact ⟨rfl, rfl⟩

theorem weight_any (c : UInt8) (w : World) : Calls Tryz.prog 101 #[.int .u8 (c.toNat : Int)] w fun e w' => e = .returned (.int .u8 ((wt c).toNat : Int)) ∧ w' = w := by
  unfold wt
  by_cases h : c = 47
  · subst h
    go_enter Tryz.func101, Tryz.ntmps101
    go_wp2
    go_ret
    exact ⟨rfl, rfl⟩
  · have h' : ¬ (c.toNat : Int) = 47 := fun e => h (UInt8.toNat_inj.1 (by exact_mod_cast e))
    rw [if_neg h]
    go_enter Tryz.func101, Tryz.ntmps101
    go_wp2
    go_ret
    exact ⟨rfl, rfl⟩

/-- the first place at which they are unlike -/
theorem cmpW_at (a b : List UInt8) (k : Nat) (ha : k < a.length) (hb : k < b.length) (he : a.take k = b.take k) (hn : a[k] ≠ b[k]) (h1 : ∀ c ∈ a, 32 ≤ c.toNat) (h2 : ∀ c ∈ b, 32 ≤ c.toNat) : cmpW a b = cmpI ((wt a[k]).toNat : Int) ((wt b[k]).toNat : Int) := by
  have ea : a.map wt = (b.take k).map wt ++ wt a[k] :: (a.drop (k + 1)).map wt := by
    rw [← he, ← List.map_cons, ← List.drop_eq_getElem_cons ha, ← List.map_append, List.take_append_drop]
  have eb : b.map wt = (b.take k).map wt ++ wt b[k] :: (b.drop (k + 1)).map wt := by
    rw [← List.map_cons, ← List.drop_eq_getElem_cons hb, ← List.map_append, List.take_append_drop]
  unfold cmpW
  rw [ea, eb, cmp_cancel]
  have hw : wt a[k] ≠ wt b[k] := fun e => hn (wt_inj _ _ (h1 _ (List.getElem_mem ha)) (h2 _ (List.getElem_mem hb)) e)
  unfold compareBytes cmpI
  by_cases h3 : wt a[k] < wt b[k]
  · rw [if_pos h3, if_pos (by have := UInt8.lt_iff_toNat_lt.1 h3; omega)]
  · have h3' : ¬ ((wt a[k]).toNat : Int) < ((wt b[k]).toNat : Int) := fun h => h3 (UInt8.lt_iff_toNat_lt.2 (by omega))
    rw [if_neg h3, if_neg h3']
    have h4 : wt b[k] < wt a[k] := by
      rcases Nat.lt_trichotomy (wt a[k]).toNat (wt b[k]).toNat with h | h | h
      · exact absurd (UInt8.lt_iff_toNat_lt.2 h) h3
      · exact absurd (UInt8.toNat_inj.1 h) hw
      · exact UInt8.lt_iff_toNat_lt.2 h
    rw [if_pos h4, if_pos (by have := UInt8.lt_iff_toNat_lt.1 h4; omega)]
theorem cmpW_end (a b : List UInt8) (k : Nat) (hk : k = min a.length b.length) (he : a.take k = b.take k) : cmpW a b = cmpI (a.length : Int) (b.length : Int) := by
  have ea : a.map wt = (b.take k).map wt ++ (a.drop k).map wt := by
    rw [← he, ← List.map_append, List.take_append_drop]
  have eb : b.map wt = (b.take k).map wt ++ (b.drop k).map wt := by
    rw [← List.map_append, List.take_append_drop]
  unfold cmpW
  rw [ea, eb, cmp_cancel]
  unfold cmpI
  rcases Nat.lt_trichotomy a.length b.length with h | h | h
  · rw [if_pos (by omega), List.drop_eq_nil_of_le (show a.length ≤ k by omega)]
    have : b.drop k ≠ [] := fun e => by have := congrArg List.length e; rw [List.length_drop] at this; simp at this; omega
    cases hb : b.drop k with
    | nil => exact absurd hb this
    | cons x t => rfl
  · rw [if_neg (by omega), if_neg (by omega), List.drop_eq_nil_of_le (show a.length ≤ k by omega), List.drop_eq_nil_of_le (show b.length ≤ k by omega)]; rfl
  · rw [if_neg (by omega), if_pos (by omega), List.drop_eq_nil_of_le (show b.length ≤ k by omega)]
    have : a.drop k ≠ [] := fun e => by have := congrArg List.length e; rw [List.length_drop] at this; simp at this; omega
    cases hb : a.drop k with
    | nil => exact absurd hb this
    | cons x t => rfl

theorem bs_get (s : ByteArray) (k : Nat) (h : k < s.size) : (bs s)[k]? = some s[k] := by
  rw [List.getElem?_eq_getElem (by rw [bs_len]; exact h)]; rfl
set_option maxHeartbeats 2000000 in
theorem comparePaths_any (a b : ByteArray) (w : World) (hsa : a.size ≤ 1000000) (hsb : b.size ≤ 1000000) (ha : ∀ c ∈ bs a, 32 ≤ c.toNat) (hb : ∀ c ∈ bs b, 32 ≤ c.toNat) :
    Calls Tryz.prog 78 #[.string a, .string b] w fun e w' => e = .returned (.int .i64 (cmpW (bs a) (bs b))) ∧ Below w.heap.size w w' := by
  have HA : Hid ((∀ c ∈ bs a, 32 ≤ c.toNat) ∧ ∀ c ∈ bs b, 32 ≤ c.toNat) := ⟨ha, hb⟩
  clear ha hb
  by_cases hab : b.size < a.size
  · have iab : (b.size : Int) < a.size := by omega
    go_enter Tryz.func78, Tryz.ntmps78
    go_wp2
    go_loopw [11] (fun i wr => ∃ k : Nat, k ≤ b.size ∧ i = .int .i64 k ∧ Hid (Below w.heap.size w wr ∧ (bs a).take k = (bs b).take k)) (fun i _ => b.size - (intOf i).toNat)
    case atStart => exact ⟨0, Nat.zero_le _, rfl, Below.refl _ _, rfl⟩
    case round =>
      obtain ⟨k, hk, rfl, H⟩ := hrel
      by_cases hlt : k < b.size
      · have i1 : (k : Int) < (b.size : Int) := by omega
        have ka : k < a.size := by omega
        have kb : k < b.size := by omega
        have i2 : (k : Int) < a.size := by omega
        have i3 : (k : Int) < b.size := by omega
        by_cases he : a[k] = b[k]
        · have HT : Hid ((bs a).take (k + 1) = (bs b).take (k + 1)) := by
            show _ = _
            rw [List.take_add_one, List.take_add_one, H.out.2, bs_get a k ka, bs_get b k kb, he]
          go_wp2_with fail
          go_quiet (fail)
          go_wp2_with fail
          go_roundw
          case rel => exact ⟨k + 1, by omega, by simp, below_drewN H.out.1 _, HT.out⟩
          case measure => simp [intOf]; omega
        · have j1 : ¬ (a[k].toNat : Int) = (b[k].toNat : Int) := fun e => he (UInt8.toNat_inj.1 (by omega))
          have HC : Hid (cmpW (bs a) (bs b) = cmpI ((wt a[k]).toNat : Int) ((wt b[k]).toNat : Int)) := by
            show _ = _
            have l1 : k < (bs a).length := by rw [bs_len]; exact ka
            have l2 : k < (bs b).length := by rw [bs_len]; exact kb
            exact cmpW_at (bs a) (bs b) k l1 l2 H.out.2 he HA.out.1 HA.out.2
          go_wp2_with fail
          go_quiet (fail)
          go_wp2_with fail
          go_region_held3 (fun _ => True)
            (trivial)
            (first
              | (go_at_call 101; refine (weight_any _ _).mono ?_; rintro e w' ⟨rfl, rfl⟩)
              | (go_at_call 100; refine (cmp_byte _ _ _).mono ?_; rintro e w' ⟨rfl, rfl⟩))
          all_goals go_wp2_with fail
          all_goals go_ret
          all_goals exact ⟨by rw [HC.out]; rfl, below_drewN H.out.1 _⟩
      · obtain rfl : k = b.size := by omega
        have HC : Hid (cmpW (bs a) (bs b) = cmpI (a.size : Int) (b.size : Int)) := by
          show _ = _
          rw [← bs_len a, ← bs_len b]
          exact cmpW_end _ _ b.size (by rw [bs_len, bs_len]; omega) H.out.2
        go_wp2_with (go_at_call 102; refine (cmp_int _ _ _).mono ?_; rintro e w' ⟨rfl, rfl⟩)
        go_ret
        exact ⟨by rw [HC.out]; rfl, H.out.1⟩
  · have iab : ¬ (b.size : Int) < a.size := by omega
    go_enter Tryz.func78, Tryz.ntmps78
    go_wp2
    go_loopw [11] (fun i wr => ∃ k : Nat, k ≤ a.size ∧ i = .int .i64 k ∧ Hid (Below w.heap.size w wr ∧ (bs a).take k = (bs b).take k)) (fun i _ => a.size - (intOf i).toNat)
    case atStart => exact ⟨0, Nat.zero_le _, rfl, Below.refl _ _, rfl⟩
    case round =>
      obtain ⟨k, hk, rfl, H⟩ := hrel
      by_cases hlt : k < a.size
      · have i1 : (k : Int) < (a.size : Int) := by omega
        have ka : k < a.size := by omega
        have kb : k < b.size := by omega
        have i2 : (k : Int) < a.size := by omega
        have i3 : (k : Int) < b.size := by omega
        by_cases he : a[k] = b[k]
        · have HT : Hid ((bs a).take (k + 1) = (bs b).take (k + 1)) := by
            show _ = _
            rw [List.take_add_one, List.take_add_one, H.out.2, bs_get a k ka, bs_get b k kb, he]
          go_wp2_with fail
          go_quiet (fail)
          go_wp2_with fail
          go_roundw
          case rel => exact ⟨k + 1, by omega, by simp, below_drewN H.out.1 _, HT.out⟩
          case measure => simp [intOf]; omega
        · have j1 : ¬ (a[k].toNat : Int) = (b[k].toNat : Int) := fun e => he (UInt8.toNat_inj.1 (by omega))
          have HC : Hid (cmpW (bs a) (bs b) = cmpI ((wt a[k]).toNat : Int) ((wt b[k]).toNat : Int)) := by
            show _ = _
            have l1 : k < (bs a).length := by rw [bs_len]; exact ka
            have l2 : k < (bs b).length := by rw [bs_len]; exact kb
            exact cmpW_at (bs a) (bs b) k l1 l2 H.out.2 he HA.out.1 HA.out.2
          go_wp2_with fail
          go_quiet (fail)
          go_wp2_with fail
          go_region_held3 (fun _ => True)
            (trivial)
            (first
              | (go_at_call 101; refine (weight_any _ _).mono ?_; rintro e w' ⟨rfl, rfl⟩)
              | (go_at_call 100; refine (cmp_byte _ _ _).mono ?_; rintro e w' ⟨rfl, rfl⟩))
          all_goals go_wp2_with fail
          all_goals go_ret
          all_goals exact ⟨by rw [HC.out]; rfl, below_drewN H.out.1 _⟩
      · obtain rfl : k = a.size := by omega
        have HC : Hid (cmpW (bs a) (bs b) = cmpI (a.size : Int) (b.size : Int)) := by
          show _ = _
          rw [← bs_len a, ← bs_len b]
          exact cmpW_end _ _ a.size (by rw [bs_len, bs_len]; omega) H.out.2
        go_wp2_with (go_at_call 102; refine (cmp_int _ _ _).mono ?_; rintro e w' ⟨rfl, rfl⟩)
        go_ret
        exact ⟨by rw [HC.out]; rfl, H.out.1⟩

theorem Compare_any (a b : ByteArray) (w : World) (hsa : a.size ≤ 1000000) (hsb : b.size ≤ 1000000) :
    Calls Tryz.prog 55 #[.string a, .string b] w fun e w' => e = .returned (.int .i64 (ordP (bs a) (bs b))) ∧ Below w.heap.size w w' := by
  have hx := isPath_any a w (by unfold maxLen; omega)
  have hy := fun w => isPath_any b w (by unfold maxLen; omega)
  have hcs := fun w => cmp_str a b w
  have hcp := fun w h1 h2 => comparePaths_any a b w hsa hsb h1 h2
  unfold ordP
  cases h1 : isP (bs a) with
  | false =>
    rw [h1] at hx
    cases h2 : isP (bs b) with
    | false =>
      rw [h2] at hy
      generalize compareBytes (bs a) (bs b) = r at hcs ⊢
      go_enter Tryz.func55, Tryz.ntmps55
      go_wp2_with first
        | (go_at_call 77; refine hx.mono ?_; clear hx; rintro e w1 ⟨rfl, hB1⟩; replace hy := hy w1)
        | (go_at_call 77; refine hy.mono ?_; clear hy; rintro e w2 ⟨rfl, hB2⟩)
        | (go_at_call 79; refine (hcs _).mono ?_; rintro e w3 ⟨rfl, rfl⟩)
      go_ret
      exact ⟨rfl, hB1.trans (hB2.mono hB1.size)⟩
    | true =>
      rw [h2] at hy
      go_enter Tryz.func55, Tryz.ntmps55
      go_wp2_with first
        | (go_at_call 77; refine hx.mono ?_; clear hx; rintro e w1 ⟨rfl, hB1⟩; replace hy := hy w1)
        | (go_at_call 77; refine hy.mono ?_; clear hy; rintro e w2 ⟨rfl, hB2⟩)
      go_ret
      exact ⟨rfl, hB1.trans (hB2.mono hB1.size)⟩
  | true =>
    rw [h1] at hx
    cases h2 : isP (bs b) with
    | false =>
      rw [h2] at hy
      go_enter Tryz.func55, Tryz.ntmps55
      go_wp2_with first
        | (go_at_call 77; refine hx.mono ?_; clear hx; rintro e w1 ⟨rfl, hB1⟩; replace hy := hy w1)
        | (go_at_call 77; refine hy.mono ?_; clear hy; rintro e w2 ⟨rfl, hB2⟩)
      go_ret
      exact ⟨rfl, hB1.trans (hB2.mono hB1.size)⟩
    | true =>
      rw [h2] at hy
      have hcq := fun w => hcp w (isP_bytes _ h1) (isP_bytes _ h2)
      clear hcp
      generalize cmpW (bs a) (bs b) = r at hcq ⊢
      go_enter Tryz.func55, Tryz.ntmps55
      go_wp2_with first
        | (go_at_call 77; refine hx.mono ?_; clear hx; rintro e w1 ⟨rfl, hB1⟩; replace hy := hy w1)
        | (go_at_call 77; refine hy.mono ?_; clear hy; rintro e w2 ⟨rfl, hB2⟩)
        | (go_at_call 78; refine (hcq _).mono ?_; rintro e w3 ⟨rfl, hB3⟩)
      go_ret
      have h3 := hB1.trans (hB2.mono hB1.size)
      exact ⟨rfl, h3.trans (hB3.mono h3.size)⟩
end Go.Proofs.YtggnglgehobglaaGreatDoor

/- The walk of Compare, with how much was drawn; Compare as a sort takes it (gend.py, out of NRest and NCmp). -/
namespace Go.Proofs.YtggnglgehobglaaGreatDoor
open Go.RowKit Go.Shelf Go.Lib

attribute [local go_sem] Oper.semAt_some

theorem lod_drewN {B : Nat} {w w' : World} (h : LoD B w w') (n : Nat) : LoD B w (w'.drewN n) := ⟨below_drewN h.toBelow n, Nat.le_trans h.d (Nat.le_add_right _ _)⟩
theorem disPath_any (s : ByteArray) (w : World) (hs : s.size ≤ maxLen) :
    Calls Tryz.prog 77 #[.string s] w fun e w' => e = .returned (.bool (isP (bs s))) ∧ LoD w.heap.size w w' := by
  have hp := dpath_any s w hs
  obtain ⟨e1, h1⟩ : ∃ e1, e1 = (pathSpot (bs s)).1 := ⟨_, rfl⟩
  obtain ⟨e2, h2⟩ : ∃ e2, e2 = (pathSpot (bs s)).2 := ⟨_, rfl⟩
  simp only [spotV] at hp
  rw [← h1, ← h2] at hp
  have H : Hid (((e1 : Int) == 0) = isP (bs s)) := by
    show _ = _
    unfold isP
    rw [← h1, Bool.eq_iff_iff, beq_iff_eq, beq_iff_eq]; omega
  clear h1 h2
  have hfd := fun w => field0 (.int .i64 (e1 : Int)) (.int .i64 (e2 : Int)) w
  go_enter Tryz.func77, Tryz.ntmps77
  go_wp2_with (go_at_call 50; refine hp.mono ?_; rintro e w' ⟨rfl, hB⟩)
  go_ret
  exact ⟨by rw [← H.out]; rfl, hB⟩

set_option maxHeartbeats 2000000 in
theorem dcomparePaths_any (a b : ByteArray) (w : World) (hsa : a.size ≤ 1000000) (hsb : b.size ≤ 1000000) (ha : ∀ c ∈ bs a, 32 ≤ c.toNat) (hb : ∀ c ∈ bs b, 32 ≤ c.toNat) :
    Calls Tryz.prog 78 #[.string a, .string b] w fun e w' => e = .returned (.int .i64 (cmpW (bs a) (bs b))) ∧ LoD w.heap.size w w' := by
  have HA : Hid ((∀ c ∈ bs a, 32 ≤ c.toNat) ∧ ∀ c ∈ bs b, 32 ≤ c.toNat) := ⟨ha, hb⟩
  clear ha hb
  by_cases hab : b.size < a.size
  · have iab : (b.size : Int) < a.size := by omega
    go_enter Tryz.func78, Tryz.ntmps78
    go_wp2
    go_loopw [11] (fun i wr => ∃ k : Nat, k ≤ b.size ∧ i = .int .i64 k ∧ Hid (LoD w.heap.size w wr ∧ (bs a).take k = (bs b).take k)) (fun i _ => b.size - (intOf i).toNat)
    case atStart => exact ⟨0, Nat.zero_le _, rfl, LoD.refl _ _, rfl⟩
    case round =>
      obtain ⟨k, hk, rfl, H⟩ := hrel
      by_cases hlt : k < b.size
      · have i1 : (k : Int) < (b.size : Int) := by omega
        have ka : k < a.size := by omega
        have kb : k < b.size := by omega
        have i2 : (k : Int) < a.size := by omega
        have i3 : (k : Int) < b.size := by omega
        by_cases he : a[k] = b[k]
        · have HT : Hid ((bs a).take (k + 1) = (bs b).take (k + 1)) := by
            show _ = _
            rw [List.take_add_one, List.take_add_one, H.out.2, bs_get a k ka, bs_get b k kb, he]
          go_wp2_with fail
          go_quiet (fail)
          go_wp2_with fail
          go_roundw
          case rel => exact ⟨k + 1, by omega, by simp, lod_drewN H.out.1 _, HT.out⟩
          case measure => simp [intOf]; omega
        · have j1 : ¬ (a[k].toNat : Int) = (b[k].toNat : Int) := fun e => he (UInt8.toNat_inj.1 (by omega))
          have HC : Hid (cmpW (bs a) (bs b) = cmpI ((wt a[k]).toNat : Int) ((wt b[k]).toNat : Int)) := by
            show _ = _
            have l1 : k < (bs a).length := by rw [bs_len]; exact ka
            have l2 : k < (bs b).length := by rw [bs_len]; exact kb
            exact cmpW_at (bs a) (bs b) k l1 l2 H.out.2 he HA.out.1 HA.out.2
          go_wp2_with fail
          go_quiet (fail)
          go_wp2_with fail
          go_region_held3 (fun _ => True)
            (trivial)
            (first
              | (go_at_call 101; refine (weight_any _ _).mono ?_; rintro e w' ⟨rfl, rfl⟩)
              | (go_at_call 100; refine (cmp_byte _ _ _).mono ?_; rintro e w' ⟨rfl, rfl⟩))
          all_goals go_wp2_with fail
          all_goals go_ret
          all_goals exact ⟨by rw [HC.out]; rfl, lod_drewN H.out.1 _⟩
      · obtain rfl : k = b.size := by omega
        have HC : Hid (cmpW (bs a) (bs b) = cmpI (a.size : Int) (b.size : Int)) := by
          show _ = _
          rw [← bs_len a, ← bs_len b]
          exact cmpW_end _ _ b.size (by rw [bs_len, bs_len]; omega) H.out.2
        go_wp2_with (go_at_call 102; refine (cmp_int _ _ _).mono ?_; rintro e w' ⟨rfl, rfl⟩)
        go_ret
        exact ⟨by rw [HC.out]; rfl, H.out.1⟩
  · have iab : ¬ (b.size : Int) < a.size := by omega
    go_enter Tryz.func78, Tryz.ntmps78
    go_wp2
    go_loopw [11] (fun i wr => ∃ k : Nat, k ≤ a.size ∧ i = .int .i64 k ∧ Hid (LoD w.heap.size w wr ∧ (bs a).take k = (bs b).take k)) (fun i _ => a.size - (intOf i).toNat)
    case atStart => exact ⟨0, Nat.zero_le _, rfl, LoD.refl _ _, rfl⟩
    case round =>
      obtain ⟨k, hk, rfl, H⟩ := hrel
      by_cases hlt : k < a.size
      · have i1 : (k : Int) < (a.size : Int) := by omega
        have ka : k < a.size := by omega
        have kb : k < b.size := by omega
        have i2 : (k : Int) < a.size := by omega
        have i3 : (k : Int) < b.size := by omega
        by_cases he : a[k] = b[k]
        · have HT : Hid ((bs a).take (k + 1) = (bs b).take (k + 1)) := by
            show _ = _
            rw [List.take_add_one, List.take_add_one, H.out.2, bs_get a k ka, bs_get b k kb, he]
          go_wp2_with fail
          go_quiet (fail)
          go_wp2_with fail
          go_roundw
          case rel => exact ⟨k + 1, by omega, by simp, lod_drewN H.out.1 _, HT.out⟩
          case measure => simp [intOf]; omega
        · have j1 : ¬ (a[k].toNat : Int) = (b[k].toNat : Int) := fun e => he (UInt8.toNat_inj.1 (by omega))
          have HC : Hid (cmpW (bs a) (bs b) = cmpI ((wt a[k]).toNat : Int) ((wt b[k]).toNat : Int)) := by
            show _ = _
            have l1 : k < (bs a).length := by rw [bs_len]; exact ka
            have l2 : k < (bs b).length := by rw [bs_len]; exact kb
            exact cmpW_at (bs a) (bs b) k l1 l2 H.out.2 he HA.out.1 HA.out.2
          go_wp2_with fail
          go_quiet (fail)
          go_wp2_with fail
          go_region_held3 (fun _ => True)
            (trivial)
            (first
              | (go_at_call 101; refine (weight_any _ _).mono ?_; rintro e w' ⟨rfl, rfl⟩)
              | (go_at_call 100; refine (cmp_byte _ _ _).mono ?_; rintro e w' ⟨rfl, rfl⟩))
          all_goals go_wp2_with fail
          all_goals go_ret
          all_goals exact ⟨by rw [HC.out]; rfl, lod_drewN H.out.1 _⟩
      · obtain rfl : k = a.size := by omega
        have HC : Hid (cmpW (bs a) (bs b) = cmpI (a.size : Int) (b.size : Int)) := by
          show _ = _
          rw [← bs_len a, ← bs_len b]
          exact cmpW_end _ _ a.size (by rw [bs_len, bs_len]; omega) H.out.2
        go_wp2_with (go_at_call 102; refine (cmp_int _ _ _).mono ?_; rintro e w' ⟨rfl, rfl⟩)
        go_ret
        exact ⟨by rw [HC.out]; rfl, H.out.1⟩

theorem dCompare_any (a b : ByteArray) (w : World) (hsa : a.size ≤ 1000000) (hsb : b.size ≤ 1000000) :
    Calls Tryz.prog 55 #[.string a, .string b] w fun e w' => e = .returned (.int .i64 (ordP (bs a) (bs b))) ∧ LoD w.heap.size w w' := by
  have hx := disPath_any a w (by unfold maxLen; omega)
  have hy := fun w => disPath_any b w (by unfold maxLen; omega)
  have hcs := fun w => cmp_str a b w
  have hcp := fun w h1 h2 => dcomparePaths_any a b w hsa hsb h1 h2
  unfold ordP
  cases h1 : isP (bs a) with
  | false =>
    rw [h1] at hx
    cases h2 : isP (bs b) with
    | false =>
      rw [h2] at hy
      generalize compareBytes (bs a) (bs b) = r at hcs ⊢
      go_enter Tryz.func55, Tryz.ntmps55
      go_wp2_with first
        | (go_at_call 77; refine hx.mono ?_; clear hx; rintro e w1 ⟨rfl, hB1⟩; replace hy := hy w1)
        | (go_at_call 77; refine hy.mono ?_; clear hy; rintro e w2 ⟨rfl, hB2⟩)
        | (go_at_call 79; refine (hcs _).mono ?_; rintro e w3 ⟨rfl, rfl⟩)
      go_ret
      exact ⟨rfl, hB1.trans (hB2.mono hB1.size)⟩
    | true =>
      rw [h2] at hy
      go_enter Tryz.func55, Tryz.ntmps55
      go_wp2_with first
        | (go_at_call 77; refine hx.mono ?_; clear hx; rintro e w1 ⟨rfl, hB1⟩; replace hy := hy w1)
        | (go_at_call 77; refine hy.mono ?_; clear hy; rintro e w2 ⟨rfl, hB2⟩)
      go_ret
      exact ⟨rfl, hB1.trans (hB2.mono hB1.size)⟩
  | true =>
    rw [h1] at hx
    cases h2 : isP (bs b) with
    | false =>
      rw [h2] at hy
      go_enter Tryz.func55, Tryz.ntmps55
      go_wp2_with first
        | (go_at_call 77; refine hx.mono ?_; clear hx; rintro e w1 ⟨rfl, hB1⟩; replace hy := hy w1)
        | (go_at_call 77; refine hy.mono ?_; clear hy; rintro e w2 ⟨rfl, hB2⟩)
      go_ret
      exact ⟨rfl, hB1.trans (hB2.mono hB1.size)⟩
    | true =>
      rw [h2] at hy
      have hcq := fun w => hcp w (isP_bytes _ h1) (isP_bytes _ h2)
      clear hcp
      generalize cmpW (bs a) (bs b) = r at hcq ⊢
      go_enter Tryz.func55, Tryz.ntmps55
      go_wp2_with first
        | (go_at_call 77; refine hx.mono ?_; clear hx; rintro e w1 ⟨rfl, hB1⟩; replace hy := hy w1)
        | (go_at_call 77; refine hy.mono ?_; clear hy; rintro e w2 ⟨rfl, hB2⟩)
        | (go_at_call 78; refine (hcq _).mono ?_; rintro e w3 ⟨rfl, hB3⟩)
      go_ret
      have h3 := hB1.trans (hB2.mono hB1.size)
      exact ⟨rfl, h3.trans (hB3.mono h3.size)⟩
end Go.Proofs.YtggnglgehobglaaGreatDoor
