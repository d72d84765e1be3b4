/- Two commits held against one another. -/
import Derived.Test.YtdibdcbihleflabOInj
import Derived.Test.YtdibdcbihleflabOSame
namespace Go.Proofs.Ytdibdcbihleflab
open Go.RowKit

attribute [local go_sem] Oper.semAt_some

set_option maxHeartbeats 2000000 in
theorem ids_any (w : World) (a b : Option Addr) (n m c d : Nat) (l k : List Int) (h : Ids w a n l) (h' : Ids w b m k) (hn : n ≤ 9223372036854775807) (hm : m ≤ 9223372036854775807) :
    Calls Try.prog 24 #[.slice a n c, .slice b m d] w fun e w' => e = .returned (.bool (decide (l = k))) ∧ Below w.heap.size w w' := by
  by_cases hnm : n = m
  · subst hnm
    go_enter Try.func24, Try.ntmps24
    go_wp2
    go_loopw [13] (fun i wr => ∃ j : Nat, j ≤ n ∧ i = .int .i64 j ∧ Hid (Below w.heap.size w wr ∧ l.take j = k.take j)) (fun i _ => n - (intOf i).toNat)
    case atStart => exact ⟨0, Nat.zero_le _, rfl, Below.refl _ _, rfl⟩
    case round =>
      obtain ⟨j, hj, rfl, H⟩ := hrel
      by_cases hlt : j < n
      · obtain ⟨x, hx⟩ : ∃ x, l[j]? = some x := ⟨_, List.getElem?_eq_getElem (by rw [h.1]; exact hlt)⟩
        obtain ⟨y, hy⟩ : ∃ y, k[j]? = some y := ⟨_, List.getElem?_eq_getElem (by rw [h'.1]; exact hlt)⟩
        obtain ⟨b1, o1, rfl, hc1⟩ := h.2 (by omega)
        obtain ⟨b2, o2, rfl, hc2⟩ := h'.2 (by omega)
        have q1 : wr.cell? ⟨b1, o1 + j, none⟩ = some (.int .u64 x) := (H.out.1.cell (p := ⟨b1, o1 + j, none⟩) (World.block_lt_of_cell? w _ (hc1 j x hx))).trans (hc1 j x hx)
        have q2 : wr.cell? ⟨b2, o2 + j, none⟩ = some (.int .u64 y) := (H.out.1.cell (p := ⟨b2, o2 + j, none⟩) (World.block_lt_of_cell? w _ (hc2 j y hy))).trans (hc2 j y hy)
        have i1 : (j : Int) < (n : Int) := by omega
        have i2 : ¬ n ≤ j := by omega
        by_cases hxy : x = y
        · subst hxy
          have HT : Hid (l.take (j + 1) = k.take (j + 1)) := (by rw [List.take_add_one, List.take_add_one, hx, hy, H.out.2] : l.take (j + 1) = k.take (j + 1))
          clear hc1 h hx hc2 h' hy
          go_wp2_with fail
          go_quiet (fail)
          go_wp2_with fail
          go_roundw
          case rel => exact ⟨j + 1, by omega, by simp, below_drewN H.out.1 _, HT.out⟩
          case measure => simp [intOf]; omega
        · have hb : (x == y) = false := beq_eq_false_iff_ne.2 hxy
          have HD : Hid (decide (l = k) = false) := (decide_eq_false fun e => hxy (by rw [e, hy] at hx; exact (Option.some.inj hx).symm) : decide (l = k) = false)
          clear hc1 h hx hc2 h' hy
          go_wp2_with fail
          go_quiet (fail)
          go_wp2
          go_ret
          exact ⟨by rw [HD.out]; rfl, below_drewN H.out.1 _⟩
      · obtain rfl : j = n := by omega
        have hd : decide (l = k) = true := by
          have h1 := H.out.2
          rw [List.take_of_length_le (by rw [h.1]; exact Nat.le_refl _), List.take_of_length_le (by rw [h'.1]; exact Nat.le_refl _)] at h1
          simp [h1]
        go_wp2
        go_ret
        exact ⟨by rw [hd]; rfl, H.out.1⟩
  · have hd : decide (l = k) = false := decide_eq_false fun e => hnm (by rw [← h.1, ← h'.1, e])
    have i1 : ¬ (n : Int) = (m : Int) := by omega
    go_enter Try.func24, Try.ntmps24
    go_wp2
    go_ret
    exact ⟨by rw [hd]; rfl, Below.refl _ _⟩

theorem str_ne {a b : ByteArray} (h : a ≠ b) : (a.toList == b.toList) = false := by
  rw [beq_eq_false_iff_ne]
  intro e
  apply h
  have e' : a.data.toList = b.data.toList := by rw [← ByteArray.toList_eq, ← ByteArray.toList_eq]; exact e
  cases a; cases b
  simpa using e'
/-- two commits are one -/
def oneC (t t' : Int) (ps ps' : List Int) (au au' : ByteArray) (d d' : Int) (tx tx' : ByteArray) : Prop := t = t' ∧ ps = ps' ∧ au = au' ∧ d = d' ∧ tx = tx'
instance (t t' : Int) (ps ps' : List Int) (au au' : ByteArray) (d d' : Int) (tx tx' : ByteArray) : Decidable (oneC t t' ps ps' au au' d d' tx tx') := by unfold oneC; exact inferInstance
set_option maxRecDepth 20000 in
set_option maxHeartbeats 4000000 in
theorem commits_any (t t' : Int) (pa pa' : Option Addr) (pn pn' pc pc' : Nat) (au au' : ByteArray) (d d' : Int) (tx tx' : ByteArray) (w : World) (l l' : List Int) (h : Ids w pa pn l) (h' : Ids w pa' pn' l') (hn : pn ≤ 9223372036854775807) (hn' : pn' ≤ 9223372036854775807) :
    Calls Try.prog 17 #[cmt t pa pn pc au d tx, cmt t' pa' pn' pc' au' d' tx'] w fun e w' => e = .returned (.bool (decide (oneC t t' l l' au au' d d' tx tx'))) ∧ Below w.heap.size w w' := by
  have hB0 : Below w.heap.size w ((w.alloc (.cells #[.int .u64 t, .slice pa pn pc, .string au, .int .i64 d, .string tx] 28)).alloc (.cells #[.int .u64 t', .slice pa' pn' pc', .string au', .int .i64 d', .string tx'] 28)) := ((Below.refl _ w).alloc (Nat.le_refl _) _).alloc (by simp) _
  have b1 := (Box5.new w (.int .u64 t) (.slice pa pn pc) (.string au) (.int .i64 d) (.string tx)).kept ((Below.refl _ _).alloc (Nat.le_refl _) (.cells #[.int .u64 t', .slice pa' pn' pc', .string au', .int .i64 d', .string tx'] 28))
  have b2 := Box5.new (w.alloc (.cells #[.int .u64 t, .slice pa pn pc, .string au, .int .i64 d, .string tx] 28)) (.int .u64 t') (.slice pa' pn' pc') (.string au') (.int .i64 d') (.string tx')
  rw [World.size_alloc] at b2
  have cs := ids_any _ pa pa' pn pn' pc pc' l l' (h.kept hB0) (h'.kept hB0) hn hn'
  by_cases h1 : t = t'
  · subst h1
    by_cases h2 : l = l'
    · have hd2 : decide (l = l') = true := by simp [h2]
      rw [hd2] at cs
      by_cases h3 : au = au'
      · subst h3
        have e1 : (au.toList == au.toList) = true := by simp
        by_cases h4 : d = d'
        · subst h4
          by_cases h5 : tx = tx'
          · subst h5
            have e2 : (tx.toList == tx.toList) = true := by simp
            have hd : decide (oneC t t l l' au au d d tx tx) = true := by simp [oneC, h2]
            rw [hd]
            clear h2 hd2 hd
            go_enter Try.func17, Try.ntmps17
            go_wp2_with (go_at_call 24; refine cs.mono ?_; clear cs; rintro e w1 ⟨rfl, hB⟩; obtain ⟨p0, p1, p2, p3, p4⟩ := (b1.kept hB).cell; obtain ⟨q0, q1, q2, q3, q4⟩ := (b2.kept hB).cell)
            go_ret
            exact ⟨rfl, hB0.trans (hB.mono hB0.size)⟩
          · have e2 := str_ne h5
            have hd : decide (oneC t t l l' au au d d tx tx') = false := by simp [oneC, h5]
            rw [hd]
            clear h2 hd2 hd h5
            go_enter Try.func17, Try.ntmps17
            go_wp2_with (go_at_call 24; refine cs.mono ?_; clear cs; rintro e w1 ⟨rfl, hB⟩; obtain ⟨p0, p1, p2, p3, p4⟩ := (b1.kept hB).cell; obtain ⟨q0, q1, q2, q3, q4⟩ := (b2.kept hB).cell)
            go_ret
            exact ⟨rfl, hB0.trans (hB.mono hB0.size)⟩
        · have e2 : (d == d') = false := beq_eq_false_iff_ne.2 h4
          have hd : decide (oneC t t l l' au au d d' tx tx') = false := by simp [oneC, h4]
          rw [hd]
          clear h2 hd2 hd
          go_enter Try.func17, Try.ntmps17
          go_wp2_with (go_at_call 24; refine cs.mono ?_; clear cs; rintro e w1 ⟨rfl, hB⟩; obtain ⟨p0, p1, p2, p3, p4⟩ := (b1.kept hB).cell; obtain ⟨q0, q1, q2, q3, q4⟩ := (b2.kept hB).cell)
          go_ret
          exact ⟨rfl, hB0.trans (hB.mono hB0.size)⟩
      · have e1 := str_ne h3
        have hd : decide (oneC t t l l' au au' d d' tx tx') = false := by simp [oneC, h3]
        rw [hd]
        clear h2 hd2 hd h3
        go_enter Try.func17, Try.ntmps17
        go_wp2_with (go_at_call 24; refine cs.mono ?_; clear cs; rintro e w1 ⟨rfl, hB⟩; obtain ⟨p0, p1, p2, p3, p4⟩ := (b1.kept hB).cell; obtain ⟨q0, q1, q2, q3, q4⟩ := (b2.kept hB).cell)
        go_ret
        exact ⟨rfl, hB0.trans (hB.mono hB0.size)⟩
    · have hd2 : decide (l = l') = false := by simp [h2]
      rw [hd2] at cs
      have hd : decide (oneC t t l l' au au' d d' tx tx') = false := by simp [oneC, h2]
      rw [hd]
      clear h2 hd2 hd
      go_enter Try.func17, Try.ntmps17
      go_wp2_with (go_at_call 24; refine cs.mono ?_; clear cs; rintro e w1 ⟨rfl, hB⟩)
      go_ret
      exact ⟨rfl, hB0.trans (hB.mono hB0.size)⟩
  · have e1 : (t == t') = false := beq_eq_false_iff_ne.2 h1
    have hd : decide (oneC t t' l l' au au' d d' tx tx') = false := by simp [oneC, h1]
    rw [hd]
    clear hd cs
    go_enter Try.func17, Try.ntmps17
    go_wp2
    go_ret
    exact ⟨rfl, hB0⟩
end Go.Proofs.Ytdibdcbihleflab
