import Derived.Test.YtggnglgehobglaaGreatDoorN12
import Derived.Test.YtggnglgehobglaaGreatDoorN05
/- The walks of rule's isPath and Check. -/
namespace Go.Proofs.YtggnglgehobglaaGreatDoor
open Go.RowKit Go.Shelf

attribute [local go_sem] Oper.semAt_some

theorem uisPath_any (s : ByteArray) (w : World) (hs : s.size ≤ maxLen) :
    Calls Tryz.prog 86 #[.string s] w fun e w' => e = .returned (.bool (isP (bs s))) ∧ Below w.heap.size w w' := by
  have hp := path_any s w hs
  obtain ⟨e1, h1⟩ : ∃ e1, e1 = (pathSpot (bs s)).1 := ⟨_, rfl⟩
  obtain ⟨e2, h2⟩ : ∃ e2, e2 = (pathSpot (bs s)).2 := ⟨_, rfl⟩
  simp only [spotV] at hp
  rw [← h1, ← h2] at hp
  have H : Hid (((e1 : Int) == 0) = isP (bs s)) := by
    show _ = _
    unfold isP
    rw [← h1, Bool.eq_iff_iff, beq_iff_eq, beq_iff_eq]; omega
  clear h1 h2
  have hfd := fun w => field0 (.int .i64 (e1 : Int)) (.int .i64 (e2 : Int)) w
  go_enter Tryz.func86, Tryz.ntmps86
  go_wp2_with (go_at_call 50; refine hp.mono ?_; rintro e w' ⟨rfl, hB⟩)
  go_ret
  exact ⟨by rw [← H.out]; rfl, hB⟩

def chkE (r : Ru) : Int := if okR r = true then 0 else 2

theorem boxes_ (w : World) (o : Obj) (k : Int) (f t : ByteArray) : BoxR ((w.alloc (.cells #[.int .i64 k, .string f, .string t] 31)).alloc o) w.heap.size k f t :=
  (Below.heap_alloc _ _ _ (by simp)).trans (BoxR.new w k f t)
theorem two_below {w w2 : World} {o o' : Obj} (h : Below ((w.alloc o).alloc o').heap.size ((w.alloc o).alloc o') w2) : Below w.heap.size w w2 :=
  (((Below.refl _ w).alloc (Nat.le_refl _) _).alloc (by simp) _).trans (h.mono (by simp; omega))
theorem two_refl (w : World) (o o' : Obj) : Below w.heap.size w ((w.alloc o).alloc o') := ((Below.refl _ w).alloc (Nat.le_refl _) _).alloc (by simp) _

set_option maxRecDepth 100000 in
set_option maxHeartbeats 4000000 in
theorem ucheck_any (k : Int) (f t : ByteArray) (w : World) (hf : f.size ≤ maxLen) (ht : t.size ≤ maxLen) :
    Calls Tryz.prog 64 #[rv k f t] w fun e w' => e = .returned (.int .i64 (chkE (k, bs f, bs t))) ∧ Below w.heap.size w w' := by
  have hpf := fun W => uisPath_any f W hf
  have hpt := fun W => uisPath_any t W ht
  obtain ⟨E, hE⟩ : ∃ E, E = chkE (k, bs f, bs t) := ⟨_, rfl⟩
  rw [← hE]
  unfold chkE okR at hE
  simp only at hE
  generalize isP (bs f) = pf at *
  by_cases hk1 : k = 1
  · subst hk1
    by_cases htn : bs t = []
    · obtain rfl : t = ⟨#[]⟩ := bs_inj htn
      have e1 : isP (bs ⟨#[]⟩) = true := isP_nil
      rw [e1] at hpt hE
      cases pf with
      | true =>
        have HE : Hid (E = 0) := by rw [hE]; rfl
        clear hE htn
        go_enter Tryz.func64, Tryz.ntmps64
        go_wp2_with first
          | (go_at_call 86; refine (hpf _).mono ?_; clear hpf; rintro e w2 ⟨rfl, hB2⟩; have q2 := (hB2.cell (p := ⟨w.heap.size, 2, none⟩) (by simp; omega)).trans ((boxes_ w _ 1 f ⟨#[]⟩).cell.2.2); have HB : Hid (Below w.heap.size w w2) := two_below hB2; clear hB2)
          | (go_at_call 86; refine (hpt _).mono ?_; clear hpt; rintro e w3 ⟨rfl, hB3⟩)
        go_ret
        exact ⟨by rw [HE.out]; rfl, HB.out.trans (hB3.mono HB.out.size)⟩
      | false =>
        have HE : Hid (E = 2) := by rw [hE]; rfl
        clear hE htn hpt
        go_enter Tryz.func64, Tryz.ntmps64
        go_wp2_with (go_at_call 86; refine (hpf _).mono ?_; clear hpf; rintro e w2 ⟨rfl, hB2⟩; have HB : Hid (Below w.heap.size w w2) := two_below hB2; clear hB2)
        go_ret
        exact ⟨by rw [HE.out]; rfl, HB.out⟩
    · have hem : t.toList.isEmpty = false := by rw [str_empty]; exact decide_eq_false htn
      have HE : Hid (E = 2) := by show E = 2; rw [hE]; simp [htn]
      clear hE htn hpt hpf
      go_enter Tryz.func64, Tryz.ntmps64
      go_wp2
      go_ret
      exact ⟨by rw [HE.out]; rfl, two_refl _ _ _⟩
  by_cases hk2 : k = 2
  · subst hk2
    by_cases htn : bs t = []
    · obtain rfl : t = ⟨#[]⟩ := bs_inj htn
      have e1 : isP (bs ⟨#[]⟩) = true := isP_nil
      rw [e1] at hpt hE
      cases pf with
      | true =>
        have HE : Hid (E = 0) := by rw [hE]; rfl
        clear hE htn
        go_enter Tryz.func64, Tryz.ntmps64
        go_wp2_with first
          | (go_at_call 86; refine (hpf _).mono ?_; clear hpf; rintro e w2 ⟨rfl, hB2⟩; have q2 := (hB2.cell (p := ⟨w.heap.size, 2, none⟩) (by simp; omega)).trans ((boxes_ w _ 2 f ⟨#[]⟩).cell.2.2); have HB : Hid (Below w.heap.size w w2) := two_below hB2; clear hB2)
          | (go_at_call 86; refine (hpt _).mono ?_; clear hpt; rintro e w3 ⟨rfl, hB3⟩)
        go_ret
        exact ⟨by rw [HE.out]; rfl, HB.out.trans (hB3.mono HB.out.size)⟩
      | false =>
        have HE : Hid (E = 2) := by rw [hE]; rfl
        clear hE htn hpt
        go_enter Tryz.func64, Tryz.ntmps64
        go_wp2_with (go_at_call 86; refine (hpf _).mono ?_; clear hpf; rintro e w2 ⟨rfl, hB2⟩; have HB : Hid (Below w.heap.size w w2) := two_below hB2; clear hB2)
        go_ret
        exact ⟨by rw [HE.out]; rfl, HB.out⟩
    · have hem : t.toList.isEmpty = false := by rw [str_empty]; exact decide_eq_false htn
      have HE : Hid (E = 2) := by show E = 2; rw [hE]; simp [htn]
      clear hE htn hpt hpf
      go_enter Tryz.func64, Tryz.ntmps64
      go_wp2
      go_ret
      exact ⟨by rw [HE.out]; rfl, two_refl _ _ _⟩
  by_cases hk3 : k = 3
  · subst hk3
    generalize isP (bs t) = pt at *
    cases pf with
    | true =>
      have HE : Hid (E = if pt = true then 0 else 2) := by rw [hE]; cases pt <;> rfl
      clear hE hk1 hk2
      go_enter Tryz.func64, Tryz.ntmps64
      cases pt with
      | true =>
        go_wp2_with first
          | (go_at_call 86; refine (hpf _).mono ?_; clear hpf; rintro e w2 ⟨rfl, hB2⟩; have q2 := (hB2.cell (p := ⟨w.heap.size, 2, none⟩) (by simp; omega)).trans ((boxes_ w _ 3 f t).cell.2.2); have HB : Hid (Below w.heap.size w w2) := two_below hB2; clear hB2)
          | (go_at_call 86; refine (hpt _).mono ?_; clear hpt; rintro e w3 ⟨rfl, hB3⟩)
        go_ret
        exact ⟨by rw [HE.out]; rfl, HB.out.trans (hB3.mono HB.out.size)⟩
      | false =>
        go_wp2_with first
          | (go_at_call 86; refine (hpf _).mono ?_; clear hpf; rintro e w2 ⟨rfl, hB2⟩; have q2 := (hB2.cell (p := ⟨w.heap.size, 2, none⟩) (by simp; omega)).trans ((boxes_ w _ 3 f t).cell.2.2); have HB : Hid (Below w.heap.size w w2) := two_below hB2; clear hB2)
          | (go_at_call 86; refine (hpt _).mono ?_; clear hpt; rintro e w3 ⟨rfl, hB3⟩)
        go_ret
        exact ⟨by rw [HE.out]; rfl, HB.out.trans (hB3.mono HB.out.size)⟩
    | false =>
      have HE : Hid (E = 2) := by rw [hE]; rfl
      clear hE hpt hk1 hk2
      go_enter Tryz.func64, Tryz.ntmps64
      go_wp2_with (go_at_call 86; refine (hpf _).mono ?_; clear hpf; rintro e w2 ⟨rfl, hB2⟩; have HB : Hid (Below w.heap.size w w2) := two_below hB2; clear hB2)
      go_ret
      exact ⟨by rw [HE.out]; rfl, HB.out⟩
  · have HE : Hid (E = 2) := by show E = 2; rw [hE]; simp [hk1, hk2, hk3]
    clear hE hpf hpt
    go_enter Tryz.func64, Tryz.ntmps64
    go_wp2
    go_ret
    exact ⟨by rw [HE.out]; rfl, two_refl _ _ _⟩
end Go.Proofs.YtggnglgehobglaaGreatDoor
