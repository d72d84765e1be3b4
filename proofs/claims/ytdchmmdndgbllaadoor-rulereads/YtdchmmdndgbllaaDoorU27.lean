import Derived.Test.YtdchmmdndgbllaaDoorU23
import Derived.Test.YtdchmmdndgbllaaDoorU26
/- The document's answer for rules: Is, Wrong, path, rule. -/
namespace Go.Proofs.YtdchmmdndgbllaaDoor
open Go.RowKit Go.Shelf

attribute [local go_sem] Oper.semAt_some

theorem urefIs_any (s : ByteArray) (w : World) (hs : s.size ≤ 1000000) :
    Calls Tryd.prog 42 #[.string s] w fun e w' => e = .returned (.bool (isP (bs s))) ∧ Below w.heap.size w w' := by
  have hp := refPath_any s w hs
  obtain ⟨e1, h1⟩ : ∃ e1, e1 = (pathSpot (bs s)).1 := ⟨_, rfl⟩
  obtain ⟨e2, h2⟩ : ∃ e2, e2 = (pathSpot (bs s)).2 := ⟨_, rfl⟩
  simp only [spotV] at hp
  rw [← h1, ← h2] at hp
  have H : Hid (((e1 : Int) == 0) = isP (bs s)) := by
    show _ = _
    unfold isP
    rw [← h1, Bool.eq_iff_iff, beq_iff_eq, beq_iff_eq]; omega
  clear h1 h2
  have hfd := fun w => field0 (.int .i64 (e1 : Int)) (.int .i64 (e2 : Int)) w
  go_enter Tryd.func42, Tryd.ntmps42
  go_wp2_with (go_at_call 54; refine hp.mono ?_; rintro e w' ⟨rfl, hB⟩)
  go_ret
  exact ⟨by rw [← H.out]; rfl, hB⟩
theorem urefWrong_any (s : ByteArray) (w : World) (hs : s.size ≤ 1000000) :
    Calls Tryd.prog 22 #[.string s] w fun e w' => e = .returned (.bool (!isP (bs s))) ∧ Below w.heap.size w w' := by
  have hp := urefIs_any s w hs
  generalize isP (bs s) = P at *
  go_enter Tryd.func22, Tryd.ntmps22
  go_wp2_with (go_at_call 42; refine hp.mono ?_; rintro e w' ⟨rfl, hB⟩)
  go_ret
  exact ⟨by cases P <;> rfl, hB⟩

def pathT (s : List UInt8) : List UInt8 := if s = [47] then [] else s
theorem pathT_some {s p : List UInt8} (h : pathW s = some p) : pathT s = p := by
  unfold pathW at h
  unfold pathT
  split at h
  · rename_i e; cases h; rw [if_pos e]
  · rename_i e
    rw [if_neg e]
    split at h
    · cases h
    · cases h; rfl
theorem rpath13_any (s : ByteArray) (w : World) (hs : s.size ≤ 1000000) : Calls Tryd.prog 49 #[.string s] w fun e w' => e = .returned (.tuple #[.string (mk (pathT (bs s))), .bool (pathW (bs s)).isSome]) ∧ Below w.heap.size w w' := by
  have hp := fun W => urefWrong_any s W hs
  by_cases h1 : bs s = [47]
  · obtain rfl : s = ⟨#[47]⟩ := bs_inj h1
    clear h1 hp
    go_enter Tryd.func49, Tryd.ntmps49
    go_wp2
    go_ret2
    exact ⟨rfl, Below.refl _ _⟩
  by_cases h2 : bs s = []
  · obtain rfl : s = ⟨#[]⟩ := bs_inj h2
    clear h1 h2 hp
    go_enter Tryd.func49, Tryd.ntmps49
    go_wp2
    go_ret2
    exact ⟨rfl, Below.refl _ _⟩
  · have e1 := str_ne h1
    have hem : s.toList.isEmpty = false := by rw [str_empty]; exact decide_eq_false h2
    have HE : Hid ((pathW (bs s)).isSome = isP (bs s) ∧ mk (pathT (bs s)) = s) := by
      refine ⟨?_, ?_⟩
      · unfold pathW
        rw [if_neg h1]
        cases isP (bs s) <;> simp [h2]
      · unfold pathT
        rw [if_neg h1, mk_bs]
    clear h1 h2
    generalize isP (bs s) = P at *
    cases P with
    | true =>
      go_enter Tryd.func49, Tryd.ntmps49
      go_wp2_with (go_at_call 22; refine (hp _).mono ?_; clear hp; rintro e w2 ⟨rfl, hB2⟩)
      go_ret2
      exact ⟨by rw [HE.out.1, HE.out.2]; rfl, hB2⟩
    | false =>
      go_enter Tryd.func49, Tryd.ntmps49
      go_wp2_with (go_at_call 22; refine (hp _).mono ?_; clear hp; rintro e w2 ⟨rfl, hB2⟩)
      go_ret2
      exact ⟨by rw [HE.out.1, HE.out.2]; rfl, hB2⟩
end Go.Proofs.YtdchmmdndgbllaaDoor
