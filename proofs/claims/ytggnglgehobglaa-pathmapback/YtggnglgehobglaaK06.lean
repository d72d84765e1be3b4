import Derived.Test.YtggnglgehobglaaK05
/- The walks of what stands on Path: isPath, count, rest, Rest, In, firstErr, join, Move. -/
namespace Go.Proofs.Ytggnglgehobglaa
open Go.RowKit Go.Shelf

attribute [local go_sem] Oper.semAt_some

theorem field0 (a b : Value) (w : World) : (Instr.field 75 (.agg #[a, b]) 0).run Try.prog w = .ok a w := by kernel_rfl
theorem isPath_any (s : ByteArray) (w : World) (hs : s.size ≤ maxLen) :
    Calls Try.prog 55 #[.string s] w fun e w' => e = .returned (.bool (isP (bs s))) ∧ Below w.heap.size w w' := by
  have hp := path_any s w hs
  obtain ⟨e1, h1⟩ : ∃ e1, e1 = (pathSpot (bs s)).1 := ⟨_, rfl⟩
  obtain ⟨e2, h2⟩ : ∃ e2, e2 = (pathSpot (bs s)).2 := ⟨_, rfl⟩
  simp only [spotV] at hp
  rw [← h1, ← h2] at hp
  have H : Hid (((e1 : Int) == 0) = isP (bs s)) := by
    show _ = _
    unfold isP
    rw [← h1, Bool.eq_iff_iff, beq_iff_eq, beq_iff_eq]; omega
  clear h1 h2
  have hfd := fun w => field0 (.int .i64 (e1 : Int)) (.int .i64 (e2 : Int)) w
  go_enter Try.func55, Try.ntmps55
  go_wp2_with (go_at_call 47; refine hp.mono ?_; rintro e w' ⟨rfl, hB⟩)
  go_ret
  exact ⟨by rw [← H.out]; rfl, hB⟩

/-- how many rounds have been -/
structure CountI {s : ByteArray} (w : World) (pre : List (Pc s)) (W : World) : Prop where
  n : Boxed W w.heap.size 3 (.int .i64 (pre.length : Int))
  p : Boxed W (w.heap.size + 1) 9 (.string s)
  b : Below w.heap.size w W
theorem countI_own {s : ByteArray} (w : World) (b0 : Nat) (h0 : w.heap.size ≤ b0) : OwnFrom b0 (CountI (s := s) w) := fun _ _ _ _ hs hg hr =>
  ⟨boxed_keep hs.n hg hr, boxed_keep hs.p hg hr, below_keep hs.b (Nat.le_refl _) h0 hg hr⟩

theorem parts_count (l : List UInt8) : (parts l).length ≤ l.length + 1 := by
  have h : ∀ (l cur : List UInt8), (cutS cur l).length ≤ l.length + 1 := by
    intro l
    induction l with
    | nil => intro cur; simp [cutS]
    | cons c t ih =>
      intro cur
      unfold cutS
      split
      · have := ih []; simp only [List.length_cons]; omega
      · have := ih (cur ++ [c]); simp only [List.length_cons]; omega
  unfold parts
  split
  · simp
  · exact h l []

theorem lite_cut (s p : ByteArray) (w : World) (hs : s.size ≤ 1000000) (hp : p.size ≤ 1000000) :
    Calls Try.prog 71 #[.string s, .string p] w fun e w' => e = .returned (.tuple #[.string (if pre (bs p) (bs s) then s.extract p.size s.size else s), .bool (pre (bs p) (bs s))]) ∧ w' = w := by
  have hx := lite_prefix s p w (by unfold maxLen; omega) (by unfold maxLen; omega)
  cases hpr : pre (bs p) (bs s) with
  | false =>
    rw [hpr] at hx
    go_enter Try.func71, Try.ntmps71
    go_wp2_with (go_at_call 70; refine hx.mono ?_; rintro e w' ⟨rfl, rfl⟩)
    go_ret2
    exact ⟨rfl, rfl⟩
  | true =>
    have hle : p.size ≤ s.size := by have := ((pre_iff _ _).1 hpr).length_le; rw [bs_len, bs_len] at this; exact this
    have i1 : (p.size : Int) ≤ s.size := by omega
    rw [hpr] at hx
    go_enter Try.func71, Try.ntmps71
    go_wp2_with (go_at_call 70; refine hx.mono ?_; rintro e w' ⟨rfl, rfl⟩)
    go_ret2
    exact ⟨rfl, rfl⟩
theorem cut_prefix (s p : ByteArray) (w : World) (hs : s.size ≤ 1000000) (hp : p.size ≤ 1000000) :
    Calls Try.prog 59 #[.string s, .string p] w fun e w' => e = .returned (.tuple #[.string (if pre (bs p) (bs s) then s.extract p.size s.size else s), .bool (pre (bs p) (bs s))]) ∧ w' = w := by
  have hx := lite_cut s p w hs hp
  generalize (if pre (bs p) (bs s) then s.extract p.size s.size else s) = S at hx ⊢
  generalize pre (bs p) (bs s) = b at hx ⊢
  go_enter Try.func59, Try.ntmps59
  go_wp2_with (go_at_call 71; refine hx.mono ?_; rintro e w' ⟨rfl, rfl⟩)
  go_ret2
  exact ⟨rfl, rfl⟩

def restS (p q : ByteArray) : ByteArray := mk ((restP (bs p) (bs q)).getD [])
def restB (p q : ByteArray) : Bool := (restP (bs p) (bs q)).isSome
theorem restP_len (p q r : List UInt8) (h : restP p q = some r) : r.length ≤ p.length := by
  unfold restP at h
  split at h
  · cases h; exact Nat.le_refl _
  · split at h
    · cases h; simp
    · split at h
      · cases h; rw [List.length_drop]; omega
      · cases h
theorem restS_size (p q : ByteArray) : (restS p q).size ≤ p.size := by
  unfold restS
  rw [← bs_len, bs_mk, ← bs_len p]
  cases h : restP (bs p) (bs q) with
  | none => simp
  | some r => exact restP_len _ _ _ h

end Go.Proofs.Ytggnglgehobglaa
