import Derived.Test.YtggnglgehobglaaK12
/- The lines of a text, over bytes. -/
namespace Go.Proofs.Ytggnglgehobglaa

/-- cut at the bytes 10; what is left open at the end is a line if it has a byte -/
def cutN : List UInt8 → List UInt8 → List (List UInt8)
  | cur, [] => if cur = [] then [] else [cur]
  | cur, c :: t => if c = 10 then cur :: cutN [] t else cutN (cur ++ [c]) t
def linesL (l : List UInt8) : List (List UInt8) := cutN [] l
def nums : Nat → List (List UInt8) → List (Nat × List UInt8)
  | _, [] => []
  | k, l :: r => (k, l) :: nums (k + 1) r
theorem cutN_run : ∀ (n cur r : List UInt8), (10 : UInt8) ∉ n → cutN cur (n ++ r) = cutN (cur ++ n) r
  | [], cur, r, _ => by simp
  | c :: t, cur, r, h => by
    have hc : c ≠ 10 := fun e => h (by simp [e])
    show cutN cur (c :: (t ++ r)) = _
    rw [cutN, if_neg hc, cutN_run t _ r (fun hm => h (by simp [hm])), List.append_assoc]; rfl
theorem nums_len : ∀ (ls : List (List UInt8)) (k : Nat), (nums k ls).length = ls.length
  | [], _ => rfl
  | _ :: r, k => by simp [nums, nums_len r]
theorem nums_get : ∀ (ls : List (List UInt8)) (k i : Nat), (nums k ls)[i]? = (ls[i]?).map fun l => (k + i, l)
  | [], k, i => by simp [nums]
  | l :: r, k, 0 => by simp [nums]
  | l :: r, k, i + 1 => by
    simp only [nums, List.getElem?_cons_succ]
    rw [nums_get r (k + 1) i, show k + 1 + i = k + (i + 1) by omega]
theorem dec_ten (l : List UInt8) (hl : l ≠ []) (h : (dec l).1 = 10) : (dec l).2 = 1 ∧ ∃ t, l = 10 :: t := by
  obtain ⟨c, t, rfl, hc, hw⟩ := dec_low l hl (by omega)
  refine ⟨hw, t, ?_⟩
  rw [h] at hc
  rw [show c = 10 from UInt8.toNat_inj.1 hc]
theorem piece_ten (l : List UInt8) (hl : l ≠ []) (h : (dec l).1 ≠ 10) : (10 : UInt8) ∉ l.take (dec l).2 := fun hm => by
  rcases piece_bytes l hl 10 hm with h1 | h1
  · exact h h1.1.symm
  · exact absurd h1.1 (by decide)

/-- the lines, with a byte 10 behind each -/
def backL (ls : List (List UInt8)) : List UInt8 := ls.flatMap fun l => l ++ [10]
theorem backL_snoc (ls : List (List UInt8)) (l : List UInt8) : backL (ls ++ [l]) = backL ls ++ (l ++ [10]) := by simp [backL]
theorem back_cut : ∀ (l cur : List UInt8), backL (cutN cur l) = cur ++ l ∨ (backL (cutN cur l) = cur ++ l ++ [10] ∧ cur ++ l ≠ [])
  | [], cur => by
    unfold cutN
    by_cases h : cur = []
    · left; rw [if_pos h, h]; rfl
    · right; rw [if_neg h]; simp [backL, h]
  | c :: t, cur => by
    rw [cutN]
    by_cases h : c = 10
    · rw [if_pos h]
      have e : backL (cur :: cutN [] t) = cur ++ [10] ++ backL (cutN [] t) := by simp [backL]
      subst h
      rcases back_cut t [] with h1 | h1
      · left; rw [e, h1]; simp
      · right; rw [e, h1.1]; simp
    · rw [if_neg h]
      rcases back_cut t (cur ++ [c]) with h1 | h1
      · left; rw [h1]; simp
      · right; rw [h1.1]; simp
theorem back_lines (l : List UInt8) : backL (linesL l) = l ∨ (backL (linesL l) = l ++ [10] ∧ l ≠ []) := by
  have := back_cut l []
  simpa [linesL] using this
theorem back_len (l : List UInt8) : (backL (linesL l)).length ≤ l.length + 1 := by
  rcases back_lines l with h | h
  · rw [h]; omega
  · rw [h.1]; simp
theorem cutN_len : ∀ (l cur : List UInt8), (cutN cur l).length ≤ l.length + 1
  | [], cur => by unfold cutN; split <;> simp
  | c :: t, cur => by
    rw [cutN]
    split
    · have := cutN_len t []; simp only [List.length_cons]; omega
    · have := cutN_len t (cur ++ [c]); simp only [List.length_cons]; omega
end Go.Proofs.Ytggnglgehobglaa
