/- Plain facts: a number has one short form; nothing of the program is named here. -/
import Derived.Test.YtgcbbnmjomhngaaNumMore
import Derived.Test.YtgcbbnmjomhngaaPutPlain
namespace Go.Proofs.Ytgcbbnmjomhngaa
open Go.RowKit

/-- the number that groups make, the lowest first -/
def val : List UInt8 → Nat
  | [] => 0
  | c :: t => c.toNat % 128 + 128 * val t

/-- groups that are a short form -/
def Canon : List UInt8 → Prop
  | [] => False
  | [c] => c.toNat < 128
  | c :: d :: t => 128 ≤ c.toNat ∧ Canon (d :: t) ∧ 0 < val (d :: t)

theorem byte_low (c : UInt8) : UInt8.ofNat c.toNat = c := by simp
theorem byte_high (c : UInt8) (h : 128 ≤ c.toNat) : UInt8.ofNat (c.toNat % 128 + 128) = c := by
  have := c.toNat_lt
  rw [show c.toNat % 128 + 128 = c.toNat from by omega]
  simp

theorem shortF_val : ∀ (p : List UInt8) (f : Nat), Canon p → p.length ≤ f + 1 → shortF f (val p) = p := by
  intro p
  induction p with
  | nil => intro f h _; exact absurd h (by simp [Canon])
  | cons c t ih =>
    intro f h hl
    cases t with
    | nil =>
      simp only [Canon] at h
      have e : val [c] = c.toNat := by simp only [val]; omega
      rw [e, shortF_low f _ h, byte_low]
    | cons d t =>
      obtain ⟨h1, h2, h3⟩ := h
      simp only [List.length_cons] at hl
      obtain ⟨f', rfl⟩ : ∃ f', f = f' + 1 := ⟨f - 1, by omega⟩
      have e : val (c :: d :: t) = c.toNat % 128 + 128 * val (d :: t) := rfl
      have hm : val (c :: d :: t) % 128 = c.toNat % 128 := by rw [e]; omega
      have hd : val (c :: d :: t) / 128 = val (d :: t) := by rw [e]; omega
      rw [shortF_high f' _ (by rw [e]; omega), hm, hd, byte_high c h1, ih f' h2 (by simp only [List.length_cons]; omega)]

theorem drop_bt (l : List UInt8) (i : Nat) (h : i < l.length) : ∃ c : UInt8, l.drop i = c :: l.drop (i + 1) ∧ bt l i = (c.toNat : Int) := by
  refine ⟨l[i], List.drop_eq_getElem_cons h, ?_⟩
  simp [bt, h]

theorem numFrom_canon (l : List UInt8) : ∀ f i x k, i ≤ 9 → f + i = l.length → numFrom l f i = (x, k, 0) →
    ∃ p, l.drop i = p ++ l.drop k ∧ p.length + i = k ∧ Canon p ∧ (0 < i → 0 < val p) ∧ x = accTo l i + 128 ^ i * (val p : Int) ∧ k ≤ 10 := by
  intro f
  induction f with
  | zero => intro i x k _ _ h; simp [numFrom] at h
  | succ f ih =>
    intro i x k hi hf h
    obtain ⟨c, hd, hc⟩ := drop_bt l i (by omega)
    rw [numFrom] at h
    split at h
    · simp at h
    · rename_i hb
      have hb' : brokenB i (bt l i) = false := by simpa using hb
      have hcl := c.toNat_lt
      split at h
      · rename_i h8
        simp only [Prod.mk.injEq, and_true] at h
        obtain ⟨rfl, rfl⟩ := h
        refine ⟨[c], by rw [hd]; rfl, by simp; omega, by simp only [Canon]; omega, fun h0 => ?_, ?_, by omega⟩
        · simp only [brokenB, hc] at hb'
          simp only [val]
          have : ¬ (c.toNat : Int) = 0 := by
            intro e0
            simp [e0] at hb'
            omega
          omega
        · rw [accTo_succ, hc]
          simp only [val]
          have : (c.toNat : Int) % 128 * 128 ^ i = 128 ^ i * ((c.toNat % 128 + 128 * 0 : Nat) : Int) := by
            rw [Int.mul_comm]
            congr 1
          omega
      · rename_i h8
        have hi9 : i + 1 ≤ 9 := by
          by_cases h9 : i = 9
          · subst h9
            simp [brokenB] at hb'
            omega
          · omega
        obtain ⟨p, h1, h2, h3, h4, h5, h6⟩ := ih (i + 1) x k hi9 (by omega) h
        have hv := h4 (by omega)
        refine ⟨c :: p, by rw [hd, h1]; rfl, by simp; omega, ?_, fun _ => by simp only [val]; omega, ?_, h6⟩
        · cases p with
          | nil => exact absurd h3 (by simp [Canon])
          | cons d t => exact ⟨by omega, h3, hv⟩
        · rw [h5, accTo_succ, hc, Int.pow_succ]
          simp only [val]
          have e1 : ((c.toNat % 128 + 128 * val p : Nat) : Int) = (c.toNat : Int) % 128 + 128 * (val p : Int) := by omega
          rw [e1, Int.mul_add, Int.mul_comm ((c.toNat : Int) % 128), Int.mul_assoc]
          omega

/-- what a reading of a short form answers is what writing it gives -/
theorem num_back (l : List UInt8) (x : Int) (k : Nat) (h : num l = (x, k, 0)) : ∃ X : Nat, x = (X : Int) ∧ short X = l.take k ∧ 1 ≤ k ∧ k ≤ 10 ∧ k ≤ l.length ∧ X < 18446744073709551616 := by
  have hn := h
  unfold num at hn
  obtain ⟨p, h1, h2, h3, _, h5, h6⟩ := numFrom_canon l l.length 0 x k (by omega) (by omega) hn
  have hf := num_fits l
  have hle := num_le l
  have hpos := num_pos l (by rw [h])
  rw [h] at hf hle hpos
  simp only at hf hle hpos
  refine ⟨val p, by rw [h5]; simp [accTo], ?_, hpos, h6, hle, ?_⟩
  · have hp : l.take k = p := by
      have : l = p ++ l.drop k := by simpa using h1
      rw [this, List.take_append_of_le_length (by omega)]
      exact List.take_of_length_le (by omega)
    rw [hp]
    exact shortF_val p 9 h3 (by omega)
  · have : x = (val p : Int) := by rw [h5]; simp [accTo]
    omega

end Go.Proofs.Ytgcbbnmjomhngaa
