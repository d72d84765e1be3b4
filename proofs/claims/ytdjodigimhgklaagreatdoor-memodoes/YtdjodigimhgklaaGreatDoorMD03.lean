import Derived.Deep.RegionHeld
import Derived.Test.YtdjodigimhgklaaGreatDoorProg
import Derived.Test.YtdjodigimhgklaaGreatDoorMD01
import Derived.Shelf.Spec.SlicesGrow
import Derived.Shelf.SlSortCmp.NoneTotal
import Derived.Shelf.SlSortCmp.WholeK
/- Regions that draw their order: what must hold of the memory may hang on which operations have come up. -/
namespace Go.Proofs.YtdjodigimhgklaaGreatDoor

section
variable {P : Program} {ops : Array Oper} {Q : Exit → Act → World → Prop} {md : Region.Mode} {S : Array Bool → World → Prop}

def wpAnyG (P : Program) (md : Region.Mode) (ops : Array Oper) (Q : Exit → Act → World → Prop) (S : Array Bool → World → Prop) : Nat → Array Bool → Act → World → Prop
  | 0, listed, a, w => Region.ready md ops listed = [] ∧ Q .normal a w
  | fuel + 1, listed, a, w =>
    (Region.ready md ops listed = [] → Q .normal a w) ∧
    ∀ i ∈ Region.ready md ops listed, wpOp P ops Q i (fun a' w' => S (listed.setIfInBounds i true) w' ∧ wpAnyG P md ops Q S fuel (listed.setIfInBounds i true) a' w') a w
theorem wpAny_of_G : ∀ (fuel : Nat) (listed : Array Bool) (a : Act) (w : World), wpAnyG P md ops Q S fuel listed a w → wpAny P md ops Q fuel listed a w
  | 0, _, _, _, h => h
  | fuel + 1, _, _, _, h => ⟨h.1, fun i hi => wpOp_mono (fun a' w' h' => wpAny_of_G fuel _ a' w' h'.2) (h.2 i hi)⟩

/-- An operation may be taken first, if it yields its value in every world that meets T; T holds as long as the operation b, which waits for it, has not come up. -/
theorem wpAnyG_first {i b : Nat} {oi ob : Oper} {v : Value} {T : World → Prop} (hi : ops[i]? = some oi) (hsel : ∀ (j : Nat) (o : Oper) cs b, ops[j]? = some o → o.op ≠ .select cs b)
    (hQ : ∀ c a w, Q (.panic c) (a.put oi.dst v) w → Q (.panic c) a w) (hT : ∀ L w, L.getD b true = false → S L w → T w)
    (hSi : ∀ L w, L.getD b true = false → S L w → S (L.setIfInBounds i true) w) (hSu : ∀ L w, L.getD b true = false → S (L.setIfInBounds i true) w → S L w) (hb : ops[b]? = some ob) (hbw : ∃ e ∈ ob.after, Region.binds md e = true ∧ e.on = i) (hbi : b ≠ i) :
    ∀ (fuel : Nat) (listed : Array Bool) (a : Act) (w : World), listed.getD b true = false →
      (∀ j oj, ops[j]? = some oj → j ≠ i → listed.getD j true = false → (∀ e ∈ oj.after, Region.binds md e = true → e.on ≠ i) → oi.apart ops oj = true) →
      i ∈ Region.ready md ops listed → YieldsIf P ops T oi v a → S listed w →
      wpAnyG P md ops Q S fuel (listed.setIfInBounds i true) (a.put oi.dst v) w → wpAnyG P md ops Q S (fuel + 1) listed a w := by
  intro fuel
  induction fuel with
  | zero =>
    intro listed a w hlb _ hr hy hS H
    refine ⟨fun h => (by rw [h] at hr; cases hr), fun j hj => ?_⟩
    by_cases hji : j = i
    · subst hji; exact hy.wpOp hi (hT _ _ hlb hS) ⟨hSi _ _ hlb hS, H⟩
    · have := ready_mono hj hji
      rw [H.1] at this
      cases this
  | succ fuel ih =>
    intro listed a w hlb hfree hr hy hS H
    refine ⟨fun h => (by rw [h] at hr; cases hr), fun j hj => ?_⟩
    by_cases hji : j = i
    · subst hji; exact hy.wpOp hi (hT _ _ hlb hS) ⟨hSi _ _ hlb hS, H⟩
    · have h1 := H.2 j (ready_mono hj hji)
      obtain ⟨hjun, oj, hoj, hall⟩ := mem_ready.1 hj
      have hnot : ∀ e ∈ oj.after, Region.binds md e = true → e.on ≠ i := fun e he hbd heq => by
        have h1 := hall e he hbd
        have h0 := (mem_ready.1 hr).1
        rw [heq] at h1
        rcases Nat.lt_or_ge i listed.size with h' | h'
        · simp [h'] at h0 h1; rw [h0] at h1; cases h1
        · simp [Array.getElem?_eq_none h'] at h1
      have hjb : j ≠ b := fun e => by
        subst e
        obtain ⟨e, he, hbd, heq⟩ := hbw
        rw [hb] at hoj
        cases hoj
        exact hnot e he hbd heq
      have hlb' : (listed.setIfInBounds j true).getD b true = false := by rw [getD_set_ne true hjb]; exact hlb
      have h2 := wpOp_putIf hoj (hfree j oj hoj hji hjun hnot) (fun cs b => hsel i oi cs b hi) (fun cs b => hsel j oj cs b hoj) hQ hy h1
      have hfree' : ∀ k ok, ops[k]? = some ok → k ≠ i → (listed.setIfInBounds j true).getD k true = false →
          (∀ e ∈ ok.after, Region.binds md e = true → e.on ≠ i) → oi.apart ops ok = true := fun k ok hk hki hun hno => by
        refine hfree k ok hk hki ?_ hno
        by_cases hjk : j = k
        · subst hjk; exact hjun
        · rw [getD_set_ne true hjk] at hun; exact hun
      refine wpOp_mono (fun a' w' h3 => ?_) h2
      have hSS : S (listed.setIfInBounds j true) w' := by
        have h4 := h3.2.1
        rw [Array.setIfInBounds_comm _ _ (Ne.symm hji)] at h4
        exact hSu _ _ hlb' h4
      refine ⟨hSS, ih (listed.setIfInBounds j true) a' w' hlb' hfree' (ready_mono hr (Ne.symm hji)) h3.1 hSS ?_⟩
      rw [Array.setIfInBounds_comm _ _ hji]
      exact h3.2.2
theorem wpAnyG_ready {rs : List Nat} {fuel : Nat} {listed : Array Bool} {a : Act} {w : World} (hr : Region.ready md ops listed = rs) (hne : rs ≠ [])
    (h : ∀ i ∈ rs, wpOp P ops Q i (fun a' w' => S (listed.setIfInBounds i true) w' ∧ wpAnyG P md ops Q S fuel (listed.setIfInBounds i true) a' w') a w) : wpAnyG P md ops Q S (fuel + 1) listed a w :=
  ⟨fun h0 => absurd (hr ▸ h0) hne, hr ▸ h⟩
theorem wpAnyG_one {i : Nat} {o : Oper} {fuel : Nat} {listed : Array Bool} {a : Act} {w : World} (hr : Region.ready md ops listed = [i]) (ho : ops[i]? = some o)
    (h : ∀ K' : Act → World → Prop, Shut (∀ a w, S (listed.setIfInBounds i true) w → (S (listed.setIfInBounds i true) w → wpAnyG P md ops Q S fuel (listed.setIfInBounds i true) a w) → K' a w) → if Region.wanted o (yielded ops a.tmps) = true then Oper.wp P o a w K' Q else K' (a.put o.dst undef) w) : wpAnyG P md ops Q S (fuel + 1) listed a w :=
  wpAnyG_ready hr (by simp) fun j hj => by
    simp at hj
    subst hj
    exact wpOp_step ho (fun K' hK => h K' (fun a w hS hW => hK a w ⟨hS, hW hS⟩))
theorem wpAnyG_done {listed : Array Bool} {a : Act} {w : World} (hr : Region.ready md ops listed = []) (h : Q .normal a w) :
    ∀ fuel, wpAnyG P md ops Q S fuel listed a w
  | 0 => ⟨hr, h⟩
  | _ + 1 => ⟨fun _ => h, by rw [hr]; simp⟩
theorem wp_region_G {id : Nat} {a : Act} {w : World} (hm : P.follows .mixedOrders = true)
    (h : wpAnyG P .any ops Q S ops.size (Array.replicate ops.size false) a w.drew) : (Code.region id ops true).wp P Q a w :=
  wp_region_any hm (wpAny_of_G _ _ _ _ h)
/-- memory that holds T0, and T as long as the operation b has not come up -/
def SB (b : Nat) (T T0 : World → Prop) : Array Bool → World → Prop := fun L w => (L.getD b true = false → T w) ∧ T0 w
theorem SB.set {b i : Nat} {T T0 : World → Prop} {L : Array Bool} {w : World} (h : i ≠ b) : SB b T T0 (L.setIfInBounds i true) w ↔ SB b T T0 L w := by
  unfold SB
  rw [getD_set_ne true h]
/-- number i is taken first: it yields its value in every world that meets T and T0, and b waits for it -/
theorem wpAnyG_takeB {i b : Nat} {oi ob : Oper} {v : Value} {T T0 : World → Prop} {fuel : Nat} {listed : Array Bool} {a : Act} {w : World} (hi : ops[i]? = some oi)
    (hs : Region.noSelect ops = true) (hf : Region.free md ops listed i = true) (hr : (Region.ready md ops listed).contains i = true)
    (hQ : ∀ c a w, Q (.panic c) (a.put oi.dst v) w → Q (.panic c) a w) (hb : ops[b]? = some ob) (hbw : (ob.after.any fun e => Region.binds md e && e.on == i) = true) (hne : (i != b) = true) (hl : (listed.getD b true) = false)
    (hy : YieldsIf P ops (fun W => T W ∧ T0 W) oi v a) (hS : SB b T T0 listed w)
    (h : SB b T T0 (listed.setIfInBounds i true) w → wpAnyG P md ops Q (SB b T T0) fuel (listed.setIfInBounds i true) (a.put oi.dst v) w) : wpAnyG P md ops Q (SB b T T0) (fuel + 1) listed a w := by
  have hib : i ≠ b := by simpa using hne
  refine wpAnyG_first (T := fun W => T W ∧ T0 W) (b := b) hi (Region.noSelect_spec hs) hQ (fun L w hL hS => ⟨hS.1 hL, hS.2⟩) (fun L w _ hS => (SB.set hib).2 hS) (fun L w _ hS => (SB.set hib).1 hS) hb ?_ (Ne.symm hib) fuel listed a w hl (Region.free_spec hi hf) (by simpa using hr) hy hS (h ((SB.set hib).2 hS))
  simp only [Array.any_eq_true'] at hbw
  obtain ⟨e, he, h2⟩ := hbw
  simp only [Bool.and_eq_true, beq_iff_eq] at h2
  exact ⟨e, he, h2.1, h2.2⟩
/-- number i is taken first: it yields its value in every world that meets T0 -/
theorem wpAnyG_firstP {i b : Nat} {oi : Oper} {v : Value} {T T0 : World → Prop} (hib : i ≠ b) (hi : ops[i]? = some oi) (hsel : ∀ (j : Nat) (o : Oper) cs b, ops[j]? = some o → o.op ≠ .select cs b)
    (hQ : ∀ c a w, Q (.panic c) (a.put oi.dst v) w → Q (.panic c) a w) :
    ∀ (fuel : Nat) (listed : Array Bool) (a : Act) (w : World),
      (∀ j oj, ops[j]? = some oj → j ≠ i → listed.getD j true = false → (∀ e ∈ oj.after, Region.binds md e = true → e.on ≠ i) → oi.apart ops oj = true) →
      i ∈ Region.ready md ops listed → YieldsIf P ops T0 oi v a → SB b T T0 listed w →
      wpAnyG P md ops Q (SB b T T0) fuel (listed.setIfInBounds i true) (a.put oi.dst v) w → wpAnyG P md ops Q (SB b T T0) (fuel + 1) listed a w := by
  intro fuel
  induction fuel with
  | zero =>
    intro listed a w _ hr hy hS H
    refine ⟨fun h => (by rw [h] at hr; cases hr), fun j hj => ?_⟩
    by_cases hji : j = i
    · subst hji; exact hy.wpOp hi hS.2 ⟨(SB.set hib).2 hS, H⟩
    · have := ready_mono hj hji
      rw [H.1] at this
      cases this
  | succ fuel ih =>
    intro listed a w hfree hr hy hS H
    refine ⟨fun h => (by rw [h] at hr; cases hr), fun j hj => ?_⟩
    by_cases hji : j = i
    · subst hji; exact hy.wpOp hi hS.2 ⟨(SB.set hib).2 hS, H⟩
    · have h1 := H.2 j (ready_mono hj hji)
      obtain ⟨hjun, oj, hoj, hall⟩ := mem_ready.1 hj
      have hnot : ∀ e ∈ oj.after, Region.binds md e = true → e.on ≠ i := fun e he hbd heq => by
        have h1 := hall e he hbd
        have h0 := (mem_ready.1 hr).1
        rw [heq] at h1
        rcases Nat.lt_or_ge i listed.size with h' | h'
        · simp [h'] at h0 h1; rw [h0] at h1; cases h1
        · simp [Array.getElem?_eq_none h'] at h1
      have h2 := wpOp_putIf hoj (hfree j oj hoj hji hjun hnot) (fun cs b => hsel i oi cs b hi) (fun cs b => hsel j oj cs b hoj) hQ hy h1
      have hfree' : ∀ k ok, ops[k]? = some ok → k ≠ i → (listed.setIfInBounds j true).getD k true = false →
          (∀ e ∈ ok.after, Region.binds md e = true → e.on ≠ i) → oi.apart ops ok = true := fun k ok hk hki hun hno => by
        refine hfree k ok hk hki ?_ hno
        by_cases hjk : j = k
        · subst hjk; exact hjun
        · rw [getD_set_ne true hjk] at hun; exact hun
      refine wpOp_mono (fun a' w' h3 => ?_) h2
      have hSS : SB b T T0 (listed.setIfInBounds j true) w' := by
        have h4 := h3.2.1
        rw [Array.setIfInBounds_comm _ _ (Ne.symm hji)] at h4
        exact (SB.set hib).1 h4
      refine ⟨hSS, ih (listed.setIfInBounds j true) a' w' hfree' (ready_mono hr (Ne.symm hji)) h3.1 hSS ?_⟩
      rw [Array.setIfInBounds_comm _ _ hji]
      exact h3.2.2
theorem wpAnyG_takeP {i b : Nat} {oi : Oper} {v : Value} {T T0 : World → Prop} {fuel : Nat} {listed : Array Bool} {a : Act} {w : World} (hi : ops[i]? = some oi)
    (hs : Region.noSelect ops = true) (hf : Region.free md ops listed i = true) (hr : (Region.ready md ops listed).contains i = true)
    (hQ : ∀ c a w, Q (.panic c) (a.put oi.dst v) w → Q (.panic c) a w) (hne : (i != b) = true)
    (hy : YieldsIf P ops T0 oi v a) (hS : SB b T T0 listed w)
    (h : SB b T T0 (listed.setIfInBounds i true) w → wpAnyG P md ops Q (SB b T T0) fuel (listed.setIfInBounds i true) (a.put oi.dst v) w) : wpAnyG P md ops Q (SB b T T0) (fuel + 1) listed a w :=
  wpAnyG_firstP (by simpa using hne) hi (Region.noSelect_spec hs) hQ fuel listed a w (Region.free_spec hi hf) (by simpa using hr) hy hS (h ((SB.set (by simpa using hne)).2 hS))
theorem SB.on {b : Nat} {T T0 : World → Prop} {L : Array Bool} {w : World} (h1 : T w) (h2 : T0 w) : SB b T T0 L w := ⟨fun _ => h1, h2⟩
theorem SB.off {b : Nat} {T T0 : World → Prop} {L : Array Bool} {w : World} (hL : L.getD b true = true) (h : T0 w) : SB b T T0 L w := ⟨(fun h' => by rw [hL] at h'; cases h'), h⟩
end
end Go.Proofs.YtdjodigimhgklaaGreatDoor

/- (empty) -/

/- Plain facts on numbers in groups of seven bits; nothing of the program is named here. -/
namespace Go.Proofs.YtdjodigimhgklaaGreatDoor
open Go.RowKit

/-- the number that the first k groups make -/
def accTo (l : List UInt8) : Nat → Int
  | 0 => 0
  | k + 1 => accTo l k + (bt l k % 128) * 128 ^ k
theorem accTo_succ (l : List UInt8) (k : Nat) : accTo l (k + 1) = accTo l k + (bt l k % 128) * 128 ^ k := rfl
theorem accTo_lo (l : List UInt8) (k : Nat) : 0 ≤ accTo l k := by
  induction k with
  | zero => simp [accTo]
  | succ k ih =>
    have h1 : (0 : Int) ≤ bt l k % 128 := by omega
    have h2 : (0 : Int) ≤ 128 ^ k := Int.pow_nonneg (by omega)
    have := Int.mul_nonneg h1 h2
    simp only [accTo]; omega
theorem accTo_hi (l : List UInt8) (k : Nat) : accTo l k < 128 ^ k := by
  induction k with
  | zero => simp [accTo]
  | succ k ih =>
    have h1 : bt l k % 128 ≤ 127 := by omega
    have h2 : (0 : Int) ≤ 128 ^ k := Int.pow_nonneg (by omega)
    have := Int.mul_le_mul_of_nonneg_right h1 h2
    simp only [accTo, Int.pow_succ]; omega

/-- byte c at place i cannot be of a short form -/
def brokenB (i : Nat) (c : Int) : Bool := (i == 9 && decide (1 < c)) || (decide (0 < i) && c == 0)

def numFrom (l : List UInt8) : Nat → Nat → Int × Nat × Int
  | 0, _ => (0, 0, 110)
  | f + 1, i => if brokenB i (bt l i) then (0, 0, 8) else if bt l i < 128 then (accTo l (i + 1), i + 1, 0) else numFrom l f (i + 1)
def num (l : List UInt8) : Int × Nat × Int := numFrom l l.length 0

theorem andNot128 (c : Int) (h0 : 0 ≤ c) (h1 : c ≤ 255) : bits .andNot .u8 c 128 = c % 128 := by
  have key : ∀ n : Fin 256, bits .andNot .u8 ((n.val : Nat) : Int) 128 = ((n.val : Nat) : Int) % 128 := by decide +kernel
  have h := key ⟨c.toNat, by omega⟩
  simpa [Int.toNat_of_nonneg h0] using h

theorem pow128 (k : Nat) : (128 : Int) ^ k = 2 ^ (7 * k) := by
  induction k with
  | zero => rfl
  | succ k ih => rw [Int.pow_succ, ih, show 7 * (k + 1) = 7 * k + 7 from by omega, Int.pow_add]; rfl

theorem pow128_le (k m : Nat) (h : k ≤ m) : (128 : Int) ^ k ≤ 128 ^ m := by
  have hn : (128 : Nat) ^ k ≤ 128 ^ m := Nat.pow_le_pow_right (by omega) h
  have e : ∀ j : Nat, (128 : Int) ^ j = ((128 ^ j : Nat) : Int) := by
    intro j
    simp
  rw [e, e]
  exact Int.ofNat_le.2 hn
theorem pow128_9 (k : Nat) (h : k ≤ 9) : (128 : Int) ^ k ≤ 9223372036854775808 := by
  have h9 : (128 : Int) ^ 9 = 9223372036854775808 := by decide
  rw [← h9]
  exact pow128_le k 9 h
theorem pow128_8 (k : Nat) (h : k ≤ 8) : (128 : Int) ^ k ≤ 72057594037927936 := by
  have h9 : (128 : Int) ^ 8 = 72057594037927936 := by decide
  rw [← h9]
  exact pow128_le k 8 h

theorem wraps64 (n : Int) (h₀ : 0 ≤ n) (h₁ : n < 2 ^ 64) : IntKind.u64.wrap n = n := by rw [IntKind.wrap_u64]; omega

/-- the group c at place k, laid where it belongs, fits 64 bits -/
theorem group_fits (c : Int) (k : Nat) (h0 : 0 ≤ c) (hk : k ≤ 9) (h9 : k = 9 → c ≤ 1) : 0 ≤ c % 128 * 128 ^ k ∧ c % 128 * 128 ^ k ≤ 9223372036854775808 := by
  have hp : (0 : Int) ≤ 128 ^ k := Int.pow_nonneg (by omega)
  have hc : (0 : Int) ≤ c % 128 := by omega
  refine ⟨Int.mul_nonneg hc hp, ?_⟩
  by_cases hk9 : k = 9
  · subst hk9
    have e : (128 : Int) ^ 9 = 9223372036854775808 := by decide
    have := h9 rfl
    rw [e]; omega
  · have h1 := pow128_8 k (by omega)
    have h2 : c % 128 ≤ 127 := by omega
    have := Int.mul_le_mul h2 h1 hp (by omega)
    omega

theorem or_comm64 (a b : Int) : bits .or .u64 a b = bits .or .u64 b a := by simp only [bits, BitVec.or_comm]

theorem or_step (l : List UInt8) (c : Int) (k : Nat) (h0 : 0 ≤ c) (h1 : c ≤ 255) (hk : k ≤ 9) (h9 : k = 9 → c ≤ 1) :
    bits BinOp.or IntKind.u64 (accTo l k) (IntKind.u64.wrap (IntKind.u64.wrap (bits BinOp.andNot IntKind.u8 c 128) * 2 ^ (7 * k))) = accTo l k + c % 128 * 128 ^ k := by
  have hf := group_fits c k h0 hk h9
  have a0 := accTo_lo l k
  have a1 := accTo_hi l k
  have p9 := pow128_9 k hk
  rw [andNot128 c h0 h1, wraps64 (c % 128) (by omega) (by omega), ← pow128, wraps64 _ hf.1 (by omega), or_comm64,
    bits_join .u64 64 (by decide) wraps64 (7 * k) (c % 128 * 128 ^ k) (accTo l k) hf.1 (by rw [← pow128]; exact Int.mul_emod_left _ _) (by omega) a0 (by rw [← pow128]; exact a1) (by omega)]
  omega

theorem add_step (l : List UInt8) (c : Int) (k : Nat) (h0 : 0 ≤ c) (hk : k ≤ 9) (h9 : k = 9 → c ≤ 1) :
    0 ≤ accTo l k + c % 128 * 128 ^ k ∧ accTo l k + c % 128 * 128 ^ k ≤ 18446744073709551615 := by
  have hf := group_fits c k h0 hk h9
  have a0 := accTo_lo l k
  have a1 := accTo_hi l k
  have p9 := pow128_9 k hk
  omega

theorem num_broken {l : List UInt8} {n k : Nat} (h : num l = numFrom l (n - k) k) (hlt : k < n) (hb : brokenB k (bt l k) = true) : num l = (0, 0, 8) := by
  rw [h, show n - k = (n - k - 1) + 1 from by omega, numFrom, if_pos hb]
theorem num_last {l : List UInt8} {n k : Nat} (h : num l = numFrom l (n - k) k) (hlt : k < n) (hb : brokenB k (bt l k) = false) (h8 : bt l k < 128) : num l = (accTo l (k + 1), k + 1, 0) := by
  rw [h, show n - k = (n - k - 1) + 1 from by omega, numFrom, if_neg (by simp [hb]), if_pos h8]
theorem num_next {l : List UInt8} {n k : Nat} (h : num l = numFrom l (n - k) k) (hlt : k < n) (hb : brokenB k (bt l k) = false) (h8 : ¬ bt l k < 128) : num l = numFrom l (n - (k + 1)) (k + 1) := by
  rw [h, show n - k = (n - (k + 1)) + 1 from by omega, numFrom, if_neg (by simp [hb]), if_neg h8]
theorem num_short {l : List UInt8} {n k : Nat} (h : num l = numFrom l (n - k) k) (hlt : ¬ k < n) : num l = (0, 0, 110) := by
  rw [h, show n - k = 0 from by omega, numFrom]

end Go.Proofs.YtdjodigimhgklaaGreatDoor

/- The kit's contracts, laid at this translation by the kit's own command, in plain words. -/
namespace Go.Proofs.YtdjodigimhgklaaGreatDoor
open Go.RowKit Go.Shelf

def Tryz.growB_ren : Go.Shelf.Ren := ⟨fun | 4 => 108 | n => n, fun | 22 => 33 | 25 => 5 | 3 => 3 | 4 => 4 | 9 => 9 | 20 => 20 | 0 => 0 | n => n, fun | n => n⟩
theorem Tryz.growB : Go.Proofs.Lays8.n4 Tryz.prog Tryz.growB_ren := {
  mixed := by kernel_rfl
  f4 := ⟨Tryz.f108.name, by decide, Tryz.func108.trans (congrArg some (by kernel_rfl))⟩
  t0 := Tryz.underlying0
  a0 := Tryz.isAgg0
  z0 := Tryz.sizeOf0
  v0 := Tryz.zeroValue0
  t3 := Tryz.underlying3
  a3 := Tryz.isAgg3
  z3 := Tryz.sizeOf3
  v3 := Tryz.zeroValue3
  t4 := Tryz.underlying4
  a4 := Tryz.isAgg4
  z4 := Tryz.sizeOf4
  v4 := Tryz.zeroValue4
  t9 := Tryz.underlying9
  a9 := Tryz.isAgg9
  z9 := Tryz.sizeOf9
  v9 := Tryz.zeroValue9
  t20 := Tryz.underlying20
  a20 := Tryz.isAgg20
  z20 := Tryz.sizeOf20
  v20 := Tryz.zeroValue20
  t22 := Tryz.underlying33
  a22 := Tryz.isAgg33
  z22 := Tryz.sizeOf33
  v22 := Tryz.zeroValue33 }

end Go.Proofs.YtdjodigimhgklaaGreatDoor

/- Plain facts on what the reading of a short form answers. -/
namespace Go.Proofs.YtdjodigimhgklaaGreatDoor
open Go.RowKit

theorem numFrom_le (l : List UInt8) : ∀ f i, (numFrom l f i).2.1 ≤ f + i := by
  intro f
  induction f with
  | zero => intro i; simp [numFrom]
  | succ f ih =>
    intro i
    rw [numFrom]
    split
    · simp
    · split
      · simp only; omega
      · have := ih (i + 1); omega
theorem num_le (l : List UInt8) : (num l).2.1 ≤ l.length := by have := numFrom_le l l.length 0; unfold num; omega

theorem numFrom_pos (l : List UInt8) : ∀ f i, (numFrom l f i).2.2 = 0 → i + 1 ≤ (numFrom l f i).2.1 := by
  intro f
  induction f with
  | zero => intro i; simp [numFrom]
  | succ f ih =>
    intro i
    rw [numFrom]
    split
    · simp
    · split
      · simp
      · intro h; have := ih (i + 1) h; omega
theorem num_pos (l : List UInt8) (h : (num l).2.2 = 0) : 1 ≤ (num l).2.1 := by have := numFrom_pos l l.length 0 h; unfold num; omega

theorem numFrom_err (l : List UInt8) : ∀ f i, (numFrom l f i).2.2 = 0 ∨ ((numFrom l f i).1 = 0 ∧ (numFrom l f i).2.1 = 0 ∧ ((numFrom l f i).2.2 = 8 ∨ (numFrom l f i).2.2 = 110)) := by
  intro f
  induction f with
  | zero => intro i; simp [numFrom]
  | succ f ih =>
    intro i
    rw [numFrom]
    split
    · simp
    · split
      · simp
      · exact ih (i + 1)
theorem num_err (l : List UInt8) : (num l).2.2 = 0 ∨ ((num l).1 = 0 ∧ (num l).2.1 = 0 ∧ ((num l).2.2 = 8 ∨ (num l).2.2 = 110)) := numFrom_err l l.length 0

/-- the number fits 64 bits -/
theorem numFrom_fits (l : List UInt8) : ∀ f i, i ≤ 9 → 0 ≤ (numFrom l f i).1 ∧ (numFrom l f i).1 ≤ 18446744073709551615 := by
  intro f
  induction f with
  | zero => intro i _; simp [numFrom]
  | succ f ih =>
    intro i hi
    rw [numFrom]
    split
    · simp
    · rename_i hb
      have hb' : brokenB i (bt l i) = false := by simpa using hb
      split
      · rename_i h8
        simp only [accTo_succ]
        refine add_step l (bt l i) i (bt_lo l i) hi (fun h9 => ?_)
        subst h9
        simp [brokenB] at hb'
        omega
      · rename_i h8
        refine ih (i + 1) ?_
        by_cases h9 : i = 9
        · subst h9
          simp [brokenB] at hb'
          omega
        · omega
theorem num_fits (l : List UInt8) : 0 ≤ (num l).1 ∧ (num l).1 ≤ 18446744073709551615 := numFrom_fits l l.length 0 (by omega)

end Go.Proofs.YtdjodigimhgklaaGreatDoor

/- Plain facts on the short form and the wide form as lists of bytes; nothing of the program is named here. -/
namespace Go.Proofs.YtdjodigimhgklaaGreatDoor
open Go.RowKit

/-- the short form of x, of at most f + 1 bytes -/
def shortF : Nat → Nat → List UInt8
  | 0, x => [UInt8.ofNat x]
  | f + 1, x => if x < 128 then [UInt8.ofNat x] else UInt8.ofNat (x % 128 + 128) :: shortF f (x / 128)
def short (x : Nat) : List UInt8 := shortF 9 x

theorem shortF_low (f x : Nat) (h : x < 128) : shortF f x = [UInt8.ofNat x] := by
  cases f with
  | zero => rfl
  | succ f => rw [shortF, if_pos h]
theorem shortF_high (f x : Nat) (h : ¬ x < 128) : shortF (f + 1) x = UInt8.ofNat (x % 128 + 128) :: shortF f (x / 128) := by rw [shortF, if_neg h]
theorem shortF_len (f x : Nat) : (shortF f x).length ≤ f + 1 := by
  induction f generalizing x with
  | zero => simp [shortF]
  | succ f ih =>
    rw [shortF]
    split
    · simp
    · have := ih (x / 128); simp; omega
theorem shortF_pos (f x : Nat) : 1 ≤ (shortF f x).length := by
  cases f with
  | zero => simp [shortF]
  | succ f =>
    rw [shortF]
    split <;> simp
theorem short_len (x : Nat) : (short x).length ≤ 10 := shortF_len 9 x

theorem or128 (y : Nat) : bits BinOp.or IntKind.u8 ((y : Int) % 256) 128 = ((UInt8.ofNat (y % 128 + 128)).toNat : Int) := by
  have key : ∀ n : Fin 256, bits .or .u8 ((n.val : Nat) : Int) 128 = ((n.val % 128 + 128 : Nat) : Int) := by decide +kernel
  have h := key ⟨y % 256, Nat.mod_lt _ (by omega)⟩
  have e : (y : Int) % 256 = ((y % 256 : Nat) : Int) := by omega
  rw [e]
  simp only at h
  rw [h, UInt8.toNat_ofNat']
  omega

theorem low8 (y : Nat) : (y : Int) % 256 = ((UInt8.ofNat y).toNat : Int) := by
  rw [UInt8.toNat_ofNat']
  omega

theorem cellsOf_snoc (l : List UInt8) (c : UInt8) (x : Int) (h : x = (c.toNat : Int)) : cellsOf l ++ [Value.int .u8 x] = cellsOf (l ++ [c]) := by rw [h]; simp [cellsOf]


/-- the first k bytes of the wide form -/
def wideTo (x : Nat) : Nat → List UInt8
  | 0 => []
  | k + 1 => wideTo x k ++ [UInt8.ofNat (x / 256 ^ (7 - k))]
def wide (x : Nat) : List UInt8 := wideTo x 8
theorem wideTo_len (x k : Nat) : (wideTo x k).length = k := by
  induction k with
  | zero => rfl
  | succ k ih => simp [wideTo, ih]
theorem wideTo_succ (x k : Nat) : wideTo x (k + 1) = wideTo x k ++ [UInt8.ofNat (x / 256 ^ (7 - k))] := rfl

theorem pow256 (j : Nat) : 256 ^ j = 2 ^ (8 * j) := by
  rw [show (256 : Nat) = 2 ^ 8 from rfl, ← Nat.pow_mul]
theorem wide_byte (x k : Nat) (hk : k < 8) : (x : Int) / 2 ^ (56 - 8 * k) % 256 = ((UInt8.ofNat (x / 256 ^ (7 - k))).toNat : Int) := by
  rw [UInt8.toNat_ofNat', pow256, show 8 * (7 - k) = 56 - 8 * k from by omega]
  have e : (2 : Int) ^ (56 - 8 * k) = ((2 ^ (56 - 8 * k) : Nat) : Int) := by simp
  rw [e, ← Int.natCast_ediv]
  omega

theorem wideTo_bt (x j : Nat) : ∀ k, j < k → bt (wideTo x k) j = ((x / 256 ^ (7 - j) % 256 : Nat) : Int) := by
  intro k
  induction k with
  | zero => intro h; omega
  | succ k ih =>
    intro h
    have hl := wideTo_len x k
    unfold bt
    rw [wideTo_succ, List.getD_eq_getElem?_getD]
    by_cases hj : j < k
    · rw [List.getElem?_append_left (by omega)]
      have := ih hj
      unfold bt at this
      rw [List.getD_eq_getElem?_getD] at this
      exact this
    · obtain rfl : j = k := by omega
      rw [List.getElem?_append_right (by omega)]
      simp [hl, UInt8.toNat_ofNat']
/-- what cell j of the row holds behind k rounds -/
def wideCell (x k j : Nat) : Int := if 8 - k ≤ j then ((x / 256 ^ (7 - j) % 256 : Nat) : Int) else 0
theorem wideCell_old (x k j : Nat) (h : j + k = 7) (i : Nat) (hne : i ≠ j) : wideCell x (k + 1) i = wideCell x k i := by
  unfold wideCell
  by_cases h1 : 8 - k ≤ i
  · rw [if_pos h1, if_pos (by omega)]
  · rw [if_neg h1, if_neg (by omega)]
theorem wideCell_new (x k j : Nat) (h : j + k = 7) : wideCell x (k + 1) j = ((x / 256 ^ k % 256 : Nat) : Int) := by
  unfold wideCell
  rw [if_pos (by omega), show 7 - j = k from by omega]

end Go.Proofs.YtdjodigimhgklaaGreatDoor

/- The kit's contracts, laid at this translation by the kit's own command, in plain words. -/
namespace Go.Proofs.YtdjodigimhgklaaGreatDoor
open Go.RowKit Go.Shelf

def Tryz.sortV_ren : Go.Shelf.Ren := ⟨fun | 6 => 69 | 15 => 106 | 14 => 105 | 28 => 145 | 29 => 146 | 20 => 137 | 21 => 138 | 22 => 139 | 23 => 140 | 24 => 141 | 25 => 142 | 26 => 143 | 27 => 144 | 46 => 177 | 47 => 178 | 48 => 179 | 49 => 180 | 50 => 181 | 57 => 193 | n => n, fun | 22 => 36 | 24 => 39 | 25 => 132 | 3 => 3 | 39 => 77 | 0 => 0 | 53 => 198 | 55 => 22 | 4 => 4 | 46 => 192 | 45 => 191 | 50 => 126 | 5 => 5 | 9 => 9 | 66 => 224 | 70 => 227 | 76 => 238 | 77 => 239 | n => n, fun | n => n⟩
theorem Tryz.sortV : Go.Proofs.SlLaysF0.n6 Tryz.prog Tryz.sortV_ren := {
  mixed := by kernel_rfl
  f6 := ⟨Tryz.f69.name, by decide, Tryz.func69.trans (congrArg some (by kernel_rfl))⟩
  f14 := ⟨Tryz.f105.name, by decide, Tryz.func105.trans (congrArg some (by kernel_rfl))⟩
  f15 := Tryz.func106.trans (congrArg some (by kernel_rfl))
  f20 := ⟨Tryz.f137.name, by decide, Tryz.func137.trans (congrArg some (by kernel_rfl))⟩
  f21 := ⟨Tryz.f138.name, by decide, Tryz.func138.trans (congrArg some (by kernel_rfl))⟩
  f22 := ⟨Tryz.f139.name, by decide, Tryz.func139.trans (congrArg some (by kernel_rfl))⟩
  f23 := ⟨Tryz.f140.name, by decide, Tryz.func140.trans (congrArg some (by kernel_rfl))⟩
  f24 := ⟨Tryz.f141.name, by decide, Tryz.func141.trans (congrArg some (by kernel_rfl))⟩
  f25 := ⟨Tryz.f142.name, by decide, Tryz.func142.trans (congrArg some (by kernel_rfl))⟩
  f26 := ⟨Tryz.f143.name, by decide, Tryz.func143.trans (congrArg some (by kernel_rfl))⟩
  f27 := ⟨Tryz.f144.name, by decide, Tryz.func144.trans (congrArg some (by kernel_rfl))⟩
  f28 := Tryz.func145.trans (congrArg some (by kernel_rfl))
  f29 := Tryz.func146.trans (congrArg some (by kernel_rfl))
  f46 := ⟨Tryz.f177.name, by decide, Tryz.func177.trans (congrArg some (by kernel_rfl))⟩
  f47 := Tryz.func178.trans (congrArg some (by kernel_rfl))
  f48 := Tryz.func179.trans (congrArg some (by kernel_rfl))
  f49 := ⟨Tryz.f180.name, by decide, Tryz.func180.trans (congrArg some (by kernel_rfl))⟩
  f50 := ⟨Tryz.f181.name, by decide, Tryz.func181.trans (congrArg some (by kernel_rfl))⟩
  f57 := ⟨Tryz.f193.name, by decide, Tryz.func193.trans (congrArg some (by kernel_rfl))⟩
  t0 := Tryz.underlying0
  a0 := Tryz.isAgg0
  z0 := Tryz.sizeOf0
  v0 := Tryz.zeroValue0
  t3 := Tryz.underlying3
  a3 := Tryz.isAgg3
  z3 := Tryz.sizeOf3
  v3 := Tryz.zeroValue3
  t4 := Tryz.underlying4
  a4 := Tryz.isAgg4
  z4 := Tryz.sizeOf4
  v4 := Tryz.zeroValue4
  t5 := Tryz.underlying5
  a5 := Tryz.isAgg5
  z5 := Tryz.sizeOf5
  v5 := Tryz.zeroValue5
  t9 := Tryz.underlying9
  a9 := Tryz.isAgg9
  z9 := Tryz.sizeOf9
  v9 := Tryz.zeroValue9
  t22 := Tryz.underlying36
  a22 := Tryz.isAgg36
  z22 := Tryz.sizeOf36
  v22 := Tryz.zeroValue36
  t25 := Tryz.underlying132
  a25 := Tryz.isAgg132
  z25 := Tryz.sizeOf132
  v25 := Tryz.zeroValue132
  t39 := Tryz.underlying77
  a39 := Tryz.isAgg77
  z39 := Tryz.sizeOf77
  v39 := Tryz.zeroValue77
  t45 := Tryz.underlying191
  a45 := Tryz.isAgg191
  z45 := Tryz.sizeOf191
  v45 := Tryz.zeroValue191
  t46 := Tryz.underlying192
  a46 := Tryz.isAgg192
  z46 := Tryz.sizeOf192
  v46 := Tryz.zeroValue192
  t50 := Tryz.underlying126
  a50 := Tryz.isAgg126
  z50 := Tryz.sizeOf126
  v50 := Tryz.zeroValue126
  t53 := Tryz.underlying198
  a53 := Tryz.isAgg198
  z53 := Tryz.sizeOf198
  v53 := Tryz.zeroValue198
  t55 := Tryz.underlying22
  a55 := Tryz.isAgg22
  z55 := Tryz.sizeOf22
  v55 := Tryz.zeroValue22
  t66 := Tryz.underlying224
  a66 := Tryz.isAgg224
  z66 := Tryz.sizeOf224
  v66 := Tryz.zeroValue224
  t70 := Tryz.underlying227
  a70 := Tryz.isAgg227
  z70 := Tryz.sizeOf227
  v70 := Tryz.zeroValue227
  t76 := Tryz.underlying238
  a76 := Tryz.isAgg238
  z76 := Tryz.sizeOf238
  v76 := Tryz.zeroValue238
  t77 := Tryz.underlying239
  a77 := Tryz.isAgg239
  z77 := Tryz.sizeOf239
  v77 := Tryz.zeroValue239 }

end Go.Proofs.YtdjodigimhgklaaGreatDoor

/- Plain facts on numbers in sixteen digits; nothing of the program is named here. -/
namespace Go.Proofs.YtdjodigimhgklaaGreatDoor
open Go.RowKit

/-- what a digit says; 16: it is none -/
def dig (c : Int) : Int := if 48 ≤ c ∧ c ≤ 57 then c - 48 else if 97 ≤ c ∧ c ≤ 102 then c - 87 else 16
theorem dig_lo (c : Int) : 0 ≤ dig c := by unfold dig; split <;> (try split) <;> omega
theorem dig_hi (c : Int) : dig c ≤ 16 := by unfold dig; split <;> (try split) <;> omega

/-- the digit of a number below 16 -/
def hexd (v : Nat) : Nat := if v < 10 then 48 + v else 87 + v
theorem hexd_lt (v : Nat) (h : v < 16) : hexd v < 256 := by unfold hexd; split <;> omega
theorem dig_hexd (v : Nat) (h : v < 16) : dig (hexd v : Int) = (v : Int) := by
  unfold hexd dig
  split
  · rw [if_pos (by omega)]; omega
  · rw [if_neg (by omega), if_pos (by omega)]; omega

/-- the number that the first k digits make -/
def unhexTo (l : List UInt8) : Nat → Int
  | 0 => 0
  | k + 1 => unhexTo l k * 16 + dig (bt l k)
theorem unhexTo_succ (l : List UInt8) (k : Nat) : unhexTo l (k + 1) = unhexTo l k * 16 + dig (bt l k) := rfl
theorem unhexTo_lo (l : List UInt8) (k : Nat) : 0 ≤ unhexTo l k := by
  induction k with
  | zero => simp [unhexTo]
  | succ k ih => rw [unhexTo_succ]; have := dig_lo (bt l k); omega
theorem unhexTo_hi (l : List UInt8) (k : Nat) (h : ∀ j, j < k → dig (bt l j) ≤ 15) : unhexTo l k < 16 ^ k := by
  induction k with
  | zero => simp [unhexTo]
  | succ k ih =>
    rw [unhexTo_succ, Int.pow_succ]
    have h1 := ih (fun j hj => h j (by omega))
    have h2 := h k (by omega)
    omega

theorem pow16_le (k m : Nat) (h : k ≤ m) : (16 : Int) ^ k ≤ 16 ^ m := by
  have hn : (16 : Nat) ^ k ≤ 16 ^ m := Nat.pow_le_pow_right (by omega) h
  have e : ∀ j : Nat, (16 : Int) ^ j = ((16 ^ j : Nat) : Int) := by
    intro j
    simp
  rw [e, e]
  exact Int.ofNat_le.2 hn
theorem pow16_15 (k : Nat) (h : k ≤ 15) : (16 : Int) ^ k ≤ 1152921504606846976 := by
  have h9 : (16 : Int) ^ 15 = 1152921504606846976 := by decide
  rw [← h9]
  exact pow16_le k 15 h

/-- sixteen digits, each of which is one -/
def hexOK (l : List UInt8) : Prop := l.length = 16 ∧ ∀ j, j < 16 → dig (bt l j) ≤ 15

theorem shl4 (x v : Int) (h0 : 0 ≤ x) (h1 : x < 1152921504606846976) (v0 : 0 ≤ v) (v1 : v ≤ 15) : bits BinOp.or IntKind.u64 (x * 16) v = x * 16 + v :=
  bits_join .u64 64 (by decide) wraps64 4 (x * 16) v (by omega) (by omega) (by omega) v0 (by omega) (by omega)

theorem and15 (y : Nat) (h : y < 18446744073709551616) : bits BinOp.and IntKind.u64 (y : Int) 15 = ((y % 16 : Nat) : Int) := by
  have := bits_mask .u64 64 (by decide) wraps64 4 (by decide) (y : Int) (by omega) (by omega)
  simp only [show (2 : Int) ^ 4 - 1 = 15 from rfl] at this
  rw [this]
  omega

/-- the sixteen digits of x -/
def hexOf (x : Nat) : List UInt8 := (List.range 16).map fun j => UInt8.ofNat (hexd (x / 16 ^ (15 - j) % 16))
theorem hexOf_len (x : Nat) : (hexOf x).length = 16 := by simp [hexOf]
theorem hexOf_bt (x j : Nat) (h : j < 16) : bt (hexOf x) j = (hexd (x / 16 ^ (15 - j) % 16) : Int) := by
  unfold bt hexOf
  rw [List.getD_eq_getElem?_getD, List.getElem?_map, List.getElem?_range h]
  simp only [Option.map_some, Option.getD_some, UInt8.toNat_ofNat']
  have := hexd_lt (x / 16 ^ (15 - j) % 16) (Nat.mod_lt _ (by omega))
  omega

/-- what cell j of the row holds behind k rounds -/
def hexCell (x k j : Nat) : Int := if 16 - k ≤ j then (hexd (x / 16 ^ (15 - j) % 16) : Int) else 0

end Go.Proofs.YtdjodigimhgklaaGreatDoor
