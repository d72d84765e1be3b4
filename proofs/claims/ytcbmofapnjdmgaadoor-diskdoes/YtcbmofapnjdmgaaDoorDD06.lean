import Derived.Deep.RegionHeld
import Derived.Test.YtcbmofapnjdmgaaDoorProg
import Derived.Test.YtcbmofapnjdmgaaDoorDD01
import Derived.Outline
/- Regions that draw their order: what must hold of the memory may hang on which operations have come up. -/
namespace Go.Proofs.YtcbmofapnjdmgaaDoor

section
variable {P : Program} {ops : Array Oper} {Q : Exit → Act → World → Prop} {md : Region.Mode} {S : Array Bool → World → Prop}

def wpAnyG (P : Program) (md : Region.Mode) (ops : Array Oper) (Q : Exit → Act → World → Prop) (S : Array Bool → World → Prop) : Nat → Array Bool → Act → World → Prop
  | 0, listed, a, w => Region.ready md ops listed = [] ∧ Q .normal a w
  | fuel + 1, listed, a, w =>
    (Region.ready md ops listed = [] → Q .normal a w) ∧
    ∀ i ∈ Region.ready md ops listed, wpOp P ops Q i (fun a' w' => S (listed.setIfInBounds i true) w' ∧ wpAnyG P md ops Q S fuel (listed.setIfInBounds i true) a' w') a w
theorem wpAny_of_G : ∀ (fuel : Nat) (listed : Array Bool) (a : Act) (w : World), wpAnyG P md ops Q S fuel listed a w → wpAny P md ops Q fuel listed a w
  | 0, _, _, _, h => h
  | fuel + 1, _, _, _, h => ⟨h.1, fun i hi => wpOp_mono (fun a' w' h' => wpAny_of_G fuel _ a' w' h'.2) (h.2 i hi)⟩

/-- An operation may be taken first, if it yields its value in every world that meets T; T holds as long as the operation b, which waits for it, has not come up. -/
theorem wpAnyG_first {i b : Nat} {oi ob : Oper} {v : Value} {T : World → Prop} (hi : ops[i]? = some oi) (hsel : ∀ (j : Nat) (o : Oper) cs b, ops[j]? = some o → o.op ≠ .select cs b)
    (hQ : ∀ c a w, Q (.panic c) (a.put oi.dst v) w → Q (.panic c) a w) (hT : ∀ L w, L.getD b true = false → S L w → T w)
    (hSi : ∀ L w, L.getD b true = false → S L w → S (L.setIfInBounds i true) w) (hSu : ∀ L w, L.getD b true = false → S (L.setIfInBounds i true) w → S L w) (hb : ops[b]? = some ob) (hbw : ∃ e ∈ ob.after, Region.binds md e = true ∧ e.on = i) (hbi : b ≠ i) :
    ∀ (fuel : Nat) (listed : Array Bool) (a : Act) (w : World), listed.getD b true = false →
      (∀ j oj, ops[j]? = some oj → j ≠ i → listed.getD j true = false → (∀ e ∈ oj.after, Region.binds md e = true → e.on ≠ i) → oi.apart ops oj = true) →
      i ∈ Region.ready md ops listed → YieldsIf P ops T oi v a → S listed w →
      wpAnyG P md ops Q S fuel (listed.setIfInBounds i true) (a.put oi.dst v) w → wpAnyG P md ops Q S (fuel + 1) listed a w := by
  intro fuel
  induction fuel with
  | zero =>
    intro listed a w hlb _ hr hy hS H
    refine ⟨fun h => (by rw [h] at hr; cases hr), fun j hj => ?_⟩
    by_cases hji : j = i
    · subst hji; exact hy.wpOp hi (hT _ _ hlb hS) ⟨hSi _ _ hlb hS, H⟩
    · have := ready_mono hj hji
      rw [H.1] at this
      cases this
  | succ fuel ih =>
    intro listed a w hlb hfree hr hy hS H
    refine ⟨fun h => (by rw [h] at hr; cases hr), fun j hj => ?_⟩
    by_cases hji : j = i
    · subst hji; exact hy.wpOp hi (hT _ _ hlb hS) ⟨hSi _ _ hlb hS, H⟩
    · have h1 := H.2 j (ready_mono hj hji)
      obtain ⟨hjun, oj, hoj, hall⟩ := mem_ready.1 hj
      have hnot : ∀ e ∈ oj.after, Region.binds md e = true → e.on ≠ i := fun e he hbd heq => by
        have h1 := hall e he hbd
        have h0 := (mem_ready.1 hr).1
        rw [heq] at h1
        rcases Nat.lt_or_ge i listed.size with h' | h'
        · simp [h'] at h0 h1; rw [h0] at h1; cases h1
        · simp [Array.getElem?_eq_none h'] at h1
      have hjb : j ≠ b := fun e => by
        subst e
        obtain ⟨e, he, hbd, heq⟩ := hbw
        rw [hb] at hoj
        cases hoj
        exact hnot e he hbd heq
      have hlb' : (listed.setIfInBounds j true).getD b true = false := by rw [getD_set_ne true hjb]; exact hlb
      have h2 := wpOp_putIf hoj (hfree j oj hoj hji hjun hnot) (fun cs b => hsel i oi cs b hi) (fun cs b => hsel j oj cs b hoj) hQ hy h1
      have hfree' : ∀ k ok, ops[k]? = some ok → k ≠ i → (listed.setIfInBounds j true).getD k true = false →
          (∀ e ∈ ok.after, Region.binds md e = true → e.on ≠ i) → oi.apart ops ok = true := fun k ok hk hki hun hno => by
        refine hfree k ok hk hki ?_ hno
        by_cases hjk : j = k
        · subst hjk; exact hjun
        · rw [getD_set_ne true hjk] at hun; exact hun
      refine wpOp_mono (fun a' w' h3 => ?_) h2
      have hSS : S (listed.setIfInBounds j true) w' := by
        have h4 := h3.2.1
        rw [Array.setIfInBounds_comm _ _ (Ne.symm hji)] at h4
        exact hSu _ _ hlb' h4
      refine ⟨hSS, ih (listed.setIfInBounds j true) a' w' hlb' hfree' (ready_mono hr (Ne.symm hji)) h3.1 hSS ?_⟩
      rw [Array.setIfInBounds_comm _ _ hji]
      exact h3.2.2
theorem wpAnyG_ready {rs : List Nat} {fuel : Nat} {listed : Array Bool} {a : Act} {w : World} (hr : Region.ready md ops listed = rs) (hne : rs ≠ [])
    (h : ∀ i ∈ rs, wpOp P ops Q i (fun a' w' => S (listed.setIfInBounds i true) w' ∧ wpAnyG P md ops Q S fuel (listed.setIfInBounds i true) a' w') a w) : wpAnyG P md ops Q S (fuel + 1) listed a w :=
  ⟨fun h0 => absurd (hr ▸ h0) hne, hr ▸ h⟩
theorem wpAnyG_one {i : Nat} {o : Oper} {fuel : Nat} {listed : Array Bool} {a : Act} {w : World} (hr : Region.ready md ops listed = [i]) (ho : ops[i]? = some o)
    (h : ∀ K' : Act → World → Prop, Shut (∀ a w, S (listed.setIfInBounds i true) w → (S (listed.setIfInBounds i true) w → wpAnyG P md ops Q S fuel (listed.setIfInBounds i true) a w) → K' a w) → if Region.wanted o (yielded ops a.tmps) = true then Oper.wp P o a w K' Q else K' (a.put o.dst undef) w) : wpAnyG P md ops Q S (fuel + 1) listed a w :=
  wpAnyG_ready hr (by simp) fun j hj => by
    simp at hj
    subst hj
    exact wpOp_step ho (fun K' hK => h K' (fun a w hS hW => hK a w ⟨hS, hW hS⟩))
theorem wpAnyG_done {listed : Array Bool} {a : Act} {w : World} (hr : Region.ready md ops listed = []) (h : Q .normal a w) :
    ∀ fuel, wpAnyG P md ops Q S fuel listed a w
  | 0 => ⟨hr, h⟩
  | _ + 1 => ⟨fun _ => h, by rw [hr]; simp⟩
theorem wp_region_G {id : Nat} {a : Act} {w : World} (hm : P.follows .mixedOrders = true)
    (h : wpAnyG P .any ops Q S ops.size (Array.replicate ops.size false) a w.drew) : (Code.region id ops true).wp P Q a w :=
  wp_region_any hm (wpAny_of_G _ _ _ _ h)
/-- memory that holds T0, and T as long as the operation b has not come up -/
def SB (b : Nat) (T T0 : World → Prop) : Array Bool → World → Prop := fun L w => (L.getD b true = false → T w) ∧ T0 w
theorem SB.set {b i : Nat} {T T0 : World → Prop} {L : Array Bool} {w : World} (h : i ≠ b) : SB b T T0 (L.setIfInBounds i true) w ↔ SB b T T0 L w := by
  unfold SB
  rw [getD_set_ne true h]
/-- number i is taken first: it yields its value in every world that meets T and T0, and b waits for it -/
theorem wpAnyG_takeB {i b : Nat} {oi ob : Oper} {v : Value} {T T0 : World → Prop} {fuel : Nat} {listed : Array Bool} {a : Act} {w : World} (hi : ops[i]? = some oi)
    (hs : Region.noSelect ops = true) (hf : Region.free md ops listed i = true) (hr : (Region.ready md ops listed).contains i = true)
    (hQ : ∀ c a w, Q (.panic c) (a.put oi.dst v) w → Q (.panic c) a w) (hb : ops[b]? = some ob) (hbw : (ob.after.any fun e => Region.binds md e && e.on == i) = true) (hne : (i != b) = true) (hl : (listed.getD b true) = false)
    (hy : YieldsIf P ops (fun W => T W ∧ T0 W) oi v a) (hS : SB b T T0 listed w)
    (h : SB b T T0 (listed.setIfInBounds i true) w → wpAnyG P md ops Q (SB b T T0) fuel (listed.setIfInBounds i true) (a.put oi.dst v) w) : wpAnyG P md ops Q (SB b T T0) (fuel + 1) listed a w := by
  have hib : i ≠ b := by simpa using hne
  refine wpAnyG_first (T := fun W => T W ∧ T0 W) (b := b) hi (Region.noSelect_spec hs) hQ (fun L w hL hS => ⟨hS.1 hL, hS.2⟩) (fun L w _ hS => (SB.set hib).2 hS) (fun L w _ hS => (SB.set hib).1 hS) hb ?_ (Ne.symm hib) fuel listed a w hl (Region.free_spec hi hf) (by simpa using hr) hy hS (h ((SB.set hib).2 hS))
  simp only [Array.any_eq_true'] at hbw
  obtain ⟨e, he, h2⟩ := hbw
  simp only [Bool.and_eq_true, beq_iff_eq] at h2
  exact ⟨e, he, h2.1, h2.2⟩
/-- number i is taken first: it yields its value in every world that meets T0 -/
theorem wpAnyG_firstP {i b : Nat} {oi : Oper} {v : Value} {T T0 : World → Prop} (hib : i ≠ b) (hi : ops[i]? = some oi) (hsel : ∀ (j : Nat) (o : Oper) cs b, ops[j]? = some o → o.op ≠ .select cs b)
    (hQ : ∀ c a w, Q (.panic c) (a.put oi.dst v) w → Q (.panic c) a w) :
    ∀ (fuel : Nat) (listed : Array Bool) (a : Act) (w : World),
      (∀ j oj, ops[j]? = some oj → j ≠ i → listed.getD j true = false → (∀ e ∈ oj.after, Region.binds md e = true → e.on ≠ i) → oi.apart ops oj = true) →
      i ∈ Region.ready md ops listed → YieldsIf P ops T0 oi v a → SB b T T0 listed w →
      wpAnyG P md ops Q (SB b T T0) fuel (listed.setIfInBounds i true) (a.put oi.dst v) w → wpAnyG P md ops Q (SB b T T0) (fuel + 1) listed a w := by
  intro fuel
  induction fuel with
  | zero =>
    intro listed a w _ hr hy hS H
    refine ⟨fun h => (by rw [h] at hr; cases hr), fun j hj => ?_⟩
    by_cases hji : j = i
    · subst hji; exact hy.wpOp hi hS.2 ⟨(SB.set hib).2 hS, H⟩
    · have := ready_mono hj hji
      rw [H.1] at this
      cases this
  | succ fuel ih =>
    intro listed a w hfree hr hy hS H
    refine ⟨fun h => (by rw [h] at hr; cases hr), fun j hj => ?_⟩
    by_cases hji : j = i
    · subst hji; exact hy.wpOp hi hS.2 ⟨(SB.set hib).2 hS, H⟩
    · have h1 := H.2 j (ready_mono hj hji)
      obtain ⟨hjun, oj, hoj, hall⟩ := mem_ready.1 hj
      have hnot : ∀ e ∈ oj.after, Region.binds md e = true → e.on ≠ i := fun e he hbd heq => by
        have h1 := hall e he hbd
        have h0 := (mem_ready.1 hr).1
        rw [heq] at h1
        rcases Nat.lt_or_ge i listed.size with h' | h'
        · simp [h'] at h0 h1; rw [h0] at h1; cases h1
        · simp [Array.getElem?_eq_none h'] at h1
      have h2 := wpOp_putIf hoj (hfree j oj hoj hji hjun hnot) (fun cs b => hsel i oi cs b hi) (fun cs b => hsel j oj cs b hoj) hQ hy h1
      have hfree' : ∀ k ok, ops[k]? = some ok → k ≠ i → (listed.setIfInBounds j true).getD k true = false →
          (∀ e ∈ ok.after, Region.binds md e = true → e.on ≠ i) → oi.apart ops ok = true := fun k ok hk hki hun hno => by
        refine hfree k ok hk hki ?_ hno
        by_cases hjk : j = k
        · subst hjk; exact hjun
        · rw [getD_set_ne true hjk] at hun; exact hun
      refine wpOp_mono (fun a' w' h3 => ?_) h2
      have hSS : SB b T T0 (listed.setIfInBounds j true) w' := by
        have h4 := h3.2.1
        rw [Array.setIfInBounds_comm _ _ (Ne.symm hji)] at h4
        exact (SB.set hib).1 h4
      refine ⟨hSS, ih (listed.setIfInBounds j true) a' w' hfree' (ready_mono hr (Ne.symm hji)) h3.1 hSS ?_⟩
      rw [Array.setIfInBounds_comm _ _ hji]
      exact h3.2.2
theorem wpAnyG_takeP {i b : Nat} {oi : Oper} {v : Value} {T T0 : World → Prop} {fuel : Nat} {listed : Array Bool} {a : Act} {w : World} (hi : ops[i]? = some oi)
    (hs : Region.noSelect ops = true) (hf : Region.free md ops listed i = true) (hr : (Region.ready md ops listed).contains i = true)
    (hQ : ∀ c a w, Q (.panic c) (a.put oi.dst v) w → Q (.panic c) a w) (hne : (i != b) = true)
    (hy : YieldsIf P ops T0 oi v a) (hS : SB b T T0 listed w)
    (h : SB b T T0 (listed.setIfInBounds i true) w → wpAnyG P md ops Q (SB b T T0) fuel (listed.setIfInBounds i true) (a.put oi.dst v) w) : wpAnyG P md ops Q (SB b T T0) (fuel + 1) listed a w :=
  wpAnyG_firstP (by simpa using hne) hi (Region.noSelect_spec hs) hQ fuel listed a w (Region.free_spec hi hf) (by simpa using hr) hy hS (h ((SB.set (by simpa using hne)).2 hS))
theorem SB.on {b : Nat} {T T0 : World → Prop} {L : Array Bool} {w : World} (h1 : T w) (h2 : T0 w) : SB b T T0 L w := ⟨fun _ => h1, h2⟩
theorem SB.off {b : Nat} {T T0 : World → Prop} {L : Array Bool} {w : World} (hL : L.getD b true = true) (h : T0 w) : SB b T T0 L w := ⟨(fun h' => by rw [hL] at h'; cases h'), h⟩
end
end Go.Proofs.YtcbmofapnjdmgaaDoor

/- The walk of the look whether a text is a file's name. -/
namespace Go.Proofs.YtcbmofapnjdmgaaDoor
open Go.RowKit

/-- may this byte stand in a file's name? -/
def okc (c : Int) : Bool := (decide (97 ≤ c) && decide (c ≤ 122)) || (decide (48 ≤ c) && decide (c ≤ 57)) || decide (c = 45) || decide (c = 46)
def okTo (l : List UInt8) (k : Nat) : Bool := (List.range k).all fun j => okc (bt l j)
/-- is it a file's name? -/
def nameB (l : List UInt8) : Bool := decide (1 ≤ l.length) && decide (l.length ≤ 32) && okTo l l.length

theorem okTo_succ (l : List UInt8) (k : Nat) : okTo l (k + 1) = (okTo l k && okc (bt l k)) := by simp [okTo, List.range_succ]
theorem okTo_le (l : List UInt8) (k n : Nat) (h : okTo l n = true) (hk : k ≤ n) : okTo l k = true := by
  simp only [okTo, List.all_eq_true, List.mem_range] at h ⊢
  exact fun j hj => h j (by omega)

set_option maxHeartbeats 1000000 in
theorem name_any (s : ByteArray) (w : World) (hs : s.size ≤ maxLen) :
    Calls Tryd.prog 32 #[.string s] w fun e w' => e = .returned (.bool (nameB s.data.toList)) ∧ w' = w := by
  have hs' : s.size ≤ 9223372036854775807 := by unfold maxLen at hs; omega
  have hll : s.data.toList.length = s.size := by simp
  by_cases h1 : s.size < 1
  · have i1 : (s.size : Int) < 1 := by omega
    go_enter Tryd.func32, Tryd.ntmps32
    go_wp2
    go_ret
    refine ⟨?_, rfl⟩
    simp [nameB, show ¬ 1 ≤ s.size by omega]
  · have i1 : ¬ (s.size : Int) < 1 := by omega
    by_cases h2 : 32 < s.size
    · have i2 : (32 : Int) < s.size := by omega
      go_enter Tryd.func32, Tryd.ntmps32
      go_wp2
      go_ret
      refine ⟨?_, rfl⟩
      simp [nameB, show ¬ s.size ≤ 32 by omega]
    · have i2 : ¬ (32 : Int) < s.size := by omega
      go_enter Tryd.func32, Tryd.ntmps32
      go_wp2
      go_loop [15] (fun i => ∃ k : Nat, k ≤ s.size ∧ i = .int .i64 k ∧ Hid (okTo s.data.toList k = true)) (fun i => s.size - (intOf i).toNat)
      case atStart => exact ⟨0, by omega, rfl, rfl⟩
      case round =>
        obtain ⟨k, hk, rfl, hok⟩ := hrel
        by_cases hlt : k < s.size
        · have i3 : (k : Int) < s.size := by omega
          have hbt : bt s.data.toList k = (s[k].toNat : Int) := by
            unfold bt
            congr 2
            simp [List.getD, hlt]
            rfl
          go_wp2
          all_goals first
            | (refine ⟨⟨k + 1, by omega, by simp, ?_⟩, by simp [intOf]; omega⟩
               show okTo s.data.toList (k + 1) = true
               rw [okTo_succ, hok.out, hbt]
               simp [okc]
               omega)
            | (refine ⟨⟨k + 1, by omega, by simp, ?_⟩, by simp [intOf]; omega⟩
               show okTo s.data.toList (k + 1) = true
               rw [okTo_succ, hok.out, hbt]
               unfold okc
               grind)
            | (go_ret
               refine ⟨?_, rfl⟩
               have hno : okc (bt s.data.toList k) = false := by rw [hbt]; unfold okc; grind
               have : nameB s.data.toList = false := by
                 cases hnb : nameB s.data.toList with
                 | false => rfl
                 | true =>
                   simp only [nameB, Bool.and_eq_true, decide_eq_true_eq] at hnb
                   have := okTo_le _ (k + 1) _ hnb.2 (by omega)
                   rw [okTo_succ, hno] at this
                   simp at this
               rw [this]
               rfl)
        · have i3 : ¬ (k : Int) < s.size := by omega
          go_wp2
          go_ret
          refine ⟨?_, rfl⟩
          obtain rfl : k = s.size := by omega
          have := hok.out
          simp [nameB, show 1 ≤ s.size by omega, show s.size ≤ 32 by omega, this]
end Go.Proofs.YtcbmofapnjdmgaaDoor
