import Derived.Test.YtncagdfbgpdhfaaGreatP34
import Derived.Deep.RegionHeld
import Derived.Test.YtncagdfbgpdhfaaGreatP35
import Derived.Deep.DeepCutAuto
import Derived.Deep.CutRange
import Derived.BigRegion
import Derived.Deep.LoopGhost
import Derived.Test.YtncagdfbgpdhfaaGreatP21
/- The document's Find among nodes. -/
namespace Go.Proofs.YtncagdfbgpdhfaaGreat
open Go.RowKit Go.Maps

attribute [local go_sem] Oper.semAt_some

/-- a slice of nodes -/
def Nds (w : World) (a : Option Addr) (n : Nat) (ns : List Nd) : Prop := ns.length = n ∧ (0 < n → ∃ b off, a = some ⟨b, off, none⟩ ∧ ∀ (j : Nat) (x : Nd), ns[j]? = some x → w.cell? ⟨b, off + j * 3, none⟩ = some (.int .u64 x.id) ∧ w.cell? ⟨b, off + j * 3 + 1, none⟩ = some (.slice x.pa x.pn x.pc) ∧ w.cell? ⟨b, off + j * 3 + 2, none⟩ = some (.bool x.other))
theorem row_nds {w : World} {B n c : Nat} {ad : Option Addr} {ns : List Nd} (h : w.ownsRow B 85 3 (.slice ad n c) n (ndCells ns)) (hl : ns.length = n) : Nds w ad n ns := by
  refine ⟨hl, fun h0 => ?_⟩
  rcases h.2 with ⟨e, h'⟩ | ⟨g, cap, cur, e, _⟩
  · omega
  · cases e
    refine ⟨g, 0, rfl, fun j m hm => ?_⟩
    have hj := (List.getElem?_eq_some_iff.1 hm).1
    obtain ⟨h1, h2, h3⟩ := ndCells_get ns j m hm
    simp only [Nat.zero_add]
    refine ⟨?_, ?_, ?_⟩ <;> rw [h.cellAt _ (by omega)] <;> assumption
/-- where an id stands among nodes -/
def fiN : List Nd → Int → Int → Int
  | [], _, _ => -1
  | x :: r, i, k => if x.id = i then k else fiN r i (k + 1)
theorem fiN_drop (l : List Nd) (k : Nat) (x : Nd) (i : Int) (h : l[k]? = some x) : fiN (l.drop k) i k = if x.id = i then (k : Int) else fiN (l.drop (k + 1)) i ((k + 1 : Nat) : Int) := by
  have hk := (List.getElem?_eq_some_iff.1 h).1
  rw [List.drop_eq_getElem_cons hk]
  have : l[k] = x := (List.getElem?_eq_some_iff.1 h).2
  rw [this]
  rfl
theorem fiN_neg : ∀ (l : List Nd) (i : Int) (k : Nat), fiN l i k < 0 ↔ hasN (l.map Nd.told) i = false
  | [], i, k => by simp [fiN, hasN]
  | x :: r, i, k => by
    have ih := fiN_neg r i (k + 1)
    have e1 : fiN (x :: r) i k = if x.id = i then (k : Int) else fiN r i ((k : Int) + 1) := rfl
    have e2 : hasN ((x :: r).map Nd.told) i = ((x.id == i) || hasN (r.map Nd.told) i) := rfl
    have e3 : (((k + 1 : Nat)) : Int) = (k : Int) + 1 := by simp
    rw [e3] at ih
    rw [e1, e2]
    by_cases h : x.id = i
    · rw [if_pos h]
      simp [h]
    · rw [if_neg h, ih]
      have : (x.id == i) = false := beq_eq_false_iff_ne.2 h
      rw [this, Bool.false_or]
set_option maxRecDepth 20000 in
theorem find11_any (w : World) (a : Option Addr) (n c : Nat) (ns : List Nd) (h : Nds w a n ns) (hn : n ≤ 1000000000000) (i : Int) :
    Calls Tryz.prog 37 #[.slice a n c, .int .u64 i] w fun e w' => e = .returned (.int .i64 (fiN ns i 0)) ∧ w' = w := by
  have hll := h.1
  obtain ⟨E, hE⟩ : ∃ E, E = fiN ns i 0 := ⟨_, rfl⟩
  rw [← hE]
  go_enter Tryz.func37, Tryz.ntmps37
  go_wp2
  go_loopw [5] (fun v wr => ∃ k : Nat, k ≤ n ∧ v = .int .i64 (k : Int) ∧ Hid (E = fiN (ns.drop k) i k ∧ wr = w)) (fun v _ => n - (intOf v).toNat)
  case atStart => exact ⟨0, Nat.zero_le _, rfl, hE, rfl⟩
  case round =>
    clear hE
    obtain ⟨k, hk, rfl, H⟩ := hrel
    have hwr := H.out.2
    subst hwr
    by_cases hlt : k < n
    · obtain ⟨x, hx⟩ : ∃ x, ns[k]? = some x := ⟨_, List.getElem?_eq_getElem (by omega)⟩
      obtain ⟨b1, o1, rfl, hc1⟩ := h.2 (by omega)
      obtain ⟨q0, q1, q2⟩ := hc1 k x hx
      have HD := H.out.1.trans (fiN_drop ns k x i hx)
      have i2 : (k : Int) < (n : Int) := by omega
      have i3 : ¬ n ≤ k := by omega
      clear hc1 hx H q1 q2
      by_cases h0 : x.id = i
      · rw [if_pos h0] at HD
        rw [h0] at q0
        clear h0
        subst HD
        go_wp2
        go_ret
        exact ⟨rfl, rfl⟩
      · rw [if_neg h0] at HD
        have HE : Hid (E = fiN (ns.drop (k + 1)) i ((k + 1 : Nat) : Int)) := HD
        clear HD
        generalize x.id = xi at *
        have h0' : (xi == i) = false := beq_eq_false_iff_ne.2 h0
        go_wp2
        go_roundw
        case rel => exact ⟨k + 1, by omega, by simp, HE.out, by trivial⟩
        case measure => simp [intOf]; omega
    · obtain rfl : k = n := by omega
      have i2 : ¬ (k : Int) < (k : Int) := by omega
      have e0 : E = -1 := by rw [H.out.1, List.drop_of_length_le (by omega)]; rfl
      clear H
      subst e0
      go_wp2
      go_ret
      exact ⟨rfl, rfl⟩
end Go.Proofs.YtncagdfbgpdhfaaGreat

/- Regions that draw their order: what must hold of the memory may hang on which operations have come up. -/
namespace Go.Proofs.YtncagdfbgpdhfaaGreat

section
variable {P : Program} {ops : Array Oper} {Q : Exit → Act → World → Prop} {md : Region.Mode} {S : Array Bool → World → Prop}

def wpAnyG (P : Program) (md : Region.Mode) (ops : Array Oper) (Q : Exit → Act → World → Prop) (S : Array Bool → World → Prop) : Nat → Array Bool → Act → World → Prop
  | 0, listed, a, w => Region.ready md ops listed = [] ∧ Q .normal a w
  | fuel + 1, listed, a, w =>
    (Region.ready md ops listed = [] → Q .normal a w) ∧
    ∀ i ∈ Region.ready md ops listed, wpOp P ops Q i (fun a' w' => S (listed.setIfInBounds i true) w' ∧ wpAnyG P md ops Q S fuel (listed.setIfInBounds i true) a' w') a w
theorem wpAny_of_G : ∀ (fuel : Nat) (listed : Array Bool) (a : Act) (w : World), wpAnyG P md ops Q S fuel listed a w → wpAny P md ops Q fuel listed a w
  | 0, _, _, _, h => h
  | fuel + 1, _, _, _, h => ⟨h.1, fun i hi => wpOp_mono (fun a' w' h' => wpAny_of_G fuel _ a' w' h'.2) (h.2 i hi)⟩

/-- An operation may be taken first, if it yields its value in every world that meets T; T holds as long as the operation b, which waits for it, has not come up. -/
theorem wpAnyG_first {i b : Nat} {oi ob : Oper} {v : Value} {T : World → Prop} (hi : ops[i]? = some oi) (hsel : ∀ (j : Nat) (o : Oper) cs b, ops[j]? = some o → o.op ≠ .select cs b)
    (hQ : ∀ c a w, Q (.panic c) (a.put oi.dst v) w → Q (.panic c) a w) (hT : ∀ L w, L.getD b true = false → S L w → T w)
    (hSi : ∀ L w, L.getD b true = false → S L w → S (L.setIfInBounds i true) w) (hSu : ∀ L w, L.getD b true = false → S (L.setIfInBounds i true) w → S L w) (hb : ops[b]? = some ob) (hbw : ∃ e ∈ ob.after, Region.binds md e = true ∧ e.on = i) (hbi : b ≠ i) :
    ∀ (fuel : Nat) (listed : Array Bool) (a : Act) (w : World), listed.getD b true = false →
      (∀ j oj, ops[j]? = some oj → j ≠ i → listed.getD j true = false → (∀ e ∈ oj.after, Region.binds md e = true → e.on ≠ i) → oi.apart ops oj = true) →
      i ∈ Region.ready md ops listed → YieldsIf P ops T oi v a → S listed w →
      wpAnyG P md ops Q S fuel (listed.setIfInBounds i true) (a.put oi.dst v) w → wpAnyG P md ops Q S (fuel + 1) listed a w := by
  intro fuel
  induction fuel with
  | zero =>
    intro listed a w hlb _ hr hy hS H
    refine ⟨fun h => (by rw [h] at hr; cases hr), fun j hj => ?_⟩
    by_cases hji : j = i
    · subst hji; exact hy.wpOp hi (hT _ _ hlb hS) ⟨hSi _ _ hlb hS, H⟩
    · have := ready_mono hj hji
      rw [H.1] at this
      cases this
  | succ fuel ih =>
    intro listed a w hlb hfree hr hy hS H
    refine ⟨fun h => (by rw [h] at hr; cases hr), fun j hj => ?_⟩
    by_cases hji : j = i
    · subst hji; exact hy.wpOp hi (hT _ _ hlb hS) ⟨hSi _ _ hlb hS, H⟩
    · have h1 := H.2 j (ready_mono hj hji)
      obtain ⟨hjun, oj, hoj, hall⟩ := mem_ready.1 hj
      have hnot : ∀ e ∈ oj.after, Region.binds md e = true → e.on ≠ i := fun e he hbd heq => by
        have h1 := hall e he hbd
        have h0 := (mem_ready.1 hr).1
        rw [heq] at h1
        rcases Nat.lt_or_ge i listed.size with h' | h'
        · simp [h'] at h0 h1; rw [h0] at h1; cases h1
        · simp [Array.getElem?_eq_none h'] at h1
      have hjb : j ≠ b := fun e => by
        subst e
        obtain ⟨e, he, hbd, heq⟩ := hbw
        rw [hb] at hoj
        cases hoj
        exact hnot e he hbd heq
      have hlb' : (listed.setIfInBounds j true).getD b true = false := by rw [getD_set_ne true hjb]; exact hlb
      have h2 := wpOp_putIf hoj (hfree j oj hoj hji hjun hnot) (fun cs b => hsel i oi cs b hi) (fun cs b => hsel j oj cs b hoj) hQ hy h1
      have hfree' : ∀ k ok, ops[k]? = some ok → k ≠ i → (listed.setIfInBounds j true).getD k true = false →
          (∀ e ∈ ok.after, Region.binds md e = true → e.on ≠ i) → oi.apart ops ok = true := fun k ok hk hki hun hno => by
        refine hfree k ok hk hki ?_ hno
        by_cases hjk : j = k
        · subst hjk; exact hjun
        · rw [getD_set_ne true hjk] at hun; exact hun
      refine wpOp_mono (fun a' w' h3 => ?_) h2
      have hSS : S (listed.setIfInBounds j true) w' := by
        have h4 := h3.2.1
        rw [Array.setIfInBounds_comm _ _ (Ne.symm hji)] at h4
        exact hSu _ _ hlb' h4
      refine ⟨hSS, ih (listed.setIfInBounds j true) a' w' hlb' hfree' (ready_mono hr (Ne.symm hji)) h3.1 hSS ?_⟩
      rw [Array.setIfInBounds_comm _ _ hji]
      exact h3.2.2
theorem wpAnyG_ready {rs : List Nat} {fuel : Nat} {listed : Array Bool} {a : Act} {w : World} (hr : Region.ready md ops listed = rs) (hne : rs ≠ [])
    (h : ∀ i ∈ rs, wpOp P ops Q i (fun a' w' => S (listed.setIfInBounds i true) w' ∧ wpAnyG P md ops Q S fuel (listed.setIfInBounds i true) a' w') a w) : wpAnyG P md ops Q S (fuel + 1) listed a w :=
  ⟨fun h0 => absurd (hr ▸ h0) hne, hr ▸ h⟩
theorem wpAnyG_one {i : Nat} {o : Oper} {fuel : Nat} {listed : Array Bool} {a : Act} {w : World} (hr : Region.ready md ops listed = [i]) (ho : ops[i]? = some o)
    (h : ∀ K' : Act → World → Prop, Shut (∀ a w, S (listed.setIfInBounds i true) w → (S (listed.setIfInBounds i true) w → wpAnyG P md ops Q S fuel (listed.setIfInBounds i true) a w) → K' a w) → if Region.wanted o (yielded ops a.tmps) = true then Oper.wp P o a w K' Q else K' (a.put o.dst undef) w) : wpAnyG P md ops Q S (fuel + 1) listed a w :=
  wpAnyG_ready hr (by simp) fun j hj => by
    simp at hj
    subst hj
    exact wpOp_step ho (fun K' hK => h K' (fun a w hS hW => hK a w ⟨hS, hW hS⟩))
theorem wpAnyG_done {listed : Array Bool} {a : Act} {w : World} (hr : Region.ready md ops listed = []) (h : Q .normal a w) :
    ∀ fuel, wpAnyG P md ops Q S fuel listed a w
  | 0 => ⟨hr, h⟩
  | _ + 1 => ⟨fun _ => h, by rw [hr]; simp⟩
theorem wp_region_G {id : Nat} {a : Act} {w : World} (hm : P.follows .mixedOrders = true)
    (h : wpAnyG P .any ops Q S ops.size (Array.replicate ops.size false) a w.drew) : (Code.region id ops true).wp P Q a w :=
  wp_region_any hm (wpAny_of_G _ _ _ _ h)
/-- memory that holds T0, and T as long as the operation b has not come up -/
def SB (b : Nat) (T T0 : World → Prop) : Array Bool → World → Prop := fun L w => (L.getD b true = false → T w) ∧ T0 w
theorem SB.set {b i : Nat} {T T0 : World → Prop} {L : Array Bool} {w : World} (h : i ≠ b) : SB b T T0 (L.setIfInBounds i true) w ↔ SB b T T0 L w := by
  unfold SB
  rw [getD_set_ne true h]
/-- number i is taken first: it yields its value in every world that meets T and T0, and b waits for it -/
theorem wpAnyG_takeB {i b : Nat} {oi ob : Oper} {v : Value} {T T0 : World → Prop} {fuel : Nat} {listed : Array Bool} {a : Act} {w : World} (hi : ops[i]? = some oi)
    (hs : Region.noSelect ops = true) (hf : Region.free md ops listed i = true) (hr : (Region.ready md ops listed).contains i = true)
    (hQ : ∀ c a w, Q (.panic c) (a.put oi.dst v) w → Q (.panic c) a w) (hb : ops[b]? = some ob) (hbw : (ob.after.any fun e => Region.binds md e && e.on == i) = true) (hne : (i != b) = true) (hl : (listed.getD b true) = false)
    (hy : YieldsIf P ops (fun W => T W ∧ T0 W) oi v a) (hS : SB b T T0 listed w)
    (h : SB b T T0 (listed.setIfInBounds i true) w → wpAnyG P md ops Q (SB b T T0) fuel (listed.setIfInBounds i true) (a.put oi.dst v) w) : wpAnyG P md ops Q (SB b T T0) (fuel + 1) listed a w := by
  have hib : i ≠ b := by simpa using hne
  refine wpAnyG_first (T := fun W => T W ∧ T0 W) (b := b) hi (Region.noSelect_spec hs) hQ (fun L w hL hS => ⟨hS.1 hL, hS.2⟩) (fun L w _ hS => (SB.set hib).2 hS) (fun L w _ hS => (SB.set hib).1 hS) hb ?_ (Ne.symm hib) fuel listed a w hl (Region.free_spec hi hf) (by simpa using hr) hy hS (h ((SB.set hib).2 hS))
  simp only [Array.any_eq_true'] at hbw
  obtain ⟨e, he, h2⟩ := hbw
  simp only [Bool.and_eq_true, beq_iff_eq] at h2
  exact ⟨e, he, h2.1, h2.2⟩
/-- number i is taken first: it yields its value in every world that meets T0 -/
theorem wpAnyG_firstP {i b : Nat} {oi : Oper} {v : Value} {T T0 : World → Prop} (hib : i ≠ b) (hi : ops[i]? = some oi) (hsel : ∀ (j : Nat) (o : Oper) cs b, ops[j]? = some o → o.op ≠ .select cs b)
    (hQ : ∀ c a w, Q (.panic c) (a.put oi.dst v) w → Q (.panic c) a w) :
    ∀ (fuel : Nat) (listed : Array Bool) (a : Act) (w : World),
      (∀ j oj, ops[j]? = some oj → j ≠ i → listed.getD j true = false → (∀ e ∈ oj.after, Region.binds md e = true → e.on ≠ i) → oi.apart ops oj = true) →
      i ∈ Region.ready md ops listed → YieldsIf P ops T0 oi v a → SB b T T0 listed w →
      wpAnyG P md ops Q (SB b T T0) fuel (listed.setIfInBounds i true) (a.put oi.dst v) w → wpAnyG P md ops Q (SB b T T0) (fuel + 1) listed a w := by
  intro fuel
  induction fuel with
  | zero =>
    intro listed a w _ hr hy hS H
    refine ⟨fun h => (by rw [h] at hr; cases hr), fun j hj => ?_⟩
    by_cases hji : j = i
    · subst hji; exact hy.wpOp hi hS.2 ⟨(SB.set hib).2 hS, H⟩
    · have := ready_mono hj hji
      rw [H.1] at this
      cases this
  | succ fuel ih =>
    intro listed a w hfree hr hy hS H
    refine ⟨fun h => (by rw [h] at hr; cases hr), fun j hj => ?_⟩
    by_cases hji : j = i
    · subst hji; exact hy.wpOp hi hS.2 ⟨(SB.set hib).2 hS, H⟩
    · have h1 := H.2 j (ready_mono hj hji)
      obtain ⟨hjun, oj, hoj, hall⟩ := mem_ready.1 hj
      have hnot : ∀ e ∈ oj.after, Region.binds md e = true → e.on ≠ i := fun e he hbd heq => by
        have h1 := hall e he hbd
        have h0 := (mem_ready.1 hr).1
        rw [heq] at h1
        rcases Nat.lt_or_ge i listed.size with h' | h'
        · simp [h'] at h0 h1; rw [h0] at h1; cases h1
        · simp [Array.getElem?_eq_none h'] at h1
      have h2 := wpOp_putIf hoj (hfree j oj hoj hji hjun hnot) (fun cs b => hsel i oi cs b hi) (fun cs b => hsel j oj cs b hoj) hQ hy h1
      have hfree' : ∀ k ok, ops[k]? = some ok → k ≠ i → (listed.setIfInBounds j true).getD k true = false →
          (∀ e ∈ ok.after, Region.binds md e = true → e.on ≠ i) → oi.apart ops ok = true := fun k ok hk hki hun hno => by
        refine hfree k ok hk hki ?_ hno
        by_cases hjk : j = k
        · subst hjk; exact hjun
        · rw [getD_set_ne true hjk] at hun; exact hun
      refine wpOp_mono (fun a' w' h3 => ?_) h2
      have hSS : SB b T T0 (listed.setIfInBounds j true) w' := by
        have h4 := h3.2.1
        rw [Array.setIfInBounds_comm _ _ (Ne.symm hji)] at h4
        exact (SB.set hib).1 h4
      refine ⟨hSS, ih (listed.setIfInBounds j true) a' w' hfree' (ready_mono hr (Ne.symm hji)) h3.1 hSS ?_⟩
      rw [Array.setIfInBounds_comm _ _ hji]
      exact h3.2.2
theorem wpAnyG_takeP {i b : Nat} {oi : Oper} {v : Value} {T T0 : World → Prop} {fuel : Nat} {listed : Array Bool} {a : Act} {w : World} (hi : ops[i]? = some oi)
    (hs : Region.noSelect ops = true) (hf : Region.free md ops listed i = true) (hr : (Region.ready md ops listed).contains i = true)
    (hQ : ∀ c a w, Q (.panic c) (a.put oi.dst v) w → Q (.panic c) a w) (hne : (i != b) = true)
    (hy : YieldsIf P ops T0 oi v a) (hS : SB b T T0 listed w)
    (h : SB b T T0 (listed.setIfInBounds i true) w → wpAnyG P md ops Q (SB b T T0) fuel (listed.setIfInBounds i true) (a.put oi.dst v) w) : wpAnyG P md ops Q (SB b T T0) (fuel + 1) listed a w :=
  wpAnyG_firstP (by simpa using hne) hi (Region.noSelect_spec hs) hQ fuel listed a w (Region.free_spec hi hf) (by simpa using hr) hy hS (h ((SB.set (by simpa using hne)).2 hS))
theorem SB.on {b : Nat} {T T0 : World → Prop} {L : Array Bool} {w : World} (h1 : T w) (h2 : T0 w) : SB b T T0 L w := ⟨fun _ => h1, h2⟩
theorem SB.off {b : Nat} {T T0 : World → Prop} {L : Array Bool} {w : World} (hL : L.getD b true = true) (h : T0 w) : SB b T T0 L w := ⟨(fun h' => by rw [hL] at h'; cases h'), h⟩
end
end Go.Proofs.YtncagdfbgpdhfaaGreat

/- The walk of born. -/
namespace Go.Proofs.YtncagdfbgpdhfaaGreat
open Go.RowKit Go.Shelf Go.Maps

attribute [local go_sem] Oper.semAt_some

/-- a slice of numbers -/
def Ints (w : World) (a : Option Addr) (n : Nat) (l : List Int) : Prop := l.length = n ∧ (0 < n → ∃ b off, a = some ⟨b, off, none⟩ ∧ ∀ (j : Nat) x, l[j]? = some x → w.cell? ⟨b, off + j, none⟩ = some (.int .i64 x))
/-- the parents that a commit has behind so many of its numbers -/
def backsP (ids : List Int) (back : List Int) (j : Nat) : List Int := if ids.length = 0 then [] else (back.take (min j 7)).map (backId ids)
theorem empty_dec : decG (obB (.tree [])) = some (.tree []) ∧ (obB (.tree [])).length ≤ 16384 := by
  have h := gob_ok (empty_ob default).1 empty_err
  exact ⟨h.2, h.1⟩
theorem emptyI_ne : emptyI ≠ 0 := by
  show idOf (obB (.tree [])) ≠ 0
  unfold idOf
  split <;> omega
theorem emptyI_rng : 0 ≤ emptyI ∧ emptyI ≤ 18446744073709551615 := by
  unfold emptyI oid
  exact idOf_bounds _
theorem cell_newD (w : World) (x : Value) (t : TypeId) : (w.alloc (.cells #[x] t)).drew.cell? ⟨w.heap.size, 0, none⟩ = some x := by
  show (w.alloc (.cells #[x] t)).cell? ⟨w.heap.size, 0, none⟩ = some x
  simp only [World.cell?, World.alloc_heap_new]
  rfl
theorem wrap_small {z : Int} (h0 : -9223372036854775808 ≤ z) (h1 : z ≤ 9223372036854775807) : IntKind.i64.wrap z = z := by
  simp only [IntKind.wrap, IntKind.signed, IntKind.bits]
  simp
  omega
/-- a node appended to a row of one's own, in a region that draws -/
theorem step_appN (w : World) {ops : Array Oper} {o : Oper} {a : Act} {K : Act → World → Prop} {Q : Exit → Act → World → Prop} {E : Prop} (hgd : o.guard = none) (s x : Operand)
    (ho : o.op = .call { callee := .builtin .append, args := #[s, x], argTypes := #[36, 36] }) (i0 : TypeInfo) (z : Value) (hi : Tryz.prog.info? 85 = some i0) (hz0 : i0.zero = some z) (hz1 : i0.size = 3) (hz2 : i0.bytes = 40) (hzc : z.cells.size = 3)
    (v : Value) (n : Nat) (xs : List Value) (hs : a.eval s = v) (hown : w.ownsRow 0 85 3 v n xs) (ad : Addr) (m : Nd) (hx : a.eval x = .slice (some ad) 1 1) (hm : ∀ j u, (ndCells [m])[j]? = some u → w.cell? (ad.add j) = some u) (hn : n ≤ 1000000000000)
    (h : ∀ v' w', w'.ownsRow 0 85 3 v' (n + 1) (xs ++ ndCells [m]) → w.grownBy w' v.ownBlock → (v'.ownBlock = v.ownBlock ∨ v'.ownBlock = some w.heap.size) → K (a.put o.dst v') w') :
    if Region.wanted o (yielded ops a.tmps) = true then Oper.wp Tryz.prog o a w K Q else E := by
  have hw : Region.wanted o (yielded ops a.tmps) = true := by simp [Region.wanted, hgd]
  rw [if_pos hw]
  obtain ⟨v', w', hr, h2, h3, _, h4⟩ := run_append_own_at (P := Tryz.prog) w 0 36 o.type 85 i0 z 3 40 Tryz.underlying36 hi hz0 hz1 hz2 hzc (by omega) v n xs hown ad 1 1 (ndCells [m]) rfl hm (ndCells_one _) (by unfold maxLen; omega) (by omega) (Nat.zero_le _)
  unfold Oper.wp execOp
  simp only [ho, resolve, invoke, builtin, Sem.run_bind, Sem.run_pure, Result.andThen_ok, List.map_toArray, List.map_cons, List.map_nil, hs, hx, hr]
  exact h v' w' h2 h3 h4
theorem own_or {v' v : Value} {w : World} {o : Obj} (h : v'.ownBlock = v.ownBlock ∨ v'.ownBlock = some (w.alloc o).heap.size) : ∀ z, v'.ownBlock = some z → v.ownBlock = some z ∨ w.heap.size ≤ z := by
  intro z hz
  rcases h with e | e
  · exact .inl (by rw [← e]; exact hz)
  · rw [e] at hz
    cases hz
    rw [World.size_alloc]
    exact .inr (Nat.le_succ _)
theorem row_high {w : World} {e : TypeId} {B n z : Nat} {v : Value} {xs : List Value} (h : w.ownsRow 0 e z v n xs) (hb : ∀ g, v.ownBlock = some g → B ≤ g) : w.ownsRow B e z v n xs := by
  refine ⟨h.1, ?_⟩
  rcases h.2 with h0 | ⟨g, cap, cur, h1, h2, h3⟩
  · exact .inl h0
  · exact .inr ⟨g, cap, cur, h1, hb g (by rw [h1]; rfl), h3⟩
theorem backsP_more (ids back : List Int) (j : Nat) (x : Int) (hk : 0 < ids.length) (hj : j < 7) (hx : back[j]? = some x) : backsP ids back (j + 1) = backsP ids back j ++ [backId ids x] := by
  unfold backsP
  rw [if_neg (by omega), if_neg (by omega), show min (j + 1) 7 = j + 1 by omega, show min j 7 = j by omega]
  have hkl := (List.getElem?_eq_some_iff.1 hx).1
  have hx' : back[j] = x := (List.getElem?_eq_some_iff.1 hx).2
  rw [List.take_succ_eq_append_getElem hkl, hx']
  simp
theorem backsP_len (ids back : List Int) (j : Nat) : (backsP ids back j).length ≤ 7 := by
  unfold backsP
  split
  · simp
  · rw [List.length_map, List.length_take]; omega

end Go.Proofs.YtncagdfbgpdhfaaGreat
