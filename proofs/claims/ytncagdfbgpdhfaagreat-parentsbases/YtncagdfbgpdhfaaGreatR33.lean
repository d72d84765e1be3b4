import Derived.Test.YtncagdfbgpdhfaaGreatR31
import Derived.Test.YtncagdfbgpdhfaaGreatR32
/- Ways and depths along an order, plain: each commit's number out of those of its parents; ancestors. -/
namespace Go.Proofs.YtncagdfbgpdhfaaGreat
open Go.RowKit Go.Maps

def psO (os : List Ob) (x : Int) : List Int := (parsO os x).getD []
theorem waysL_snoc : ∀ (l : List (Int × List Int)) (m : Int × List Int) (f : Int → Int), waysL (l ++ [m]) f = setG (waysL l f) m.1 (sumW (waysL l f) m.2 (waysL l f m.1))
  | [], m, f => rfl
  | x :: r, m, f => by simp only [List.cons_append, waysL]; exact waysL_snoc r m _
theorem sumW_congr {f g : Int → Int} : ∀ (l : List Int) (s : Int), (∀ p ∈ l, f p = g p) → sumW f l s = sumW g l s
  | [], s, _ => rfl
  | p :: r, s, h => by
    simp only [sumW]
    rw [h p (by simp)]
    exact sumW_congr r _ fun q hq => h q (by simp [hq])
theorem nodup_take {l : List Int} (h : l.Nodup) {k : Nat} {x : Int} (hx : l[k]? = some x) : x ∉ l.take k := by
  have hk := (List.getElem?_eq_some_iff.1 hx).1
  have e : l = l.take k ++ l.drop k := (List.take_append_drop k l).symm
  rw [e] at h
  have h3 := (List.nodup_append.1 h).2.2
  intro hm
  refine h3 x hm x ?_ rfl
  rw [List.drop_eq_getElem_cons hk]
  have : l[k] = x := (List.getElem?_eq_some_iff.1 hx).2
  rw [this]
  simp
theorem mem_take {l : List Int} {j k : Nat} {x : Int} (h : j < k) (hx : l[j]? = some x) : x ∈ l.take k :=
  List.mem_of_getElem? (i := j) (by rw [List.getElem?_take_of_lt h]; exact hx)
theorem nodup_at {l : List Int} (h : l.Nodup) {j k : Nat} {x : Int} (h1 : l[j]? = some x) (h2 : l[k]? = some x) : j = k := by
  rcases Nat.lt_trichotomy j k with e | e | e
  · exact absurd (mem_take e h1) (nodup_take h h2)
  · exact e
  · exact absurd (mem_take e h2) (nodup_take h h1)
/-- each parent stands ahead -/
def Ahead (P : Int → List Int) (l : List Int) : Prop := ∀ (i : Nat) x, l[i]? = some x → ∀ p ∈ P x, ∃ j, j < i ∧ l[j]? = some p
theorem Topo.ahead {os : List Ob} {l : List Int} (h : Topo (parsO os) l) : Ahead (psO os) l := by
  intro i x hx p hp
  obtain ⟨ps, h1, h2⟩ := h i x hx
  unfold psO at hp
  rw [h1] at hp
  exact h2 p hp
/-- a number for each commit, set in the order, each out of its parents' -/
theorem fix_of {P : Int → List Int} {l : List Int} (hn : l.Nodup) (hA : Ahead P l) (G : List Int → Int → Int) (V : (Int → Int) → Int → Int → Int) (f0 : Int → Int) (h0 : G [] = f0)
    (hs : ∀ m x, G (m ++ [x]) = setG (G m) x (V (G m) x (G m x))) (hV : ∀ f g x v, (∀ p ∈ P x, f p = g p) → V f x v = V g x v) :
    (∀ x ∈ l, G l x = V (G l) x (f0 x)) ∧ ∀ x, x ∉ l → G l x = f0 x := by
  have key : ∀ k, k ≤ l.length → (∀ j x, j < k → l[j]? = some x → G (l.take k) x = V (G (l.take k)) x (f0 x)) ∧ ∀ x, x ∉ l.take k → G (l.take k) x = f0 x := by
    intro k
    induction k with
    | zero => intro _; exact ⟨fun j x h => by omega, fun x _ => by simp [h0]⟩
    | succ k ih =>
      intro hk
      obtain ⟨ih1, ih2⟩ := ih (by omega)
      have hk' : k < l.length := by omega
      obtain ⟨y, hy⟩ : ∃ y, l[k]? = some y := ⟨_, List.getElem?_eq_getElem hk'⟩
      have hye : l[k] = y := (List.getElem?_eq_some_iff.1 hy).2
      have hyt := nodup_take hn hy
      rw [List.take_succ_eq_append_getElem hk', hye, hs]
      refine ⟨fun j x hj hx => ?_, fun x hx => ?_⟩
      · have hpar : ∀ p ∈ P x, setG (G (l.take k)) y (V (G (l.take k)) y (G (l.take k) y)) p = G (l.take k) p := by
          intro p hp
          obtain ⟨i, hi, hpi⟩ := hA j x hx p hp
          have hpt := mem_take (show i < k by omega) hpi
          have : p ≠ y := fun e => hyt (e ▸ hpt)
          simp [setG, this]
        rw [hV _ (G (l.take k)) x _ hpar]
        by_cases hjk : j = k
        · subst hjk
          rw [hx] at hy
          obtain rfl := Option.some.inj hy
          simp only [setG, if_pos]
          rw [ih2 _ hyt]
        · have hjk' : j < k := by omega
          have hxt := mem_take hjk' hx
          have : x ≠ y := fun e => hyt (e ▸ hxt)
          simp only [setG, if_neg this]
          exact ih1 j x hjk' hx
      · have h1 : x ∉ l.take k := fun e => hx (by simp [e])
        have h2 : x ≠ y := fun e => hx (by simp [e])
        simp only [setG, if_neg h2]
        exact ih2 x h1
  obtain ⟨h1, h2⟩ := key l.length (Nat.le_refl _)
  rw [List.take_length] at h1 h2
  exact ⟨fun x hx => by
    obtain ⟨j, hj⟩ := List.getElem?_of_mem hx
    exact h1 j x (List.getElem?_eq_some_iff.1 hj).1 hj, h2⟩
theorem ways_fix {os : List Ob} {l : List Int} (hn : l.Nodup) (hA : Ahead (psO os) l) (f0 : Int → Int) :
    (∀ x ∈ l, waysL (pairsO os l) f0 x = sumW (waysL (pairsO os l) f0) (psO os x) (f0 x)) ∧ ∀ x, x ∉ l → waysL (pairsO os l) f0 x = f0 x :=
  fix_of hn hA (fun l => waysL (pairsO os l) f0) (fun f x v => sumW f (psO os x) v) f0 rfl
    (fun m x => by unfold pairsO; rw [List.map_append]; exact waysL_snoc _ _ _) (fun f g x v h => sumW_congr _ _ h)
/-- what each commit says by its parents stands for one thing -/
theorem fix_one {P : Int → List Int} {l : List Int} (hA : Ahead P l) (V : (Int → Int) → Int → Int) (hV : ∀ f g x, (∀ p ∈ P x, f p = g p) → V f x = V g x) {F G : Int → Int} (hF : ∀ x ∈ l, F x = V F x) (hG : ∀ x ∈ l, G x = V G x) : ∀ x ∈ l, F x = G x := by
  have key : ∀ (n i : Nat) (x : Int), i < n → l[i]? = some x → F x = G x := by
    intro n
    induction n with
    | zero => intro i x h; omega
    | succ n ih =>
      intro i x hi hx
      rw [hF x (List.mem_of_getElem? hx), hG x (List.mem_of_getElem? hx)]
      refine hV F G x fun p hp => ?_
      obtain ⟨j, hj, hpj⟩ := hA i x hx p hp
      exact ih j p (by omega) hpj
  intro x hx
  obtain ⟨i, hi⟩ := List.getElem?_of_mem hx
  exact key (i + 1) i x (by omega) hi
theorem sumW_zero {f : Int → Int} : ∀ (l : List Int) (s : Int), (∀ p ∈ l, f p = 0) → s ≤ 4611686018427387904 → sumW f l s = s
  | [], s, _, _ => rfl
  | p :: r, s, h, hs => by
    simp only [sumW]
    rw [h p (by simp), if_pos (by omega), Int.add_zero]
    exact sumW_zero r s (fun q hq => h q (by simp [hq])) hs
theorem InW.ways : ∀ (l : List (Int × List Int)) (f : Int → Int), InW f → InW (waysL l f)
  | [], _, h => h
  | m :: r, _, h => InW.ways r _ (h.set m.1 _ (sumW_in h m.2 _ (h m.1)))
theorem sumW_pos {f : Int → Int} (hf : InW f) : ∀ (l : List Int) (s : Int), 0 ≤ s ∧ s ≤ 4611686018427387904 → (0 < sumW f l s ↔ 0 < s ∨ ∃ p ∈ l, 0 < f p)
  | [], s, _ => by simp [sumW]
  | p :: r, s, h => by
    have hp := hf p
    simp only [sumW]
    rw [sumW_pos hf r _ (by split <;> omega)]
    constructor
    · rintro (h1 | ⟨q, hq, h1⟩)
      · by_cases h2 : 0 < s
        · exact .inl h2
        · refine .inr ⟨p, by simp, ?_⟩
          split at h1 <;> omega
      · exact .inr ⟨q, by simp [hq], h1⟩
    · rintro (h1 | ⟨q, hq, h1⟩)
      · left; split <;> omega
      · rcases List.mem_cons.1 hq with e | e
        · subst e; left; split <;> omega
        · exact .inr ⟨q, e, h1⟩
/-- an ancestor, along parents -/
inductive Anc (P : Int → Option (List Int)) (a : Int) : Int → Prop where
  | refl : Anc P a a
  | step {x p : Int} {ps : List Int} : P x = some ps → p ∈ ps → Anc P a p → Anc P a x
theorem Anc.trans {P : Int → Option (List Int)} {a b c : Int} (h : Anc P a b) (k : Anc P b c) : Anc P a c := by
  induction k with
  | refl => exact h
  | step h1 h2 _ ih => exact .step h1 h2 ih
theorem Anc.at_ {P : Int → Option (List Int)} {l : List Int} (hT : Topo P l) {a x : Int} (h : Anc P a x) : ∀ (i : Nat), l[i]? = some x → ∃ j : Nat, j ≤ i ∧ l[j]? = some a := by
  induction h with
  | refl => intro i hi; exact ⟨i, Nat.le_refl _, hi⟩
  | step h1 h2 _ ih =>
    intro i hi
    obtain ⟨qs, h3, h4⟩ := hT i _ hi
    rw [h1] at h3
    cases h3
    obtain ⟨j, hj, hp⟩ := h4 _ h2
    obtain ⟨m, hm, ha⟩ := ih j hp
    exact ⟨m, by omega, ha⟩
theorem Anc.mem {P : Int → Option (List Int)} {l : List Int} (hT : Topo P l) {a x : Int} (h : Anc P a x) (hx : x ∈ l) : a ∈ l := by
  obtain ⟨i, hi⟩ := List.getElem?_of_mem hx
  obtain ⟨j, _, hj⟩ := h.at_ hT i hi
  exact List.mem_of_getElem? hj
theorem Anc.anti {P : Int → Option (List Int)} {l : List Int} (hT : Topo P l) (hn : l.Nodup) {a b : Int} (h : Anc P a b) (k : Anc P b a) (hb : b ∈ l) : a = b := by
  obtain ⟨i, hi⟩ := List.getElem?_of_mem hb
  obtain ⟨j, hj, ha⟩ := h.at_ hT i hi
  obtain ⟨m, hm, hb'⟩ := k.at_ hT j ha
  have := nodup_at hn hi hb'
  have e : j = i := by omega
  subst e
  rw [hi] at ha
  exact (Option.some.inj ha).symm
/-- ways to a, along an order in which it stands or not -/
theorem ways_doc {os : List Ob} {l : List Int} (hT : Topo (parsO os) l) (hn : l.Nodup) (a : Int) :
    (∀ x ∈ l, waysL (pairsO os l) (setG (fun _ => 0) a 1) x = if x = a then 1 else sumW (waysL (pairsO os l) (setG (fun _ => 0) a 1)) (psO os x) 0) := by
  obtain ⟨h1, _⟩ := ways_fix hn hT.ahead (setG (fun _ => 0) a 1)
  generalize waysL (pairsO os l) (setG (fun _ => 0) a 1) = W at *
  intro x hx
  by_cases e : x = a
  · subst e
    rw [if_pos rfl, h1 x hx]
    obtain ⟨k, hk⟩ := List.getElem?_of_mem hx
    have hz : ∀ (n j : Nat) (y : Int), j < n → j < k → l[j]? = some y → W y = 0 := by
      intro n
      induction n with
      | zero => intro j y h; omega
      | succ n ih =>
        intro j y hj hjk hy
        have hne : y ≠ x := fun e => by
          subst e
          have := nodup_at hn hy hk
          omega
        rw [h1 y (List.mem_of_getElem? hy)]
        have e0 : setG (fun _ => 0) x 1 y = 0 := by simp [setG, hne]
        rw [e0]
        refine sumW_zero _ _ (fun p hp => ?_) (by omega)
        obtain ⟨i, hi, hpi⟩ := hT.ahead j y hy p hp
        exact ih i p (by omega) (by omega) hpi
    have e1 : setG (fun _ => 0) x 1 x = 1 := by simp [setG]
    rw [e1]
    refine sumW_zero _ _ (fun p hp => ?_) (by omega)
    obtain ⟨i, hi, hpi⟩ := hT.ahead k x hk p hp
    exact hz (i + 1) i p (by omega) hi hpi
  · rw [if_neg e, h1 x hx]
    have e0 : setG (fun _ => 0) a 1 x = 0 := by simp [setG, e]
    rw [e0]
theorem ways_anc {os : List Ob} {l : List Int} (hT : Topo (parsO os) l) (hn : l.Nodup) (a : Int) : ∀ x ∈ l, (0 < waysL (pairsO os l) (setG (fun _ => 0) a 1) x ↔ Anc (parsO os) a x) := by
  have h1 := ways_doc hT hn a
  have hW : InW (waysL (pairsO os l) (setG (fun _ => 0) a 1)) := InW.ways _ _ (fun x => by unfold setG; split <;> simp)
  generalize waysL (pairsO os l) (setG (fun _ => 0) a 1) = W at *
  have f : ∀ (n i : Nat) (x : Int), i < n → l[i]? = some x → 0 < W x → Anc (parsO os) a x := by
    intro n
    induction n with
    | zero => intro i x h; omega
    | succ n ih =>
      intro i x hi hx h0
      rw [h1 x (List.mem_of_getElem? hx)] at h0
      by_cases e : x = a
      · subst e; exact .refl
      · rw [if_neg e] at h0
        rcases (sumW_pos hW _ 0 (by omega)).1 h0 with h | ⟨p, hp, h⟩
        · omega
        · obtain ⟨ps, h3, h4⟩ := hT i x hx
          unfold psO at hp
          rw [h3] at hp
          obtain ⟨j, hj, hpj⟩ := h4 p hp
          exact .step h3 hp (ih j p (by omega) hpj h)
  have b : ∀ x, Anc (parsO os) a x → x ∈ l → 0 < W x := by
    intro x h
    induction h with
    | refl => intro hx; rw [h1 a hx, if_pos rfl]; omega
    | @step x p ps h2 h3 _ ih =>
      intro hx
      rw [h1 x hx]
      by_cases e : x = a
      · rw [if_pos e]; omega
      · rw [if_neg e]
        refine (sumW_pos hW _ 0 (by omega)).2 (.inr ⟨p, by unfold psO; rw [h2]; exact h3, ih ?_⟩)
        obtain ⟨i, hi⟩ := List.getElem?_of_mem hx
        obtain ⟨qs, h4, h5⟩ := hT i x hi
        rw [h2] at h4
        cases h4
        obtain ⟨j, _, hj⟩ := h5 p h3
        exact List.mem_of_getElem? hj
  intro x hx
  obtain ⟨i, hi⟩ := List.getElem?_of_mem hx
  exact ⟨f (i + 1) i x (by omega) hi, fun h => b x h hx⟩
/-- what is gone through is an ancestor -/
theorem goL_anc {P : Int → Option (List Int)} {v : Int → GS → GR} (hv : ∀ x s s', v x s = .ok s' → ∀ y ∈ s'.ord, y ∈ s.ord ∨ Anc P y x) : ∀ (l : List Int) (s s' : GS), goL v l s = .ok s' → ∀ y ∈ s'.ord, y ∈ s.ord ∨ ∃ x ∈ l, Anc P y x
  | [], s, s', h, y, hy => by simp only [goL, GR.ok.injEq] at h; subst h; exact .inl hy
  | x :: r, s, s', h, y, hy => by
    simp only [goL] at h
    cases h1 : v x s with
    | bad e => rw [h1] at h; cases h
    | ok s1 =>
      rw [h1] at h
      rcases goL_anc hv r s1 s' h y hy with h2 | ⟨z, hz, h2⟩
      · rcases hv x s s1 h1 y h2 with h3 | h3
        · exact .inl h3
        · exact .inr ⟨x, by simp, h3⟩
      · exact .inr ⟨z, by simp [hz], h2⟩
theorem visit_anc {P : Int → Option (List Int)} {ge : Int → Int} : ∀ (f : Nat) (x : Int) (s s' : GS), visit P ge f x s = .ok s' → ∀ y ∈ s'.ord, y ∈ s.ord ∨ Anc P y x
  | 0, x, s, s', h => by simp [visit] at h
  | f + 1, x, s, s', h => by
    simp only [visit] at h
    split at h
    · cases h
    · split at h
      · simp only [GR.ok.injEq] at h; subst h; exact fun y hy => .inl hy
      · cases hP : P x with
        | none => rw [hP] at h; cases h
        | some ps =>
          rw [hP] at h
          simp only at h
          cases h1 : goL (visit P ge f) ps (s.opn x) with
          | bad e => rw [h1] at h; cases h
          | ok s1 =>
            rw [h1] at h
            simp only [GR.ok_then, GR.ok.injEq] at h
            subst h
            intro y hy
            simp only [GS.plc, List.mem_append, List.mem_singleton] at hy
            rcases hy with hy | hy
            · rcases goL_anc (visit_anc f) ps _ s1 h1 y hy with h2 | ⟨z, hz, h2⟩
              · exact .inl h2
              · exact .inr (.step hP hz h2)
            · subst hy; exact .inr .refl
theorem ord_anc {os : List Ob} {l : List Int} {gs : GS} (h : ordG os l GS.none = .ok gs) : ∀ y ∈ gs.ord, ∃ x ∈ l, Anc (parsO os) y x := by
  intro y hy
  rcases goL_anc (visit_anc (os.length + 2)) l _ gs h y hy with h1 | h1
  · simp [GS.none] at h1
  · exact h1
theorem ord_inv {os : List Ob} {l : List Int} {gs : GS} (h : ordG os l GS.none = .ok gs) : GInv (parsO os) gs := (btw_sim os l [] gs h).1
/-- heads stand in their order -/
theorem ord_heads {os : List Ob} {l : List Int} {gs : GS} (h : ordG os l GS.none = .ok gs) : ∀ x ∈ l, x ∈ gs.ord := by
  have h0 : goL (visit (parsO os) (errO os) (os.length + 2)) l GS.none = .ok gs := h
  exact (goL_gone (fun x s s' => visit_gone (os.length + 2) x s s') l _ _ (ginv_none (parsO os)) h0).2.1
theorem goL_placed {os : List Ob} : ∀ (l : List Int) (gs : GS), GInv (parsO os) gs → (∀ x ∈ l, x ∈ gs.ord) → ordG os l gs = .ok gs
  | [], gs, _, _ => rfl
  | x :: r, gs, hI, h => by
    have h2 := (hI.two x).2 (h x (by simp))
    have e : visit (parsO os) (errO os) (os.length + 2) x gs = .ok gs := by
      show (if gs.been x = 1 then _ else if gs.been x = 2 then _ else _) = _
      rw [h2]; rfl
    have ih := goL_placed r gs hI (fun y hy => h y (by simp [hy]))
    unfold ordG at ih ⊢
    simp only [goL, e, GR.ok_then]
    exact ih
/-- what stands in an order has an order of its own, within it -/
theorem ord_within {os : List Ob} {l m : List Int} {gs : GS} (h : ordG os l GS.none = .ok gs) (hm : ∀ x ∈ m, x ∈ gs.ord) : ∃ g2, ordG os m GS.none = .ok g2 ∧ ∀ y ∈ g2.ord, y ∈ gs.ord := by
  obtain ⟨hI, ha⟩ := btw_sim os l m gs h
  rw [goL_placed m gs hI hm] at ha
  cases h3 : ordG os m GS.none with
  | bad f => rw [h3] at ha; exact ha.elim
  | ok t =>
    refine ⟨t, rfl, fun y hy => ?_⟩
    obtain ⟨x, hx, h4⟩ := ord_anc h3 y hy
    exact h4.mem hI.topo (hm x hx)
end Go.Proofs.YtncagdfbgpdhfaaGreat

/- Bits laid on ancestors from an order's end, plain: what each commit has at the end (for the layer parents). -/
namespace Go.Proofs.YtncagdfbgpdhfaaGreat

def setN (f : Int → Nat) (x : Int) (v : Nat) : Int → Nat := fun y => if y = x then v else f y
/-- what a commit lays on its parents: with the mark 4, if it is sought -/
def bitsB (sought b : Nat) : Nat := if b &&& sought = sought then b ||| 4 else b
def orP : List Int → Nat → (Int → Nat) → Int → Nat
  | [], _, m => m
  | p :: r, b, m => orP r b (setN m p (m p ||| b))
def spr (P : Int → List Int) (sought : Nat) : List Int → (Int → Nat) → Int → Nat
  | [], m => m
  | x :: r, m => spr P sought r (orP (P x) (bitsB sought (m x)) m)
theorem orP_bit : ∀ (ps : List Int) (b : Nat) (m : Int → Nat) (x : Int) (k : Nat), (orP ps b m x).testBit k = ((m x).testBit k || (decide (x ∈ ps) && b.testBit k))
  | [], b, m, x, k => by simp [orP]
  | p :: r, b, m, x, k => by
    simp only [orP]
    rw [orP_bit r b _ x k]
    by_cases e : x = p
    · subst e
      simp only [setN, if_pos, Nat.testBit_or, List.mem_cons, true_or, decide_true, Bool.true_and]
      cases (m x).testBit k <;> cases b.testBit k <;> simp
    · have e2 : setN m p (m p ||| b) x = m x := by simp [setN, e]
      rw [e2]
      simp only [List.mem_cons, e, false_or]
theorem bitsB_keep {s b k : Nat} (h : b.testBit k = true) : (bitsB s b).testBit k = true := by
  unfold bitsB
  split
  · rw [Nat.testBit_or, h, Bool.true_or]
  · exact h
theorem bitsB_low {s b k : Nat} (hk : k < 2) : (bitsB s b).testBit k = b.testBit k := by
  unfold bitsB
  split
  · rw [Nat.testBit_or]
    have : (4 : Nat).testBit k = false := by
      match k, hk with
      | 0, _ => decide
      | 1, _ => decide
    rw [this, Bool.or_false]
  · rfl
theorem bitsB_two {s b : Nat} : (bitsB s b).testBit 2 = (b.testBit 2 || decide (b &&& s = s)) := by
  unfold bitsB
  split
  · rename_i h
    rw [Nat.testBit_or, decide_eq_true h, show (4 : Nat).testBit 2 = true by decide, Bool.or_true]
  · rename_i h
    rw [decide_eq_false h, Bool.or_false]
/-- none of a list is a parent of itself or of one behind it -/
def Late (P : Int → List Int) : List Int → Prop
  | [] => True
  | y :: r => y ∉ P y ∧ (∀ z ∈ r, y ∉ P z) ∧ Late P r
theorem spr_bit {P : Int → List Int} {s : Nat} : ∀ (l : List Int) (m : Int → Nat), Late P l → ∀ (x : Int) (k : Nat), ((spr P s l m x).testBit k = true ↔ (m x).testBit k = true ∨ ∃ y ∈ l, x ∈ P y ∧ (bitsB s (spr P s l m y)).testBit k = true)
  | [], m, _, x, k => by simp [spr]
  | y :: r, m, h, x, k => by
    obtain ⟨h1, h2, h3⟩ := h
    have ih := spr_bit (s := s) r (orP (P y) (bitsB s (m y)) m) h3
    have hy : spr P s (y :: r) m y = m y := by
      apply Nat.eq_of_testBit_eq
      intro i
      have h4 := ih y i
      rw [orP_bit] at h4
      have e1 : decide (y ∈ P y) = false := decide_eq_false h1
      rw [e1, Bool.false_and, Bool.or_false] at h4
      have h5 : (spr P s (y :: r) m y).testBit i = true ↔ (m y).testBit i = true := by
        refine h4.trans ⟨fun h => ?_, .inl⟩
        rcases h with h | ⟨z, hz, hp, _⟩
        · exact h
        · exact absurd hp (h2 z hz)
      cases ha : (spr P s (y :: r) m y).testBit i <;> cases hb : (m y).testBit i <;> simp_all
    have h6 := ih x k
    rw [orP_bit] at h6
    show (spr P s r (orP (P y) (bitsB s (m y)) m) x).testBit k = true ↔ _
    rw [h6]
    have hM : ∀ z, spr P s (y :: r) m z = spr P s r (orP (P y) (bitsB s (m y)) m) z := fun _ => rfl
    constructor
    · rintro (h | ⟨z, hz, hp, hb⟩)
      · rw [Bool.or_eq_true, Bool.and_eq_true] at h
        rcases h with h | ⟨h, h'⟩
        · exact .inl h
        · exact .inr ⟨y, by simp, of_decide_eq_true h, by rw [hy]; exact h'⟩
      · exact .inr ⟨z, by simp [hz], hp, hb⟩
    · rintro (h | ⟨z, hz, hp, hb⟩)
      · left; rw [h, Bool.true_or]
      · rcases List.mem_cons.1 hz with e | e
        · subst e
          left
          rw [hy] at hb
          rw [decide_eq_true hp, hb, Bool.and_self, Bool.or_true]
        · exact .inr ⟨z, e, hp, hb⟩
theorem late_rev {P : Int → List Int} : ∀ (l : List Int), l.Nodup → Ahead P l → Late P l.reverse := by
  intro l
  have key : ∀ k, k ≤ l.length → l.Nodup → Ahead P l → Late P (l.take k).reverse := by
    intro k
    induction k with
    | zero => intro _ _ _; simp [Late]
    | succ k ih =>
      intro hk hn hA
      have hk' : k < l.length := by omega
      obtain ⟨y, hy⟩ : ∃ y, l[k]? = some y := ⟨_, List.getElem?_eq_getElem hk'⟩
      have hye : l[k] = y := (List.getElem?_eq_some_iff.1 hy).2
      have hyt := nodup_take hn hy
      rw [List.take_succ_eq_append_getElem hk', hye, List.reverse_append, List.reverse_singleton, List.singleton_append]
      refine ⟨fun h => ?_, fun z hz h => ?_, ih (by omega) hn hA⟩
      · obtain ⟨j, hj, hyj⟩ := hA k y hy y h
        exact hyt (mem_take hj hyj)
      · rw [List.mem_reverse] at hz
        obtain ⟨i, hi⟩ := List.getElem?_of_mem hz
        have hik : i < k := by
          have := (List.getElem?_eq_some_iff.1 hi).1
          rw [List.length_take] at this; omega
        rw [List.getElem?_take_of_lt hik] at hi
        obtain ⟨j, hj, hyj⟩ := hA i z hi y h
        exact hyt (mem_take (show j < k by omega) hyj)
  intro hn hA
  have := key l.length (Nat.le_refl _) hn hA
  rw [List.take_length] at this
  exact this
/-- the bits of a commit at the end: those of the heads that it is an ancestor of -/
theorem marks_low {os : List Ob} {l : List Int} (hT : Topo (parsO os) l) (hn : l.Nodup) (s : Nat) (m : Int → Nat) (hm : ∀ h k, (m h).testBit k = true → h ∈ l) (k : Nat) (hk : k < 2) :
    ∀ x, (spr (psO os) s l.reverse m x).testBit k = true ↔ ∃ h, (m h).testBit k = true ∧ Anc (parsO os) x h := by
  have hE := spr_bit (s := s) l.reverse m (late_rev l hn hT.ahead)
  generalize spr (psO os) s l.reverse m = M at *
  have hpar : ∀ y ∈ l, ∀ x ∈ psO os y, ∃ ps, parsO os y = some ps ∧ x ∈ ps := fun y hy x hx => by
    obtain ⟨i, hi⟩ := List.getElem?_of_mem hy
    obtain ⟨ps, hp, _⟩ := hT i y hi
    unfold psO at hx
    rw [hp] at hx
    exact ⟨ps, hp, hx⟩
  have f : ∀ (n i : Nat) (x : Int), l.length ≤ i + n → l[i]? = some x → (M x).testBit k = true → ∃ h, (m h).testBit k = true ∧ Anc (parsO os) x h := by
    intro n
    induction n with
    | zero => intro i x hi hx _; have := (List.getElem?_eq_some_iff.1 hx).1; omega
    | succ n ih =>
      intro i x hi hx hM
      rcases (hE x k).1 hM with h | ⟨y, hy, hp, hb⟩
      · exact ⟨x, h, .refl⟩
      · rw [List.mem_reverse] at hy
        rw [bitsB_low hk] at hb
        obtain ⟨j, hj⟩ := List.getElem?_of_mem hy
        obtain ⟨i2, hi2, hx2⟩ := hT.ahead j y hj x hp
        have := nodup_at hn hx hx2
        obtain ⟨h, h1, h2⟩ := ih j y (by omega) hj hb
        obtain ⟨ps, hq, hxp⟩ := hpar y hy x hp
        exact ⟨h, h1, (Anc.step hq hxp .refl).trans h2⟩
  have b : ∀ (x h : Int), Anc (parsO os) x h → h ∈ l → (M h).testBit k = true → (M x).testBit k = true := by
    intro x h hA
    induction hA with
    | refl => intro _ hM; exact hM
    | @step y p ps h1 h2 _ ih =>
      intro hy hM
      obtain ⟨i, hi⟩ := List.getElem?_of_mem hy
      obtain ⟨qs, h4, h5⟩ := hT i y hi
      rw [h1] at h4
      cases h4
      obtain ⟨j, _, hj⟩ := h5 p h2
      exact ih (List.mem_of_getElem? hj) ((hE p k).2 (.inr ⟨y, by simpa using hy, by unfold psO; rw [h1]; exact h2, bitsB_keep hM⟩))
  intro x
  constructor
  · intro hM
    by_cases hx : x ∈ l
    · obtain ⟨i, hi⟩ := List.getElem?_of_mem hx
      exact f l.length i x (by omega) hi hM
    · rcases (hE x k).1 hM with h | ⟨y, hy, hp, _⟩
      · exact absurd (hm x k h) hx
      · rw [List.mem_reverse] at hy
        obtain ⟨j, hj⟩ := List.getElem?_of_mem hy
        obtain ⟨i2, _, hx2⟩ := hT.ahead j y hj x hp
        exact absurd (List.mem_of_getElem? hx2) hx
  · rintro ⟨h, h1, h2⟩
    exact b x h h2 (hm h k h1) ((hE h k).2 (.inl h1))
/-- the mark 4 at the end: a proper ancestor of one that has all of the bits sought -/
theorem marks_below {os : List Ob} {l : List Int} (hT : Topo (parsO os) l) (hn : l.Nodup) (s : Nat) (m : Int → Nat) (h4 : ∀ h, (m h).testBit 2 = false) :
    ∀ x, (spr (psO os) s l.reverse m x).testBit 2 = true ↔ ∃ y ∈ l, spr (psO os) s l.reverse m y &&& s = s ∧ ∃ ps, parsO os y = some ps ∧ ∃ p ∈ ps, Anc (parsO os) x p := by
  have hE := spr_bit (s := s) l.reverse m (late_rev l hn hT.ahead)
  generalize spr (psO os) s l.reverse m = M at *
  have hpar : ∀ y ∈ l, ∀ x ∈ psO os y, ∃ ps, parsO os y = some ps ∧ x ∈ ps := fun y hy x hx => by
    obtain ⟨i, hi⟩ := List.getElem?_of_mem hy
    obtain ⟨ps, hp, _⟩ := hT i y hi
    unfold psO at hx
    rw [hp] at hx
    exact ⟨ps, hp, hx⟩
  have one : ∀ x, (M x).testBit 2 = true → ∃ y ∈ l, x ∈ psO os y ∧ ((M y).testBit 2 = true ∨ M y &&& s = s) := fun x hM => by
    rcases (hE x 2).1 hM with h | ⟨y, hy, hp, hb⟩
    · rw [h4] at h; cases h
    · rw [List.mem_reverse] at hy
      rw [bitsB_two, Bool.or_eq_true, decide_eq_true_eq] at hb
      exact ⟨y, hy, hp, hb⟩
  have f : ∀ (n i : Nat) (x : Int), l.length ≤ i + n → l[i]? = some x → (M x).testBit 2 = true → ∃ y ∈ l, M y &&& s = s ∧ ∃ ps, parsO os y = some ps ∧ ∃ p ∈ ps, Anc (parsO os) x p := by
    intro n
    induction n with
    | zero => intro i x hi hx _; have := (List.getElem?_eq_some_iff.1 hx).1; omega
    | succ n ih =>
      intro i x hi hx hM
      obtain ⟨y, hy, hp, hb⟩ := one x hM
      obtain ⟨ps, hq, hxp⟩ := hpar y hy x hp
      rcases hb with hb | hb
      · obtain ⟨j, hj⟩ := List.getElem?_of_mem hy
        obtain ⟨i2, hi2, hx2⟩ := hT.ahead j y hj x hp
        have := nodup_at hn hx hx2
        obtain ⟨z, hz, h1, qs, h2, q, h3, h5⟩ := ih j y (by omega) hj hb
        exact ⟨z, hz, h1, qs, h2, q, h3, (Anc.step hq hxp .refl).trans h5⟩
      · exact ⟨y, hy, hb, ps, hq, x, hxp, .refl⟩
  have b : ∀ (x h : Int), Anc (parsO os) x h → h ∈ l → (M h).testBit 2 = true → (M x).testBit 2 = true := by
    intro x h hA
    induction hA with
    | refl => intro _ hM; exact hM
    | @step y p ps h1 h2 _ ih =>
      intro hy hM
      obtain ⟨i, hi⟩ := List.getElem?_of_mem hy
      obtain ⟨qs, h6, h5⟩ := hT i y hi
      rw [h1] at h6
      cases h6
      obtain ⟨j, _, hj⟩ := h5 p h2
      exact ih (List.mem_of_getElem? hj) ((hE p 2).2 (.inr ⟨y, by simpa using hy, by unfold psO; rw [h1]; exact h2, bitsB_keep hM⟩))
  intro x
  constructor
  · intro hM
    obtain ⟨y, hy, hp, _⟩ := one x hM
    obtain ⟨j, hj⟩ := List.getElem?_of_mem hy
    obtain ⟨i, _, hx⟩ := hT.ahead j y hj x hp
    exact f l.length i x (by omega) hx hM
  · rintro ⟨y, hy, h1, ps, h2, p, h3, h5⟩
    obtain ⟨i, hi⟩ := List.getElem?_of_mem hy
    obtain ⟨qs, h6, h7⟩ := hT i y hi
    rw [h2] at h6
    cases h6
    obtain ⟨j, _, hj⟩ := h7 p h3
    refine b x p h5 (List.mem_of_getElem? hj) ((hE p 2).2 (.inr ⟨y, by simpa using hy, by unfold psO; rw [h2]; exact h3, ?_⟩))
    rw [bitsB_two, decide_eq_true h1, Bool.or_true]
end Go.Proofs.YtncagdfbgpdhfaaGreat
