import Derived.Test.YtiafhbpklddlnaaA45
import Derived.Test.YtiafhbpklddlnaaA17
/- Plain: all refs, their names rising; what may be said of where names lead behind changes that may be made; setting what is there says nothing new. -/
namespace Go.Proofs.Ytiafhbpklddlnaa
open Go.RowKit Go.Shelf Go.Maps

/-- so many names lead somewhere -/
def CntR (g : List UInt8 → Int) (n : Nat) : Prop := ∃ ks : List (List UInt8), ks.Nodup ∧ (∀ x, x ∈ ks ↔ g x ≠ 0) ∧ ks.length = n
theorem CntR.pos {g : List UInt8 → Int} {n : Nat} (h : CntR g n) {k : List UInt8} (hk : g k ≠ 0) : 1 ≤ n := by
  obtain ⟨ks, _, hm, rfl⟩ := h
  exact List.length_pos_of_mem ((hm k).2 hk)
theorem CntR.step {q : (List UInt8 → Int) × Nat} (h : CntR q.1 q.2) (x : Ch) : CntR (stepR q x).1 (stepR q x).2 := by
  obtain ⟨g, n⟩ := q
  obtain ⟨ks, hn, hm, hl⟩ := h
  simp only at hm hl
  by_cases h0 : x.2 = 0
  · by_cases hg : g (bs x.1) = 0
    · refine ⟨ks, hn, fun y => ?_, by simp [stepR, h0, hg, hl]⟩
      simp only [stepR, setR, h0]
      by_cases e : y = bs x.1
      · subst e; simp [hm, hg]
      · simp [e, hm]
    · have hin := (hm _).2 hg
      refine ⟨ks.erase (bs x.1), hn.erase _, fun y => ?_, by simp [stepR, h0, hg, List.length_erase_of_mem hin, hl]⟩
      rw [hn.mem_erase_iff]
      simp only [stepR, setR, h0]
      by_cases e : y = bs x.1
      · subst e; simp
      · simp [e, hm]
  · by_cases hg : g (bs x.1) = 0
    · have hnin : bs x.1 ∉ ks := fun hi => (hm _).1 hi hg
      refine ⟨bs x.1 :: ks, List.nodup_cons.2 ⟨hnin, hn⟩, fun y => ?_, by simp [stepR, h0, hg, hl]⟩
      simp only [stepR, setR]
      by_cases e : y = bs x.1
      · subst e; simp [h0]
      · simp [e, hm]
    · refine ⟨ks, hn, fun y => ?_, by simp [stepR, h0, hg, hl]⟩
      simp only [stepR, setR]
      by_cases e : y = bs x.1
      · subst e; simp [h0, hm, hg]
      · simp [e, hm]

/-- names that lead somewhere are paths other than the root, and not too many -/
def NamesR (g : List UInt8 → Int) (n : Nat) : Prop := (∀ k, g k ≠ 0 → (pathSpot k).1 = 0 ∧ k ≠ []) ∧ n ≤ 64
theorem chgErr_zero {g : List UInt8 → Int} {A : List UInt8 → Bool} {s : ByteArray} {i : Int} (h : chgErr g A s i = 0) : (pathSpot (bs s)).1 = 0 ∧ bs s ≠ [] ∧ A (bs s) = false ∧ (i = 0 → g (bs s) ≠ 0) := by
  unfold chgErr at h
  by_cases h1 : (pathSpot (bs s)).1 = 0
  · rw [if_neg (by simpa using h1)] at h
    by_cases h2 : bs s = []
    · rw [if_pos h2] at h; omega
    · rw [if_neg h2] at h
      by_cases h3 : A (bs s) = true
      · rw [if_pos h3] at h; omega
      · rw [if_neg h3] at h
        refine ⟨h1, h2, by simpa using h3, fun e hg => ?_⟩
        rw [if_pos ⟨e, hg⟩] at h; omega
  · rw [if_pos h1] at h; omega
theorem names_from (g : List UInt8 → Int) : ∀ (l : List Ch) (A : List UInt8 → Bool) (c : Int) (q : (List UInt8 → Int) × Nat), chkFrom g A c l = 0 → CntR q.1 q.2 → (∀ k, A k = false → q.1 k = g k) → (q.2 : Int) = c → (∀ k, q.1 k ≠ 0 → (pathSpot k).1 = 0 ∧ k ≠ []) → NamesR (applyR q l).1 (applyR q l).2
  | [], A, c, q, h, hc, hA, hq, hk => by
    refine ⟨hk, ?_⟩
    unfold chkFrom at h
    by_cases e : 64 < c
    · rw [if_pos e] at h; omega
    · show q.2 ≤ 64; omega
  | x :: r, A, c, q, h, hc, hA, hq, hk => by
    unfold chkFrom at h
    by_cases e : chgErr g A x.1 x.2 = 0
    · rw [if_neg (by simpa using e)] at h
      obtain ⟨h1, h2, h3, h4⟩ := chgErr_zero e
      have hg := hA _ h3
      have := names_from g r (addA A (bs x.1)) (c + growR g x.1 x.2) (stepR q x) h (hc.step x) (fun k hk' => by
        simp only [addA, Bool.or_eq_false_iff, beq_eq_false_iff_ne] at hk'
        simp only [stepR, setR, if_neg hk'.1]
        exact hA k hk'.2) (by
        simp only [stepR, growR, hg]
        by_cases h0 : x.2 = 0
        · have := hc.pos (k := bs x.1) (by rw [hg]; exact h4 h0)
          rw [if_pos h0, if_pos h0, if_neg (h4 h0)]
          omega
        · rw [if_neg h0, if_neg h0]
          by_cases hz : g (bs x.1) = 0
          · rw [if_pos hz, if_pos hz]; omega
          · rw [if_neg hz, if_neg hz]; omega) (fun k hk' => by
        simp only [stepR, setR] at hk'
        by_cases ek : k = bs x.1
        · subst ek; exact ⟨h1, h2⟩
        · rw [if_neg ek] at hk'; exact hk k hk')
      simpa [applyR] using this
    · rw [if_pos e] at h; exact absurd h e
theorem NamesR.set {g : List UInt8 → Int} {n : Nat} (h : NamesR g n) (hc : CntR g n) {l : List Ch} (he : chkR g n l = 0) : NamesR (applyR (g, n) l).1 (applyR (g, n) l).2 :=
  names_from g l _ _ (g, n) he hc (fun _ _ => rfl) rfl h.1

/-- all refs, their names rising -/
def AllR (g : List UInt8 → Int) (n : Nat) (L : List Ch) : Prop := ∃ ks : List (List UInt8), ks.Nodup ∧ (∀ x, x ∈ ks ↔ g x ≠ 0) ∧ ks.length = n ∧ L = (ks.mergeSort leB).map (fun k => ((⟨k.toArray⟩ : ByteArray), g k))
theorem AllR.one {g : List UInt8 → Int} {n m : Nat} {L L' : List Ch} (h : AllR g n L) (h' : AllR g m L') : L = L' := by
  obtain ⟨ks, n1, m1, _, rfl⟩ := h
  obtain ⟨js, n2, m2, _, rfl⟩ := h'
  rw [mergeSort_of_perm ((List.perm_ext_iff_of_nodup n1 n2).2 fun x => by rw [m1, m2])]
theorem AllR.len {g : List UInt8 → Int} {n : Nat} {L : List Ch} (h : AllR g n L) : L.length = n := by
  obtain ⟨ks, _, _, rfl, rfl⟩ := h
  rw [List.length_map, List.length_mergeSort]
theorem CntR.all {g : List UInt8 → Int} {n : Nat} (h : CntR g n) : ∃ L, AllR g n L := by
  obtain ⟨ks, h1, h2, h3⟩ := h
  exact ⟨_, ks, h1, h2, h3, rfl⟩
theorem bs_arr (k : List UInt8) : bs (⟨k.toArray⟩ : ByteArray) = k := by simp [bs]
theorem AllR.mem {g : List UInt8 → Int} {n : Nat} {L : List Ch} (h : AllR g n L) {x : Ch} (hx : x ∈ L) : g (bs x.1) = x.2 ∧ x.2 ≠ 0 := by
  obtain ⟨ks, _, hm, _, rfl⟩ := h
  obtain ⟨k, hk, rfl⟩ := List.mem_map.1 hx
  have := (hm k).1 ((List.mergeSort_perm ks leB).mem_iff.1 hk)
  exact ⟨by rw [bs_arr], this⟩
theorem AllR.nodup {g : List UInt8 → Int} {n : Nat} {L : List Ch} (h : AllR g n L) : (L.map (fun x => bs x.1)).Nodup := by
  obtain ⟨ks, hn, hm, _, rfl⟩ := h
  rw [List.map_map]
  have : ((fun x : Ch => bs x.1) ∘ fun k => ((⟨k.toArray⟩ : ByteArray), g k)) = id := by funext k; simp [bs_arr]
  rw [this, List.map_id]
  exact (List.mergeSort_perm ks leB).nodup_iff.2 hn
theorem chk_there (g : List UInt8 → Int) : ∀ (l : List Ch) (A : List UInt8 → Bool) (c : Int), (∀ x ∈ l, g (bs x.1) = x.2 ∧ x.2 ≠ 0 ∧ (pathSpot (bs x.1)).1 = 0 ∧ bs x.1 ≠ [] ∧ A (bs x.1) = false) → (l.map (fun x => bs x.1)).Nodup → c ≤ 64 → chkFrom g A c l = 0
  | [], A, c, _, _, hc => by unfold chkFrom; rw [if_neg (by omega)]
  | x :: r, A, c, h, hn, hc => by
    obtain ⟨h1, h2, h3, h4, h5⟩ := h x (List.mem_cons_self ..)
    rw [List.map_cons, List.nodup_cons] at hn
    have e : chgErr g A x.1 x.2 = 0 := by
      unfold chgErr
      rw [if_neg (by simpa using h3), if_neg h4, if_neg (by simp [h5]), if_neg (fun e => h2 e.1)]
    have eg : growR g x.1 x.2 = 0 := by
      unfold growR
      rw [if_neg h2, if_neg (by rw [h1]; exact h2)]
    unfold chkFrom
    rw [if_neg (by simpa using e), eg, Int.add_zero]
    refine chk_there g r _ c (fun y hy => ?_) hn.2 hc
    obtain ⟨k1, k2, k3, k4, k5⟩ := h y (List.mem_cons_of_mem _ hy)
    refine ⟨k1, k2, k3, k4, ?_⟩
    simp only [addA, Bool.or_eq_false_iff, beq_eq_false_iff_ne]
    exact ⟨fun e => hn.1 (List.mem_map.2 ⟨y, hy, e⟩), k5⟩
/-- all that is there may be set, and says nothing new -/
theorem AllR.set {g : List UInt8 → Int} {n : Nat} {L : List Ch} (h : AllR g n L) (hN : NamesR g n) : chkR g n L = 0 ∧ newsR g L = [] := by
  refine ⟨chk_there g L _ _ (fun x hx => ?_) h.nodup (by have := hN.2; omega), ?_⟩
  · obtain ⟨h1, h2⟩ := h.mem hx
    have := hN.1 (bs x.1) (by rw [h1]; exact h2)
    exact ⟨h1, h2, this.1, this.2, rfl⟩
  · unfold newsR
    rw [List.filter_eq_nil_iff]
    intro x hx
    simp [(h.mem hx).1]
/-- the names of a map of names, each once -/
theorem strKeysR_nodup {w : World} {b n : Nat} {M : DataW Value} (h : w.ownsMap Try.prog 9 rvR b n M) : (strKeys M).Nodup ∧ ∀ x, x ∈ strKeys M ↔ has M (.string x) = true := by
  obtain ⟨es, hD, hpw, _⟩ := h.entries keyed
  obtain ⟨es', hD', hko⟩ := h.keysOf
  obtain rfl : es = es' := by rw [hD] at hD'; simpa using hD'
  subst hD
  have hk : ∀ q ∈ es, ∃ x, q.1 = .string x := fun q hq => by
    obtain ⟨v, hv⟩ := hko q hq
    obtain ⟨x, _, hx, _⟩ := Maps.keyOf_str Try.underlying9 hv
    exact ⟨x, hx⟩
  constructor
  · show (es.map fun q => strOf q.1).Nodup
    refine List.pairwise_map.2 (hpw.imp_of_mem fun {q r} hq hr hne e => hne ?_)
    obtain ⟨x, hx⟩ := hk q hq
    obtain ⟨y, hy⟩ := hk r hr
    rw [hx, hy] at e ⊢
    exact congrArg _ e
  · intro x
    rw [has_eq, List.any_eq_true]
    show x ∈ es.map (fun q => strOf q.1) ↔ _
    rw [List.mem_map]
    constructor
    · rintro ⟨q, hq, rfl⟩
      obtain ⟨y, hy⟩ := hk q hq
      exact ⟨q, hq, by rw [hy]; simp [Lit.sameKey, strOf]⟩
    · rintro ⟨q, hq, hs⟩
      obtain ⟨y, hy⟩ := hk q hq
      rw [hy] at hs
      exact ⟨q, hq, by rw [hy]; simpa [Lit.sameKey, strOf] using hs⟩
theorem strKeysR_length {w : World} {b n : Nat} {M : DataW Value} (h : w.ownsMap Try.prog 9 rvR b n M) : (strKeys M).length = size M := by
  obtain ⟨es, rfl⟩ := h.isMap
  simp [strKeys, size]
theorem RfAt.cnt {w : World} {r d j b : Nat} {M : DataW Value} {rs : List (List UInt8)} {g : List UInt8 → Int} {n sz : Nat} {cut : Bool} {FJ F : Nat → Prop} (h : RfAt w r d j b M rs g n sz cut FJ F) : CntR g n := by
  have ho := h.own
  obtain ⟨h1, h2⟩ := strKeysR_nodup ho
  refine ⟨strKeys M, h1, fun x => ?_, by rw [strKeysR_length ho, h.msz]⟩
  rw [h2, h.has]
  simp
end Go.Proofs.Ytiafhbpklddlnaa
