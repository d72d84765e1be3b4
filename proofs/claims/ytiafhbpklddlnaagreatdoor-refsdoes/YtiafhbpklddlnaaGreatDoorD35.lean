import Derived.Test.YtiafhbpklddlnaaGreatDoorD34
import Derived.Test.YtiafhbpklddlnaaGreatDoorD12
/- Refs on a disk that is not cut and has just their records. -/
namespace Go.Proofs.YtiafhbpklddlnaaGreatDoor
open Go.RowKit Go.Shelf Go.Maps

theorem chgErr_less {g : List UInt8 → Int} {A A' : List UInt8 → Bool} {s : ByteArray} {i : Int} (hA : ∀ k, A' k = true → A k = true) (h : chgErr g A s i = 0) : chgErr g A' s i = 0 := by
  unfold chgErr at h ⊢
  by_cases h1 : (pathSpot (bs s)).1 = 0
  · rw [if_neg (by simpa using h1)] at h ⊢
    by_cases h2 : bs s = []
    · rw [if_pos h2] at h; omega
    · rw [if_neg h2] at h ⊢
      by_cases h3 : A (bs s) = true
      · rw [if_pos h3] at h; omega
      · rw [if_neg h3] at h
        rw [if_neg (fun e => h3 (hA _ e))]
        exact h
  · rw [if_pos h1] at h; omega
theorem chgErr_id {g : List UInt8 → Int} {A : List UInt8 → Bool} {s : ByteArray} {i : Int} (h : chgErr g A s i = 0) (hi : g (bs s) = i) : i ≠ 0 := by
  intro e
  unfold chgErr at h
  by_cases h1 : (pathSpot (bs s)).1 = 0
  · rw [if_neg (by simpa using h1)] at h
    by_cases h2 : bs s = []
    · rw [if_pos h2] at h; omega
    · rw [if_neg h2] at h
      by_cases h3 : A (bs s) = true
      · rw [if_pos h3] at h; omega
      · rw [if_neg h3, if_pos ⟨e, hi.trans e⟩] at h; omega
  · rw [if_pos h1] at h; omega
/-- what says something new may be set, too -/
theorem chk_news (g : List UInt8 → Int) : ∀ (l : List Ch) (A A' : List UInt8 → Bool) (c : Int), (∀ k, A' k = true → A k = true) → chkFrom g A c l = 0 → chkFrom g A' c (newsR g l) = 0
  | [], _, _, _, _, h => h
  | x :: r, A, A', c, hA, h => by
    unfold chkFrom at h
    by_cases e : chgErr g A x.1 x.2 = 0
    · rw [if_neg (by simpa using e)] at h
      by_cases hx : g (bs x.1) = x.2
      · have h1 : newsR g (x :: r) = newsR g r := by simp [newsR, hx]
        have h2 : growR g x.1 x.2 = 0 := by
          have h3 := chgErr_id e hx
          unfold growR
          rw [if_neg h3, if_neg (by rw [hx]; exact h3)]
        rw [h2, Int.add_zero] at h
        rw [h1]
        exact chk_news g r _ A' c (fun k hk => by simp [addA, hA k hk]) h
      · have h1 : newsR g (x :: r) = x :: newsR g r := by simp [newsR, hx]
        rw [h1]
        unfold chkFrom
        rw [if_neg (by simpa using chgErr_less hA e)]
        exact chk_news g r _ _ _ (fun k hk => by
          simp only [addA, Bool.or_eq_true] at hk ⊢
          exact hk.imp id (hA k)) h
    · rw [if_pos e] at h; exact absurd h e
theorem chkR_news {g : List UInt8 → Int} {n : Nat} {l : List Ch} (h : chkR g n l = 0) : chkR g n (newsR g l) = 0 := chk_news g l _ _ _ (fun _ hk => hk) h
theorem loadR_snoc {rs : List (List UInt8)} {q : (List UInt8 → Int) × Nat} (h : loadR decRf rs noR = some q) (L : List Ch) (h0 : L ≠ []) (hok : ∀ x ∈ L, ChOk x) (hl : L.length < 18446744073709551616) (hc : chkR q.1 q.2 L = 0) : loadR decRf (rs ++ [encR L]) noR = some (applyR q L) := by
  rw [loadR_append, h]
  simp [loadR, decRf_encR L h0 hok hl, hc]

/-- Refs, and their disk, that has just their records -/
structure RfG (w : World) (r d : Nat) (g : List UInt8 → Int) (n : Nat) (rs : List (List UInt8)) (S : DG) (F G : Nat → Prop) : Prop where
  rf : ∃ j b M FJ, RfAt w r d j b M rs g n (fileB rs).length false FJ F
  dk : IsDisk w d S G
  dis : ∀ k, F k → ¬ G k
  gd : JGd S refNm.data.toList rs
  ld : loadR decRf rs noR = some (g, n)
theorem RfG.turn {w w' : World} {r d : Nat} {g : List UInt8 → Int} {n : Nat} {rs : List (List UInt8)} {S : DG} {F G X : Nat → Prop} (h : RfG w r d g n rs S F G) (hT : Turn X w w') (hX : ∀ k, F k ∨ G k → ¬ X k) : RfG w' r d g n rs S F G := by
  obtain ⟨j, b, M, FJ, hr⟩ := h.rf
  exact ⟨⟨j, b, M, FJ, hr.turn hT (fun k hk => hX k (.inl hk))⟩, h.dk.turn hT (fun k hk => hX k (.inr hk)), h.dis, h.gd, h.ld⟩
theorem RfG.below {w w' : World} {r d : Nat} {g : List UInt8 → Int} {n : Nat} {rs : List (List UInt8)} {S : DG} {F G : Nat → Prop} (h : RfG w r d g n rs S F G) (hB : Below w.heap.size w w') : RfG w' r d g n rs S F G := h.turn (Turn.of_below (fun _ => False) hB) (fun _ _ => id)

/-- a Set of changes that may be made and say something new -/
theorem rset_good (w : World) (r d : Nat) (g : List UInt8 → Int) (n : Nat) (rs : List (List UInt8)) (S : DG) (F G : Nat → Prop) (h : RfG w r d g n rs S F G) (a : Option Addr) (m c : Nat) (l : List Ch) (hl : Chs w a m l) (hs : ShortR l) (hi : ∀ x ∈ l, 0 ≤ x.2 ∧ x.2 ≤ 18446744073709551615) (hm : m ≤ 1000) (hn : n ≤ 1000000000000) (he : chkR g n l = 0) (hN : newsR g l ≠ []) (hfit : (recB (encR (newsR g l))).length + (fileB rs).length ≤ 4194304) :
    Calls Tryz.prog 9 #[.pointer (some ⟨r, 0, none⟩), .slice a m c] w fun e w' => e = .returned (.int .i64 0) ∧ Turn (fun k => F k ∨ G k) w w' ∧ ∃ S' F' G', RfG w' r d (applyR (g, n) (newsR g l)).1 (applyR (g, n) (newsR g l)).2 (rs ++ [encR (newsR g l)]) S' F' G' ∧ (∀ k, F' k → F k ∨ w.heap.size ≤ k) ∧ (∀ k, G' k → G k ∨ w.heap.size ≤ k) := by
  obtain ⟨j, b, M, FJ, hr⟩ := h.rf
  have hsh : ∀ x ∈ newsR g l, x.1.size ≤ 200 := fun x hx => chkFrom_short g l _ _ he x (newsR_sub g l x hx)
  have hNl : (newsR g l).length ≤ m := by rw [← hl.1]; exact List.length_filter_le _ _
  obtain ⟨S', ha, hg'⟩ := h.gd.app refNm_name (encR (newsR g l)) (encR_len _ hsh (by omega)) hfit
  have hbs : (S.bs refNm.data.toList).length = (fileB rs).length := by rw [h.gd.get]
  have hSn := h.gd.n
  have hwr := h.gd.wr
  have hld := loadR_snoc h.ld (newsR g l) hN (fun x hx => ⟨hsh x hx, hi x (newsR_sub g l x hx)⟩) (by omega) (chkR_news he)
  refine (rset_new w r d j b M rs g n _ FJ F hr S G h.dk h.dis a m c l hl hs hi hm hn he hN (by rw [hbs]; omega) (by rw [hbs]; exact Nat.le_refl _) (by omega) (by omega)).mono ?_
  rintro e w' ⟨hee, hT, M', FJ', G', hd', hF', hG', hFG', hc⟩
  rw [ha] at hee hd' hc
  rcases hc with ⟨_, hR⟩ | ⟨hne, _⟩
  · refine ⟨hee, hT.wide (fun k hk => ?_), S', _, G', ⟨⟨j, b, M', FJ', ?_⟩, hd', hFG', hg', hld⟩, fun k hk => hk.elim .inl (fun hk => (hF' k hk).imp (hr.fj k) id), hG'⟩
    · rcases hk with hk | hk | hk
      · exact .inl (hr.fj k hk)
      · exact .inr hk
      · exact .inl (hk ▸ hr.fs.2)
    · rw [fileB_snoc, List.length_append]
      exact hR
  · exact absurd rfl hne
/-- Open on a disk that has just the records of refs -/
theorem ropen_good (w : World) (d : Nat) (g : List UInt8 → Int) (n : Nat) (rs : List (List UInt8)) (S : DG) (G : Nat → Prop) (hd : IsDisk w d S G) (hg : JGd S refNm.data.toList rs) (hld : loadR decRf rs noR = some (g, n)) (hfit : (fileB rs).length ≤ 4194304) (hrl : ∀ p ∈ rs, p.length ≤ 549755813888) :
    Calls Tryz.prog 7 #[.pointer (some ⟨d, 0, none⟩)] w fun e w' => ∃ r F G', e = .returned (.tuple #[.pointer (some ⟨r, 0, none⟩), .int .i64 0]) ∧ RfG w' r d g n rs S F G' ∧ Turn G w w' ∧ (∀ k, F k → w.heap.size ≤ k) ∧ (∀ k, G' k → G k ∨ w.heap.size ≤ k) := by
  have hSn := hg.n
  have hwr := hg.wr
  obtain ⟨ho, hpa⟩ := hg.opened
  refine (ropen_any w d S G decRf (by rw [hpa]; exact decOk rs hrl) hd (by rw [hg.get]; exact hfit) (by omega) (by unfold maxLen; omega)).mono ?_
  rintro e w' ⟨hT, G', hd', hG', hc⟩
  rw [ho] at hd' hc
  rw [hpa] at hc
  simp only at hc
  rw [hld] at hc
  rcases hc with ⟨h0, _⟩ | ⟨_, h0, _⟩ | ⟨_, g', n', r, j, b, M, FJ, F, h0, h1, he, hR, hF, hFG⟩
  · exact absurd rfl h0
  · cases h0
  · cases h0
    exact ⟨r, F, G', he, ⟨⟨j, b, M, FJ, hR⟩, hd', hFG, hg, hld⟩, hT, hF, hG'⟩
end Go.Proofs.YtiafhbpklddlnaaGreatDoor

/- Plain: all refs, their names rising; what may be said of where names lead behind changes that may be made; setting what is there says nothing new. -/
namespace Go.Proofs.YtiafhbpklddlnaaGreatDoor
open Go.RowKit Go.Shelf Go.Maps

/-- so many names lead somewhere -/
def CntR (g : List UInt8 → Int) (n : Nat) : Prop := ∃ ks : List (List UInt8), ks.Nodup ∧ (∀ x, x ∈ ks ↔ g x ≠ 0) ∧ ks.length = n
theorem CntR.pos {g : List UInt8 → Int} {n : Nat} (h : CntR g n) {k : List UInt8} (hk : g k ≠ 0) : 1 ≤ n := by
  obtain ⟨ks, _, hm, rfl⟩ := h
  exact List.length_pos_of_mem ((hm k).2 hk)
theorem CntR.step {q : (List UInt8 → Int) × Nat} (h : CntR q.1 q.2) (x : Ch) : CntR (stepR q x).1 (stepR q x).2 := by
  obtain ⟨g, n⟩ := q
  obtain ⟨ks, hn, hm, hl⟩ := h
  simp only at hm hl
  by_cases h0 : x.2 = 0
  · by_cases hg : g (bs x.1) = 0
    · refine ⟨ks, hn, fun y => ?_, by simp [stepR, h0, hg, hl]⟩
      simp only [stepR, setR, h0]
      by_cases e : y = bs x.1
      · subst e; simp [hm, hg]
      · simp [e, hm]
    · have hin := (hm _).2 hg
      refine ⟨ks.erase (bs x.1), hn.erase _, fun y => ?_, by simp [stepR, h0, hg, List.length_erase_of_mem hin, hl]⟩
      rw [hn.mem_erase_iff]
      simp only [stepR, setR, h0]
      by_cases e : y = bs x.1
      · subst e; simp
      · simp [e, hm]
  · by_cases hg : g (bs x.1) = 0
    · have hnin : bs x.1 ∉ ks := fun hi => (hm _).1 hi hg
      refine ⟨bs x.1 :: ks, List.nodup_cons.2 ⟨hnin, hn⟩, fun y => ?_, by simp [stepR, h0, hg, hl]⟩
      simp only [stepR, setR]
      by_cases e : y = bs x.1
      · subst e; simp [h0]
      · simp [e, hm]
    · refine ⟨ks, hn, fun y => ?_, by simp [stepR, h0, hg, hl]⟩
      simp only [stepR, setR]
      by_cases e : y = bs x.1
      · subst e; simp [h0, hm, hg]
      · simp [e, hm]

/-- names that lead somewhere are paths other than the root, and not too many -/
def NamesR (g : List UInt8 → Int) (n : Nat) : Prop := (∀ k, g k ≠ 0 → (pathSpot k).1 = 0 ∧ k ≠ []) ∧ n ≤ 64
theorem chgErr_zero {g : List UInt8 → Int} {A : List UInt8 → Bool} {s : ByteArray} {i : Int} (h : chgErr g A s i = 0) : (pathSpot (bs s)).1 = 0 ∧ bs s ≠ [] ∧ A (bs s) = false ∧ (i = 0 → g (bs s) ≠ 0) := by
  unfold chgErr at h
  by_cases h1 : (pathSpot (bs s)).1 = 0
  · rw [if_neg (by simpa using h1)] at h
    by_cases h2 : bs s = []
    · rw [if_pos h2] at h; omega
    · rw [if_neg h2] at h
      by_cases h3 : A (bs s) = true
      · rw [if_pos h3] at h; omega
      · rw [if_neg h3] at h
        refine ⟨h1, h2, by simpa using h3, fun e hg => ?_⟩
        rw [if_pos ⟨e, hg⟩] at h; omega
  · rw [if_pos h1] at h; omega
theorem names_from (g : List UInt8 → Int) : ∀ (l : List Ch) (A : List UInt8 → Bool) (c : Int) (q : (List UInt8 → Int) × Nat), chkFrom g A c l = 0 → CntR q.1 q.2 → (∀ k, A k = false → q.1 k = g k) → (q.2 : Int) = c → (∀ k, q.1 k ≠ 0 → (pathSpot k).1 = 0 ∧ k ≠ []) → NamesR (applyR q l).1 (applyR q l).2
  | [], A, c, q, h, hc, hA, hq, hk => by
    refine ⟨hk, ?_⟩
    unfold chkFrom at h
    by_cases e : 64 < c
    · rw [if_pos e] at h; omega
    · show q.2 ≤ 64; omega
  | x :: r, A, c, q, h, hc, hA, hq, hk => by
    unfold chkFrom at h
    by_cases e : chgErr g A x.1 x.2 = 0
    · rw [if_neg (by simpa using e)] at h
      obtain ⟨h1, h2, h3, h4⟩ := chgErr_zero e
      have hg := hA _ h3
      have := names_from g r (addA A (bs x.1)) (c + growR g x.1 x.2) (stepR q x) h (hc.step x) (fun k hk' => by
        simp only [addA, Bool.or_eq_false_iff, beq_eq_false_iff_ne] at hk'
        simp only [stepR, setR, if_neg hk'.1]
        exact hA k hk'.2) (by
        simp only [stepR, growR, hg]
        by_cases h0 : x.2 = 0
        · have := hc.pos (k := bs x.1) (by rw [hg]; exact h4 h0)
          rw [if_pos h0, if_pos h0, if_neg (h4 h0)]
          omega
        · rw [if_neg h0, if_neg h0]
          by_cases hz : g (bs x.1) = 0
          · rw [if_pos hz, if_pos hz]; omega
          · rw [if_neg hz, if_neg hz]; omega) (fun k hk' => by
        simp only [stepR, setR] at hk'
        by_cases ek : k = bs x.1
        · subst ek; exact ⟨h1, h2⟩
        · rw [if_neg ek] at hk'; exact hk k hk')
      simpa [applyR] using this
    · rw [if_pos e] at h; exact absurd h e
theorem NamesR.set {g : List UInt8 → Int} {n : Nat} (h : NamesR g n) (hc : CntR g n) {l : List Ch} (he : chkR g n l = 0) : NamesR (applyR (g, n) l).1 (applyR (g, n) l).2 :=
  names_from g l _ _ (g, n) he hc (fun _ _ => rfl) rfl h.1

/-- all refs, their names rising -/
def AllR (g : List UInt8 → Int) (n : Nat) (L : List Ch) : Prop := ∃ ks : List (List UInt8), ks.Nodup ∧ (∀ x, x ∈ ks ↔ g x ≠ 0) ∧ ks.length = n ∧ L = (ks.mergeSort leB).map (fun k => ((⟨k.toArray⟩ : ByteArray), g k))
theorem AllR.one {g : List UInt8 → Int} {n m : Nat} {L L' : List Ch} (h : AllR g n L) (h' : AllR g m L') : L = L' := by
  obtain ⟨ks, n1, m1, _, rfl⟩ := h
  obtain ⟨js, n2, m2, _, rfl⟩ := h'
  rw [mergeSort_of_perm ((List.perm_ext_iff_of_nodup n1 n2).2 fun x => by rw [m1, m2])]
theorem AllR.len {g : List UInt8 → Int} {n : Nat} {L : List Ch} (h : AllR g n L) : L.length = n := by
  obtain ⟨ks, _, _, rfl, rfl⟩ := h
  rw [List.length_map, List.length_mergeSort]
theorem CntR.all {g : List UInt8 → Int} {n : Nat} (h : CntR g n) : ∃ L, AllR g n L := by
  obtain ⟨ks, h1, h2, h3⟩ := h
  exact ⟨_, ks, h1, h2, h3, rfl⟩
theorem bs_arr (k : List UInt8) : bs (⟨k.toArray⟩ : ByteArray) = k := by simp [bs]
theorem AllR.mem {g : List UInt8 → Int} {n : Nat} {L : List Ch} (h : AllR g n L) {x : Ch} (hx : x ∈ L) : g (bs x.1) = x.2 ∧ x.2 ≠ 0 := by
  obtain ⟨ks, _, hm, _, rfl⟩ := h
  obtain ⟨k, hk, rfl⟩ := List.mem_map.1 hx
  have := (hm k).1 ((List.mergeSort_perm ks leB).mem_iff.1 hk)
  exact ⟨by rw [bs_arr], this⟩
theorem AllR.nodup {g : List UInt8 → Int} {n : Nat} {L : List Ch} (h : AllR g n L) : (L.map (fun x => bs x.1)).Nodup := by
  obtain ⟨ks, hn, hm, _, rfl⟩ := h
  rw [List.map_map]
  have : ((fun x : Ch => bs x.1) ∘ fun k => ((⟨k.toArray⟩ : ByteArray), g k)) = id := by funext k; simp [bs_arr]
  rw [this, List.map_id]
  exact (List.mergeSort_perm ks leB).nodup_iff.2 hn
theorem chk_there (g : List UInt8 → Int) : ∀ (l : List Ch) (A : List UInt8 → Bool) (c : Int), (∀ x ∈ l, g (bs x.1) = x.2 ∧ x.2 ≠ 0 ∧ (pathSpot (bs x.1)).1 = 0 ∧ bs x.1 ≠ [] ∧ A (bs x.1) = false) → (l.map (fun x => bs x.1)).Nodup → c ≤ 64 → chkFrom g A c l = 0
  | [], A, c, _, _, hc => by unfold chkFrom; rw [if_neg (by omega)]
  | x :: r, A, c, h, hn, hc => by
    obtain ⟨h1, h2, h3, h4, h5⟩ := h x (List.mem_cons_self ..)
    rw [List.map_cons, List.nodup_cons] at hn
    have e : chgErr g A x.1 x.2 = 0 := by
      unfold chgErr
      rw [if_neg (by simpa using h3), if_neg h4, if_neg (by simp [h5]), if_neg (fun e => h2 e.1)]
    have eg : growR g x.1 x.2 = 0 := by
      unfold growR
      rw [if_neg h2, if_neg (by rw [h1]; exact h2)]
    unfold chkFrom
    rw [if_neg (by simpa using e), eg, Int.add_zero]
    refine chk_there g r _ c (fun y hy => ?_) hn.2 hc
    obtain ⟨k1, k2, k3, k4, k5⟩ := h y (List.mem_cons_of_mem _ hy)
    refine ⟨k1, k2, k3, k4, ?_⟩
    simp only [addA, Bool.or_eq_false_iff, beq_eq_false_iff_ne]
    exact ⟨fun e => hn.1 (List.mem_map.2 ⟨y, hy, e⟩), k5⟩
/-- all that is there may be set, and says nothing new -/
theorem AllR.set {g : List UInt8 → Int} {n : Nat} {L : List Ch} (h : AllR g n L) (hN : NamesR g n) : chkR g n L = 0 ∧ newsR g L = [] := by
  refine ⟨chk_there g L _ _ (fun x hx => ?_) h.nodup (by have := hN.2; omega), ?_⟩
  · obtain ⟨h1, h2⟩ := h.mem hx
    have := hN.1 (bs x.1) (by rw [h1]; exact h2)
    exact ⟨h1, h2, this.1, this.2, rfl⟩
  · unfold newsR
    rw [List.filter_eq_nil_iff]
    intro x hx
    simp [(h.mem hx).1]
/-- the names of a map of names, each once -/
theorem strKeysR_nodup {w : World} {b n : Nat} {M : DataW Value} (h : w.ownsMap Tryz.prog 9 rvR b n M) : (strKeys M).Nodup ∧ ∀ x, x ∈ strKeys M ↔ has M (.string x) = true := by
  obtain ⟨es, hD, hpw, _⟩ := h.entries keyed
  obtain ⟨es', hD', hko⟩ := h.keysOf
  obtain rfl : es = es' := by rw [hD] at hD'; simpa using hD'
  subst hD
  have hk : ∀ q ∈ es, ∃ x, q.1 = .string x := fun q hq => by
    obtain ⟨v, hv⟩ := hko q hq
    obtain ⟨x, _, hx, _⟩ := Maps.keyOf_str Tryz.underlying9 hv
    exact ⟨x, hx⟩
  constructor
  · show (es.map fun q => strOf q.1).Nodup
    refine List.pairwise_map.2 (hpw.imp_of_mem fun {q r} hq hr hne e => hne ?_)
    obtain ⟨x, hx⟩ := hk q hq
    obtain ⟨y, hy⟩ := hk r hr
    rw [hx, hy] at e ⊢
    exact congrArg _ e
  · intro x
    rw [has_eq, List.any_eq_true]
    show x ∈ es.map (fun q => strOf q.1) ↔ _
    rw [List.mem_map]
    constructor
    · rintro ⟨q, hq, rfl⟩
      obtain ⟨y, hy⟩ := hk q hq
      exact ⟨q, hq, by rw [hy]; simp [Lit.sameKey, strOf]⟩
    · rintro ⟨q, hq, hs⟩
      obtain ⟨y, hy⟩ := hk q hq
      rw [hy] at hs
      exact ⟨q, hq, by rw [hy]; simpa [Lit.sameKey, strOf] using hs⟩
theorem strKeysR_length {w : World} {b n : Nat} {M : DataW Value} (h : w.ownsMap Tryz.prog 9 rvR b n M) : (strKeys M).length = size M := by
  obtain ⟨es, rfl⟩ := h.isMap
  simp [strKeys, size]
theorem RfAt.cnt {w : World} {r d j b : Nat} {M : DataW Value} {rs : List (List UInt8)} {g : List UInt8 → Int} {n sz : Nat} {cut : Bool} {FJ F : Nat → Prop} (h : RfAt w r d j b M rs g n sz cut FJ F) : CntR g n := by
  have ho := h.own
  obtain ⟨h1, h2⟩ := strKeysR_nodup ho
  refine ⟨strKeys M, h1, fun x => ?_, by rw [strKeysR_length ho, h.msz]⟩
  rw [h2, h.has]
  simp
end Go.Proofs.YtiafhbpklddlnaaGreatDoor
