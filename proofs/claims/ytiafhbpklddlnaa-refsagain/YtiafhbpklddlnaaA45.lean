import Derived.Test.YtiafhbpklddlnaaA44
/- Refs on a disk that is not cut and has just their records. -/
namespace Go.Proofs.Ytiafhbpklddlnaa
open Go.RowKit Go.Shelf Go.Maps

theorem chgErr_less {g : List UInt8 → Int} {A A' : List UInt8 → Bool} {s : ByteArray} {i : Int} (hA : ∀ k, A' k = true → A k = true) (h : chgErr g A s i = 0) : chgErr g A' s i = 0 := by
  unfold chgErr at h ⊢
  by_cases h1 : (pathSpot (bs s)).1 = 0
  · rw [if_neg (by simpa using h1)] at h ⊢
    by_cases h2 : bs s = []
    · rw [if_pos h2] at h; omega
    · rw [if_neg h2] at h ⊢
      by_cases h3 : A (bs s) = true
      · rw [if_pos h3] at h; omega
      · rw [if_neg h3] at h
        rw [if_neg (fun e => h3 (hA _ e))]
        exact h
  · rw [if_pos h1] at h; omega
theorem chgErr_id {g : List UInt8 → Int} {A : List UInt8 → Bool} {s : ByteArray} {i : Int} (h : chgErr g A s i = 0) (hi : g (bs s) = i) : i ≠ 0 := by
  intro e
  unfold chgErr at h
  by_cases h1 : (pathSpot (bs s)).1 = 0
  · rw [if_neg (by simpa using h1)] at h
    by_cases h2 : bs s = []
    · rw [if_pos h2] at h; omega
    · rw [if_neg h2] at h
      by_cases h3 : A (bs s) = true
      · rw [if_pos h3] at h; omega
      · rw [if_neg h3, if_pos ⟨e, hi.trans e⟩] at h; omega
  · rw [if_pos h1] at h; omega
/-- what says something new may be set, too -/
theorem chk_news (g : List UInt8 → Int) : ∀ (l : List Ch) (A A' : List UInt8 → Bool) (c : Int), (∀ k, A' k = true → A k = true) → chkFrom g A c l = 0 → chkFrom g A' c (newsR g l) = 0
  | [], _, _, _, _, h => h
  | x :: r, A, A', c, hA, h => by
    unfold chkFrom at h
    by_cases e : chgErr g A x.1 x.2 = 0
    · rw [if_neg (by simpa using e)] at h
      by_cases hx : g (bs x.1) = x.2
      · have h1 : newsR g (x :: r) = newsR g r := by simp [newsR, hx]
        have h2 : growR g x.1 x.2 = 0 := by
          have h3 := chgErr_id e hx
          unfold growR
          rw [if_neg h3, if_neg (by rw [hx]; exact h3)]
        rw [h2, Int.add_zero] at h
        rw [h1]
        exact chk_news g r _ A' c (fun k hk => by simp [addA, hA k hk]) h
      · have h1 : newsR g (x :: r) = x :: newsR g r := by simp [newsR, hx]
        rw [h1]
        unfold chkFrom
        rw [if_neg (by simpa using chgErr_less hA e)]
        exact chk_news g r _ _ _ (fun k hk => by
          simp only [addA, Bool.or_eq_true] at hk ⊢
          exact hk.imp id (hA k)) h
    · rw [if_pos e] at h; exact absurd h e
theorem chkR_news {g : List UInt8 → Int} {n : Nat} {l : List Ch} (h : chkR g n l = 0) : chkR g n (newsR g l) = 0 := chk_news g l _ _ _ (fun _ hk => hk) h
theorem loadR_snoc {rs : List (List UInt8)} {q : (List UInt8 → Int) × Nat} (h : loadR decRf rs noR = some q) (L : List Ch) (h0 : L ≠ []) (hok : ∀ x ∈ L, ChOk x) (hl : L.length < 18446744073709551616) (hc : chkR q.1 q.2 L = 0) : loadR decRf (rs ++ [encR L]) noR = some (applyR q L) := by
  rw [loadR_append, h]
  simp [loadR, decRf_encR L h0 hok hl, hc]

/-- Refs, and their disk, that has just their records -/
structure RfG (w : World) (r d : Nat) (g : List UInt8 → Int) (n : Nat) (rs : List (List UInt8)) (S : DG) (F G : Nat → Prop) : Prop where
  rf : ∃ j b M FJ, RfAt w r d j b M rs g n (fileB rs).length false FJ F
  dk : IsDisk w d S G
  dis : ∀ k, F k → ¬ G k
  gd : JGd S refNm.data.toList rs
  ld : loadR decRf rs noR = some (g, n)
theorem RfG.turn {w w' : World} {r d : Nat} {g : List UInt8 → Int} {n : Nat} {rs : List (List UInt8)} {S : DG} {F G X : Nat → Prop} (h : RfG w r d g n rs S F G) (hT : Turn X w w') (hX : ∀ k, F k ∨ G k → ¬ X k) : RfG w' r d g n rs S F G := by
  obtain ⟨j, b, M, FJ, hr⟩ := h.rf
  exact ⟨⟨j, b, M, FJ, hr.turn hT (fun k hk => hX k (.inl hk))⟩, h.dk.turn hT (fun k hk => hX k (.inr hk)), h.dis, h.gd, h.ld⟩
theorem RfG.below {w w' : World} {r d : Nat} {g : List UInt8 → Int} {n : Nat} {rs : List (List UInt8)} {S : DG} {F G : Nat → Prop} (h : RfG w r d g n rs S F G) (hB : Below w.heap.size w w') : RfG w' r d g n rs S F G := h.turn (Turn.of_below (fun _ => False) hB) (fun _ _ => id)

/-- a Set of changes that may be made and say something new -/
theorem rset_good (w : World) (r d : Nat) (g : List UInt8 → Int) (n : Nat) (rs : List (List UInt8)) (S : DG) (F G : Nat → Prop) (h : RfG w r d g n rs S F G) (a : Option Addr) (m c : Nat) (l : List Ch) (hl : Chs w a m l) (hs : ShortR l) (hi : ∀ x ∈ l, 0 ≤ x.2 ∧ x.2 ≤ 18446744073709551615) (hm : m ≤ 1000) (hn : n ≤ 1000000000000) (he : chkR g n l = 0) (hN : newsR g l ≠ []) (hfit : (recB (encR (newsR g l))).length + (fileB rs).length ≤ 4194304) :
    Calls Try.prog 8 #[.pointer (some ⟨r, 0, none⟩), .slice a m c] w fun e w' => e = .returned (.int .i64 0) ∧ Turn (fun k => F k ∨ G k) w w' ∧ ∃ S' F' G', RfG w' r d (applyR (g, n) (newsR g l)).1 (applyR (g, n) (newsR g l)).2 (rs ++ [encR (newsR g l)]) S' F' G' ∧ (∀ k, F' k → F k ∨ w.heap.size ≤ k) ∧ (∀ k, G' k → G k ∨ w.heap.size ≤ k) := by
  obtain ⟨j, b, M, FJ, hr⟩ := h.rf
  have hsh : ∀ x ∈ newsR g l, x.1.size ≤ 200 := fun x hx => chkFrom_short g l _ _ he x (newsR_sub g l x hx)
  have hNl : (newsR g l).length ≤ m := by rw [← hl.1]; exact List.length_filter_le _ _
  obtain ⟨S', ha, hg'⟩ := h.gd.app refNm_name (encR (newsR g l)) (encR_len _ hsh (by omega)) hfit
  have hbs : (S.bs refNm.data.toList).length = (fileB rs).length := by rw [h.gd.get]
  have hSn := h.gd.n
  have hwr := h.gd.wr
  have hld := loadR_snoc h.ld (newsR g l) hN (fun x hx => ⟨hsh x hx, hi x (newsR_sub g l x hx)⟩) (by omega) (chkR_news he)
  refine (rset_new w r d j b M rs g n _ FJ F hr S G h.dk h.dis a m c l hl hs hi hm hn he hN (by rw [hbs]; omega) (by rw [hbs]; exact Nat.le_refl _) (by omega) (by omega)).mono ?_
  rintro e w' ⟨hee, hT, M', FJ', G', hd', hF', hG', hFG', hc⟩
  rw [ha] at hee hd' hc
  rcases hc with ⟨_, hR⟩ | ⟨hne, _⟩
  · refine ⟨hee, hT.wide (fun k hk => ?_), S', _, G', ⟨⟨j, b, M', FJ', ?_⟩, hd', hFG', hg', hld⟩, fun k hk => hk.elim .inl (fun hk => (hF' k hk).imp (hr.fj k) id), hG'⟩
    · rcases hk with hk | hk | hk
      · exact .inl (hr.fj k hk)
      · exact .inr hk
      · exact .inl (hk ▸ hr.fs.2)
    · rw [fileB_snoc, List.length_append]
      exact hR
  · exact absurd rfl hne
/-- Open on a disk that has just the records of refs -/
theorem ropen_good (w : World) (d : Nat) (g : List UInt8 → Int) (n : Nat) (rs : List (List UInt8)) (S : DG) (G : Nat → Prop) (hd : IsDisk w d S G) (hg : JGd S refNm.data.toList rs) (hld : loadR decRf rs noR = some (g, n)) (hfit : (fileB rs).length ≤ 4194304) (hrl : ∀ p ∈ rs, p.length ≤ 549755813888) :
    Calls Try.prog 7 #[.pointer (some ⟨d, 0, none⟩)] w fun e w' => ∃ r F G', e = .returned (.tuple #[.pointer (some ⟨r, 0, none⟩), .int .i64 0]) ∧ RfG w' r d g n rs S F G' ∧ Turn G w w' ∧ (∀ k, F k → w.heap.size ≤ k) ∧ (∀ k, G' k → G k ∨ w.heap.size ≤ k) := by
  have hSn := hg.n
  have hwr := hg.wr
  obtain ⟨ho, hpa⟩ := hg.opened
  refine (ropen_any w d S G decRf (by rw [hpa]; exact decOk rs hrl) hd (by rw [hg.get]; exact hfit) (by omega) (by unfold maxLen; omega)).mono ?_
  rintro e w' ⟨hT, G', hd', hG', hc⟩
  rw [ho] at hd' hc
  rw [hpa] at hc
  simp only at hc
  rw [hld] at hc
  rcases hc with ⟨h0, _⟩ | ⟨_, h0, _⟩ | ⟨_, g', n', r, j, b, M, FJ, F, h0, h1, he, hR, hF, hFG⟩
  · exact absurd rfl h0
  · cases h0
  · cases h0
    exact ⟨r, F, G', he, ⟨⟨j, b, M, FJ, hR⟩, hd', hFG, hg, hld⟩, hT, hF, hG'⟩
end Go.Proofs.Ytiafhbpklddlnaa
