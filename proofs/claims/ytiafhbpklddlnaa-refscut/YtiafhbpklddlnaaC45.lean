import Derived.Test.YtiafhbpklddlnaaC44
/- Refs on a disk that may be cut: Set and Open. -/
namespace Go.Proofs.Ytiafhbpklddlnaa
open Go.RowKit Go.Shelf Go.Maps

/-- refs, and their disk, whose file has their records, and perhaps, where their journal is dead, a beginning of one more -/
structure RfC (w : World) (r d : Nat) (g : List UInt8 → Int) (n : Nat) (rs : List (List UInt8)) (S : DG) (F G : Nat → Prop) (dead : Bool) : Prop where
  rf : ∃ j b M FJ, RfAt w r d j b M rs g n (fileB rs).length dead FJ F
  dk : IsDisk w d S G
  dis : ∀ k, F k → ¬ G k
  cg : CG S refNm.data.toList rs dead
  ld : loadR decRf rs noR = some (g, n)
theorem RfC.turn {w w' : World} {r d : Nat} {g : List UInt8 → Int} {n : Nat} {rs : List (List UInt8)} {S : DG} {F G X : Nat → Prop} {dead : Bool} (h : RfC w r d g n rs S F G dead) (hT : Turn X w w') (hX : ∀ k, F k ∨ G k → ¬ X k) : RfC w' r d g n rs S F G dead := by
  obtain ⟨j, b, M, FJ, hr⟩ := h.rf
  exact ⟨⟨j, b, M, FJ, hr.turn hT (fun k hk => hX k (.inl hk))⟩, h.dk.turn hT (fun k hk => hX k (.inr hk)), h.dis, h.cg, h.ld⟩
theorem RfC.below {w w' : World} {r d : Nat} {g : List UInt8 → Int} {n : Nat} {rs : List (List UInt8)} {S : DG} {F G : Nat → Prop} {dead : Bool} (h : RfC w r d g n rs S F G dead) (hB : Below w.heap.size w w') : RfC w' r d g n rs S F G dead := h.turn (Turn.of_below (fun _ => False) hB) (fun _ _ => id)
theorem RfC.lt {w : World} {r d : Nat} {g : List UInt8 → Int} {n : Nat} {rs : List (List UInt8)} {S : DG} {F G : Nat → Prop} {dead : Bool} (h : RfC w r d g n rs S F G dead) : ∀ k, F k ∨ G k → k < w.heap.size := fun k hk => by
  obtain ⟨j, b, M, FJ, hr⟩ := h.rf
  exact hk.elim (hr.lt k) (h.dk.lt k)
theorem RfC.cnt {w : World} {r d : Nat} {g : List UInt8 → Int} {n : Nat} {rs : List (List UInt8)} {S : DG} {F G : Nat → Prop} {dead : Bool} (h : RfC w r d g n rs S F G dead) : CntR g n := by
  obtain ⟨j, b, M, FJ, hr⟩ := h.rf
  exact hr.cnt
theorem CG.freeR {S : DG} {nm : List UInt8} {ds : List (List UInt8)} (h : CG S nm ds false) (hnm : nameB nm = true) (hc : S.cut = false) (l : List UInt8) (hfit : (recB l).length + (fileB ds).length ≤ 4194304) : (S.app nm (recB l)).2 = 0 ∧ (S.app nm (recB l)).1.cut = false := by
  have hw := h.whole
  have hn := h.n
  have he : S.app nm (recB l) = pieces ((recB l).length + 1) S nm (recB l) := by
    unfold DG.app
    rw [if_neg (by rw [hnm]; decide), if_neg (by rw [hw]; intro e; rcases e with e | e <;> omega), if_neg (by simp [recB_ne])]
  rw [he, pieces_free _ S nm _ hc (Nat.le_refl _)]
  exact ⟨rfl, hc⟩

/-- what lies behind a Set -/
structure SetC (w w' : World) (r d : Nat) (g g' : List UInt8 → Int) (n n' : Nat) (rs rs' : List (List UInt8)) (S S' : DG) (F G F' G' : Nat → Prop) (dead : Bool) (l : List Ch) (m : Nat) (er : Int) : Prop where
  tn : Turn (fun k => F k ∨ G k) w w'
  rf : RfC w' r d g' n' rs' S' F' G' dead
  nm : NamesR g' n'
  hF : ∀ k, F' k → F k ∨ w.heap.size ≤ k
  hG : ∀ k, G' k → G k ∨ w.heap.size ≤ k
  len : (fileB rs').length ≤ (fileB rs).length + m * 218 + 30
  wr : S'.wr ≤ S.wr + m * 218 + 30
  res : (dead = false ∧ er = chkR g n l ∧ (chkR g n l ≠ 0 → g' = g ∧ n' = n) ∧ (chkR g n l = 0 → (g', n') = applyR (g, n) (newsR g l))) ∨ (dead = true ∧ er = 6 ∧ chkR g n l = 0 ∧ g' = g ∧ n' = n)
  free : S.cut = false → dead = false ∧ S'.cut = false
theorem rset_c (w : World) (r d : Nat) (g : List UInt8 → Int) (n : Nat) (rs : List (List UInt8)) (S : DG) (F G : Nat → Prop) (h : RfC w r d g n rs S F G false) (hN : NamesR g n) (a : Option Addr) (m c : Nat) (l : List Ch) (hl : Chs w a m l) (hs : ShortR l) (hi : ∀ x ∈ l, 0 ≤ x.2 ∧ x.2 ≤ 18446744073709551615) (hm : m ≤ 1000) (hfit : (fileB rs).length ≤ 3000000) (hw : S.wr ≤ 1000000000) :
    Calls Try.prog 8 #[.pointer (some ⟨r, 0, none⟩), .slice a m c] w fun e w' => ∃ er g' n' rs' S' F' G' dead, e = .returned (.int .i64 er) ∧ SetC w w' r d g g' n n' rs rs' S S' F G F' G' dead l m er := by
  have hn := hN.2
  obtain ⟨j, b, M, FJ, hr⟩ := h.rf
  by_cases he : chkR g n l = 0
  · by_cases hnw : newsR g l = []
    · refine (rset_same w r d j b M rs g n _ false FJ F hr a m c l hl hs (by omega) (by omega) he hnw).mono ?_
      rintro e w' ⟨hee, hB⟩
      exact ⟨_, g, n, rs, S, F, G, false, hee, Turn.of_below _ hB, h.below hB, hN, fun _ hk => .inl hk, fun _ hk => .inl hk, by omega, by omega, .inl ⟨rfl, he.symm, fun e => absurd he e, fun _ => by rw [hnw]; rfl⟩, fun hc => ⟨rfl, hc⟩⟩
    · have hsh : ∀ x ∈ newsR g l, x.1.size ≤ 200 := fun x hx => chkFrom_short g l _ _ he x (newsR_sub g l x hx)
      have hNl : (newsR g l).length ≤ m := by rw [← hl.1]; exact List.length_filter_le _ _
      have hrb := encR_bound (newsR g l) hsh
      have hb2 : (newsR g l).length * 218 ≤ m * 218 := Nat.mul_le_mul hNl (Nat.le_refl _)
      have hb3 : m * 218 ≤ 1000 * 218 := Nat.mul_le_mul hm (Nat.le_refl _)
      have hw0 := h.cg.whole
      have hSn := h.cg.n
      obtain ⟨hcase, hwr⟩ := h.cg.app refNm_name (encR (newsR g l)) (encR_len _ hsh (by omega)) (by omega)
      have hfree := fun hc => h.cg.freeR refNm_name hc (encR (newsR g l)) (by omega)
      have hld := loadR_snoc h.ld (newsR g l) hnw (fun x hx => ⟨hsh x hx, hi x (newsR_sub g l x hx)⟩) (by omega) (chkR_news he)
      refine (rset_new w r d j b M rs g n _ FJ F hr S G h.dk h.dis a m c l hl hs hi hm (by omega) he hnw (by rw [hw0]; omega) (by rw [hw0]; exact Nat.le_refl _) (by omega) (by omega)).mono ?_
      rintro e w' ⟨hee, hT, M', FJ', G', hd', hF', hG', hFG', hc⟩
      have hT' : Turn (fun k => F k ∨ G k) w w' := hT.wide (fun k hk => by
        rcases hk with hk | hk | hk
        · exact .inl (hr.fj k hk)
        · exact .inr hk
        · exact .inl (hk ▸ hr.fs.2))
      have hFF : ∀ k, (F k ∨ FJ' k) → F k ∨ w.heap.size ≤ k := fun k hk => hk.elim .inl (fun hk => (hF' k hk).imp (hr.fj k) id)
      rcases hcase with ⟨h0, hcg⟩ | ⟨h6, hcg⟩
      · rcases hc with ⟨_, hR⟩ | ⟨hne, _⟩
        · refine ⟨0, _, _, _, _, _, G', false, by rw [hee, h0], hT', ⟨⟨j, b, M', FJ', ?_⟩, hd', hFG', hcg, hld⟩, hN.set h.cnt (chkR_news he), hFF, hG', ?_, by omega, .inl ⟨rfl, he.symm, fun e => absurd he e, fun _ => rfl⟩, fun hcf => ⟨rfl, (hfree hcf).2⟩⟩
          · rw [fileB_snoc, List.length_append]; exact hR
          · rw [fileB_snoc, List.length_append]; omega
        · exact absurd h0 hne
      · rcases hc with ⟨h0, _⟩ | ⟨_, hR⟩
        · rw [h6] at h0; cases h0
        · rw [h6] at hR
          exact ⟨6, g, n, rs, _, _, G', true, by rw [hee, h6], hT', ⟨⟨j, b, M', FJ', hR⟩, hd', hFG', hcg, h.ld⟩, hN, hFF, hG', by omega, by omega, .inr ⟨rfl, rfl, he, rfl, rfl⟩, fun hcf => by have := (hfree hcf).1; rw [h6] at this; cases this⟩
  · refine (rset_bad w r d j b M rs g n _ false FJ F hr a m c l hl hs (by omega) (by omega) he).mono ?_
    rintro e w' ⟨hee, hB⟩
    exact ⟨_, g, n, rs, S, F, G, false, hee, Turn.of_below _ hB, h.below hB, hN, fun _ hk => .inl hk, fun _ hk => .inl hk, by omega, by omega, .inl ⟨rfl, rfl, fun _ => ⟨rfl, rfl⟩, fun e => absurd e he⟩, fun hc => ⟨rfl, hc⟩⟩
/-- Open on a disk that is not cut -/
theorem ropen_c (w : World) (d : Nat) (g : List UInt8 → Int) (n : Nat) (rs : List (List UInt8)) (S : DG) (G : Nat → Prop) (dead : Bool) (hd : IsDisk w d S G) (hg : CG S refNm.data.toList rs dead) (hc : S.cut = false) (hld : loadR decRf rs noR = some (g, n)) (hfit : (fileB rs).length ≤ 3500000) (hw : S.wr ≤ 1000000000) :
    Calls Try.prog 7 #[.pointer (some ⟨d, 0, none⟩)] w fun e w' => ∃ r S' F G', e = .returned (.tuple #[.pointer (some ⟨r, 0, none⟩), .int .i64 0]) ∧ RfC w' r d g n rs S' F G' false ∧ S'.cut = false ∧ S'.wr ≤ S.wr + 1 ∧ Turn G w w' ∧ (∀ k, F k → w.heap.size ≤ k) ∧ (∀ k, G' k → G k ∨ w.heap.size ≤ k) := by
  have hSn := hg.n
  have hlen := hg.len
  have hpa := hg.parse
  obtain ⟨ho, hcg, hwr, hct⟩ := hg.opened hc
  refine (ropen_any w d S G decRf (by rw [hpa]; exact decOk rs (fun p hp => by have := hg.all p hp; omega)) hd (by omega) (by omega) (by unfold maxLen; omega)).mono ?_
  rintro e w' ⟨hT, G', hd', hG', hcs⟩
  rw [ho, hpa] at hcs
  simp only at hcs
  rw [hld] at hcs
  rcases hcs with ⟨h0, _⟩ | ⟨_, h0, _⟩ | ⟨_, g', n', r, j, b, M, FJ, F, h0, h1, he, hR, hF, hFG⟩
  · exact absurd rfl h0
  · cases h0
  · cases h0
    exact ⟨r, _, F, G', he, ⟨⟨j, b, M, FJ, hR⟩, hd', hFG, hcg, hld⟩, hct, hwr, hT, hF, hG'⟩
end Go.Proofs.Ytiafhbpklddlnaa
