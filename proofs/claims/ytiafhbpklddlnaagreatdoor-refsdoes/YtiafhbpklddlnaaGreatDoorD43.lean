import Derived.Test.YtiafhbpklddlnaaGreatDoorD35
/- A Set of whatever changes, on refs whose disk is not cut: one contract for all that it may answer. -/
namespace Go.Proofs.YtiafhbpklddlnaaGreatDoor
open Go.RowKit Go.Shelf Go.Maps

theorem encR_bound (l : List Ch) (h : ∀ x ∈ l, x.1.size ≤ 200) : (recB (encR l)).length ≤ l.length * 218 + 30 := by
  have h1 := chsB_len l h
  have h2 := (recB_pos (encR l)).2
  have h3 := short_len l.length
  have h4 : (encR l).length = (short l.length).length + (chsB l).length := by simp [encR]
  omega
theorem applyR_nil (q : (List UInt8 → Int) × Nat) : applyR q [] = q := rfl
theorem RfG.cnt {w : World} {r d : Nat} {g : List UInt8 → Int} {n : Nat} {rs : List (List UInt8)} {S : DG} {F G : Nat → Prop} (h : RfG w r d g n rs S F G) : CntR g n := by
  obtain ⟨j, b, M, FJ, hr⟩ := h.rf
  exact hr.cnt
/-- the records behind a Set -/
def recR (g : List UInt8 → Int) (n : Nat) (rs : List (List UInt8)) (l : List Ch) : List (List UInt8) := if chkR g n l = 0 ∧ newsR g l ≠ [] then rs ++ [encR (newsR g l)] else rs
/-- what lies behind a Set -/
structure SetG (w w' : World) (r d : Nat) (g g' : List UInt8 → Int) (n n' : Nat) (rs rs' : List (List UInt8)) (S S' : DG) (F G F' G' : Nat → Prop) (l : List Ch) (m : Nat) : Prop where
  tn : Turn (fun k => F k ∨ G k) w w'
  rf : RfG w' r d g' n' rs' S' F' G'
  nm : NamesR g' n'
  hF : ∀ k, F' k → F k ∨ w.heap.size ≤ k
  hG : ∀ k, G' k → G k ∨ w.heap.size ≤ k
  bad : chkR g n l ≠ 0 → g' = g ∧ n' = n
  good : chkR g n l = 0 → (g', n') = applyR (g, n) (newsR g l)
  len : (fileB rs').length ≤ (fileB rs).length + m * 218 + 30
  same : newsR g l = [] → S' = S
  recs : rs' = recR g n rs l
theorem rset_g (w : World) (r d : Nat) (g : List UInt8 → Int) (n : Nat) (rs : List (List UInt8)) (S : DG) (F G : Nat → Prop) (h : RfG w r d g n rs S F G) (hN : NamesR g n) (a : Option Addr) (m c : Nat) (l : List Ch) (hl : Chs w a m l) (hs : ShortR l) (hi : ∀ x ∈ l, 0 ≤ x.2 ∧ x.2 ≤ 18446744073709551615) (hm : m ≤ 1000) (hfit : (fileB rs).length ≤ 3000000) :
    Calls Tryz.prog 9 #[.pointer (some ⟨r, 0, none⟩), .slice a m c] w fun e w' => e = .returned (.int .i64 (chkR g n l)) ∧ ∃ g' n' rs' S' F' G', SetG w w' r d g g' n n' rs rs' S S' F G F' G' l m := by
  have hn := hN.2
  by_cases he : chkR g n l = 0
  · by_cases hnw : newsR g l = []
    · obtain ⟨j, b, M, FJ, hr⟩ := h.rf
      refine (rset_same w r d j b M rs g n _ false FJ F hr a m c l hl hs (by omega) (by omega) he hnw).mono ?_
      rintro e w' ⟨hee, hB⟩
      exact ⟨by rw [he]; exact hee, g, n, rs, S, F, G, Turn.of_below _ hB, h.below hB, hN, fun _ hk => .inl hk, fun _ hk => .inl hk, fun e => absurd he e, fun _ => by rw [hnw]; rfl, by omega, fun _ => rfl, by unfold recR; rw [if_neg (fun h => h.2 hnw)]⟩
    · have hsh : ∀ x ∈ newsR g l, x.1.size ≤ 200 := fun x hx => chkFrom_short g l _ _ he x (newsR_sub g l x hx)
      have hNl : (newsR g l).length ≤ m := by rw [← hl.1]; exact List.length_filter_le _ _
      have hrb := encR_bound (newsR g l) hsh
      have hb2 : (newsR g l).length * 218 ≤ m * 218 := Nat.mul_le_mul hNl (Nat.le_refl _)
      have hb3 : m * 218 ≤ 1000 * 218 := Nat.mul_le_mul hm (Nat.le_refl _)
      refine (rset_good w r d g n rs S F G h a m c l hl hs hi hm (by omega) he hnw (by omega)).mono ?_
      rintro e w' ⟨hee, hT, S', F', G', hR, hF', hG'⟩
      refine ⟨by rw [he]; exact hee, _, _, _, S', F', G', hT, hR, ?_, hF', hG', fun e => absurd he e, fun _ => rfl, ?_, fun e => absurd e hnw, by unfold recR; rw [if_pos ⟨he, hnw⟩]⟩
      · exact hN.set h.cnt (chkR_news he)
      · rw [fileB_snoc, List.length_append]; omega
  · obtain ⟨j, b, M, FJ, hr⟩ := h.rf
    refine (rset_bad w r d j b M rs g n _ false FJ F hr a m c l hl hs (by omega) (by omega) he).mono ?_
    rintro e w' ⟨hee, hB⟩
    exact ⟨hee, g, n, rs, S, F, G, Turn.of_below _ hB, h.below hB, hN, fun _ hk => .inl hk, fun _ hk => .inl hk, fun _ => ⟨rfl, rfl⟩, fun e => absurd e he, by omega, fun _ => rfl, by unfold recR; rw [if_neg (fun h => he h.1)]⟩
end Go.Proofs.YtiafhbpklddlnaaGreatDoor
