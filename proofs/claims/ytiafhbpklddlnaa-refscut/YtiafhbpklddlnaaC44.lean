import Derived.Test.YtiafhbpklddlnaaC43
import Derived.Test.YtiafhbpklddlnaaC35
/- A Set of whatever changes, on refs whose disk is not cut: one contract for all that it may answer. -/
namespace Go.Proofs.Ytiafhbpklddlnaa
open Go.RowKit Go.Shelf Go.Maps

theorem encR_bound (l : List Ch) (h : ∀ x ∈ l, x.1.size ≤ 200) : (recB (encR l)).length ≤ l.length * 218 + 30 := by
  have h1 := chsB_len l h
  have h2 := (recB_pos (encR l)).2
  have h3 := short_len l.length
  have h4 : (encR l).length = (short l.length).length + (chsB l).length := by simp [encR]
  omega
theorem applyR_nil (q : (List UInt8 → Int) × Nat) : applyR q [] = q := rfl
theorem RfG.cnt {w : World} {r d : Nat} {g : List UInt8 → Int} {n : Nat} {rs : List (List UInt8)} {S : DG} {F G : Nat → Prop} (h : RfG w r d g n rs S F G) : CntR g n := by
  obtain ⟨j, b, M, FJ, hr⟩ := h.rf
  exact hr.cnt
/-- what lies behind a Set -/
structure SetG (w w' : World) (r d : Nat) (g g' : List UInt8 → Int) (n n' : Nat) (rs rs' : List (List UInt8)) (S S' : DG) (F G F' G' : Nat → Prop) (l : List Ch) (m : Nat) : Prop where
  tn : Turn (fun k => F k ∨ G k) w w'
  rf : RfG w' r d g' n' rs' S' F' G'
  nm : NamesR g' n'
  hF : ∀ k, F' k → F k ∨ w.heap.size ≤ k
  hG : ∀ k, G' k → G k ∨ w.heap.size ≤ k
  bad : chkR g n l ≠ 0 → g' = g ∧ n' = n
  good : chkR g n l = 0 → (g', n') = applyR (g, n) (newsR g l)
  len : (fileB rs').length ≤ (fileB rs).length + m * 218 + 30
  same : newsR g l = [] → S' = S
theorem rset_g (w : World) (r d : Nat) (g : List UInt8 → Int) (n : Nat) (rs : List (List UInt8)) (S : DG) (F G : Nat → Prop) (h : RfG w r d g n rs S F G) (hN : NamesR g n) (a : Option Addr) (m c : Nat) (l : List Ch) (hl : Chs w a m l) (hs : ShortR l) (hi : ∀ x ∈ l, 0 ≤ x.2 ∧ x.2 ≤ 18446744073709551615) (hm : m ≤ 1000) (hfit : (fileB rs).length ≤ 3000000) :
    Calls Try.prog 8 #[.pointer (some ⟨r, 0, none⟩), .slice a m c] w fun e w' => e = .returned (.int .i64 (chkR g n l)) ∧ ∃ g' n' rs' S' F' G', SetG w w' r d g g' n n' rs rs' S S' F G F' G' l m := by
  have hn := hN.2
  by_cases he : chkR g n l = 0
  · by_cases hnw : newsR g l = []
    · obtain ⟨j, b, M, FJ, hr⟩ := h.rf
      refine (rset_same w r d j b M rs g n _ false FJ F hr a m c l hl hs (by omega) (by omega) he hnw).mono ?_
      rintro e w' ⟨hee, hB⟩
      exact ⟨by rw [he]; exact hee, g, n, rs, S, F, G, Turn.of_below _ hB, h.below hB, hN, fun _ hk => .inl hk, fun _ hk => .inl hk, fun e => absurd he e, fun _ => by rw [hnw]; rfl, by omega, fun _ => rfl⟩
    · have hsh : ∀ x ∈ newsR g l, x.1.size ≤ 200 := fun x hx => chkFrom_short g l _ _ he x (newsR_sub g l x hx)
      have hNl : (newsR g l).length ≤ m := by rw [← hl.1]; exact List.length_filter_le _ _
      have hrb := encR_bound (newsR g l) hsh
      have hb2 : (newsR g l).length * 218 ≤ m * 218 := Nat.mul_le_mul hNl (Nat.le_refl _)
      have hb3 : m * 218 ≤ 1000 * 218 := Nat.mul_le_mul hm (Nat.le_refl _)
      refine (rset_good w r d g n rs S F G h a m c l hl hs hi hm (by omega) he hnw (by omega)).mono ?_
      rintro e w' ⟨hee, hT, S', F', G', hR, hF', hG'⟩
      refine ⟨by rw [he]; exact hee, _, _, _, S', F', G', hT, hR, ?_, hF', hG', fun e => absurd he e, fun _ => rfl, ?_, fun e => absurd e hnw⟩
      · exact hN.set h.cnt (chkR_news he)
      · rw [fileB_snoc, List.length_append]; omega
  · obtain ⟨j, b, M, FJ, hr⟩ := h.rf
    refine (rset_bad w r d j b M rs g n _ false FJ F hr a m c l hl hs (by omega) (by omega) he).mono ?_
    rintro e w' ⟨hee, hB⟩
    exact ⟨hee, g, n, rs, S, F, G, Turn.of_below _ hB, h.below hB, hN, fun _ hk => .inl hk, fun _ hk => .inl hk, fun _ => ⟨rfl, rfl⟩, fun e => absurd e he, by omega, fun _ => rfl⟩
end Go.Proofs.Ytiafhbpklddlnaa

/- Plain: a disk that may be cut, with a file that is a row of records and perhaps a beginning of one more: what Append and Open make of it. -/
namespace Go.Proofs.Ytiafhbpklddlnaa
open Go.RowKit

/-- what raw writes of bytes leave: all of them, or a beginning -/
theorem pieces_any_cut : ∀ (k : Nat) (S : DG) (nm l : List UInt8), l.length + 1 ≤ k → l ≠ [] → S.n ≤ 1 → (S.f nm = none → S.n = 0) →
    (((pieces k S nm l).2 = 0 ∧ (pieces k S nm l).1.bs nm = S.bs nm ++ l) ∨ ((pieces k S nm l).2 = 6 ∧ ∃ t, t < l.length ∧ (pieces k S nm l).1.bs nm = S.bs nm ++ l.take t)) ∧
      (pieces k S nm l).1.n ≤ 1 ∧ ((pieces k S nm l).1.f nm = none → (pieces k S nm l).1.n = 0) ∧ (pieces k S nm l).1.wr ≤ S.wr + l.length ∧ (∀ x, x ≠ nm → (pieces k S nm l).1.f x = S.f x) := by
  intro k
  induction k with
  | zero => intro S nm l h; omega
  | succ k ih =>
    intro S nm l hk hl hn h0
    have hpos : 0 < l.length := List.length_pos_iff.2 hl
    have hadd : ∀ bs, (S.done.add nm bs).bs nm = S.bs nm ++ bs ∧ (S.done.add nm bs).n ≤ 1 ∧ (S.done.add nm bs).f nm ≠ none ∧ (S.done.add nm bs).wr = S.wr + 1 ∧ (∀ x, x ≠ nm → (S.done.add nm bs).f x = S.f x) := by
      intro bs
      refine ⟨?_, ?_, ?_, rfl, fun x hx => ?_⟩
      · show ((if nm = nm then some _ else _) : Option (List UInt8)).getD [] = _
        rw [if_pos rfl]; rfl
      · show (if (S.f nm).isSome then S.n else S.n + 1) ≤ 1
        cases hf : S.f nm with
        | none => rw [h0 hf]; simp
        | some _ => simpa using hn
      · show (if nm = nm then some _ else _) ≠ none
        rw [if_pos rfl]; simp
      · show (if x = nm then some _ else S.f x) = S.f x
        rw [if_neg hx]
    rw [pieces]
    by_cases hc : S.can = true
    · rw [if_pos hc]
      by_cases h32 : l.length ≤ 32
      · rw [if_pos h32]
        obtain ⟨h1, h2, h3, h4, h5⟩ := hadd l
        exact ⟨.inl ⟨rfl, h1⟩, h2, fun e => absurd e h3, by rw [h4]; omega, h5⟩
      · rw [if_neg h32]
        obtain ⟨h1, h2, h3, h4, h5⟩ := hadd (l.take 32)
        obtain ⟨hcase, g1, g2, g3, g4⟩ := ih (S.done.add nm (l.take 32)) nm (l.drop 32) (by rw [List.length_drop]; omega) (fun e => by have := congrArg List.length e; rw [List.length_drop] at this; simp at this; omega) h2 (fun e => absurd e h3)
        refine ⟨?_, g1, g2, ?_, fun x hx => (g4 x hx).trans (h5 x hx)⟩
        · rcases hcase with ⟨e, hb⟩ | ⟨e, t, ht, hb⟩
          · exact .inl ⟨e, by rw [hb, h1, List.append_assoc, List.take_append_drop]⟩
          · refine .inr ⟨e, 32 + t, by rw [List.length_drop] at ht; omega, ?_⟩
            rw [hb, h1, List.append_assoc, ← List.take_add]
        · rw [h4, List.length_drop] at g3; omega
    · rw [if_neg hc]
      exact ⟨.inr ⟨rfl, 0, hpos, by simp⟩, hn, h0, by show S.wr ≤ _; omega, fun _ _ => rfl⟩

/-- the file of that name has these records, and perhaps, where the Journal is dead, a beginning of one more -/
structure CG (S : DG) (nm : List UInt8) (ds : List (List UInt8)) (dead : Bool) : Prop where
  bs : ∃ t p, S.bs nm = fileB ds ++ (recB p).take t ∧ t < (recB p).length ∧ p.length ≤ 262144 ∧ (dead = false → t = 0)
  n : S.n ≤ 1
  n0 : S.f nm = none → S.n = 0
  all : ∀ r ∈ ds, r.length ≤ 262144
  only : ∀ x, x ≠ nm → S.f x = none

theorem CG.parse {S : DG} {nm : List UInt8} {ds : List (List UInt8)} {dead : Bool} (h : CG S nm ds dead) : parseL (S.bs nm) = (ds, (fileB ds).length, false) := by
  obtain ⟨t, p, e, h1, h2, _⟩ := h.bs
  rw [e]; exact parseL_torn ds p t h.all h2 h1

theorem CG.len {S : DG} {nm : List UInt8} {ds : List (List UInt8)} {dead : Bool} (h : CG S nm ds dead) : (fileB ds).length ≤ (S.bs nm).length ∧ (S.bs nm).length ≤ (fileB ds).length + 262162 := by
  obtain ⟨t, p, e, h1, h2, _⟩ := h.bs
  have := (recB_pos p).2
  rw [e, List.length_append, List.length_take]
  omega

theorem CG.whole {S : DG} {nm : List UInt8} {ds : List (List UInt8)} (h : CG S nm ds false) : S.bs nm = fileB ds := by
  obtain ⟨t, p, e, _, _, h3⟩ := h.bs
  rw [h3 rfl] at e
  simpa using e

theorem CG.same {S S' : DG} {nm : List UInt8} {ds : List (List UInt8)} {dead : Bool} (h : CG S nm ds dead) (hf : S'.f = S.f) (hn : S'.n = S.n) : CG S' nm ds dead := by
  have hb : S'.bs nm = S.bs nm := by unfold DG.bs; rw [hf]
  exact ⟨by rw [hb]; exact h.bs, by rw [hn]; exact h.n, by rw [hf, hn]; exact h.n0, h.all, by rw [hf]; exact h.only⟩

theorem CG.of_whole {S : DG} {nm : List UInt8} {ds : List (List UInt8)} (dead : Bool) (hb : S.bs nm = fileB ds) (hn : S.n ≤ 1) (h0 : S.f nm = none → S.n = 0) (ha : ∀ r ∈ ds, r.length ≤ 262144) (ho : ∀ x, x ≠ nm → S.f x = none) : CG S nm ds dead :=
  ⟨⟨0, [], by simp [hb], by have := (recB_pos []).1; omega, by simp, fun _ => rfl⟩, hn, h0, ha, ho⟩

theorem CG.opened {S : DG} {nm : List UInt8} {ds : List (List UInt8)} {dead : Bool} (h : CG S nm ds dead) (hc : S.cut = false) : (S.opened nm).2 = 0 ∧ CG (S.opened nm).1 nm ds false ∧ (S.opened nm).1.wr ≤ S.wr + 1 ∧ (S.opened nm).1.cut = false := by
  have hp := h.parse
  have hl := h.len
  unfold DG.opened
  rw [hp, if_neg (by simp)]
  by_cases e : (fileB ds).length < (S.bs nm).length
  · rw [if_pos e, trunc_err S nm _ (by omega) e, if_pos (by unfold DG.can; rw [hc]; rfl)]
    have hb : (S.done.set nm ((S.bs nm).take (fileB ds).length)).bs nm = fileB ds := by
      show ((if nm = nm then some _ else _) : Option (List UInt8)).getD [] = _
      rw [if_pos rfl]
      obtain ⟨t, p, e1, _⟩ := h.bs
      rw [e1]
      show (fileB ds ++ (recB p).take t).take (fileB ds).length = _
      exact List.take_left' rfl
    refine ⟨rfl, CG.of_whole false hb ?_ ?_ h.all (fun x hx => ?_), Nat.le_refl _, hc⟩
    · show (if (S.f nm).isSome then S.n else S.n + 1) ≤ 1
      cases hf : S.f nm with
      | none => rw [h.n0 hf]; simp
      | some _ => simpa using h.n
    · show (if nm = nm then some _ else _) = none → _
      rw [if_pos rfl]; simp
    · show (if x = nm then some _ else S.f x) = none
      rw [if_neg hx]; exact h.only x hx
  · rw [if_neg e]
    refine ⟨rfl, CG.of_whole false ?_ h.n h.n0 h.all h.only, by simp, hc⟩
    obtain ⟨t, p, e1, _⟩ := h.bs
    rw [e1, List.length_append] at e
    have : ((recB p).take t) = [] := List.eq_nil_of_length_eq_zero (by omega)
    rw [e1, this]; simp

theorem CG.app {S : DG} {nm : List UInt8} {ds : List (List UInt8)} (h : CG S nm ds false) (hnm : nameB nm = true) (l : List UInt8) (hl : l.length ≤ 262144) (hfit : (recB l).length + (fileB ds).length ≤ 4194304) :
    (((S.app nm (recB l)).2 = 0 ∧ CG (S.app nm (recB l)).1 nm (ds ++ [l]) false) ∨ ((S.app nm (recB l)).2 = 6 ∧ CG (S.app nm (recB l)).1 nm ds true)) ∧ (S.app nm (recB l)).1.wr ≤ S.wr + (recB l).length := by
  have hw := h.whole
  have hn := h.n
  have he : S.app nm (recB l) = pieces ((recB l).length + 1) S nm (recB l) := by
    unfold DG.app
    rw [if_neg (by rw [hnm]; decide), if_neg (by rw [hw]; intro e; rcases e with e | e <;> omega), if_neg (by simp [recB_ne])]
  rw [he]
  obtain ⟨hcase, g1, g2, g3, g4⟩ := pieces_any_cut ((recB l).length + 1) S nm (recB l) (Nat.le_refl _) (recB_ne l) hn h.n0
  refine ⟨?_, g3⟩
  rcases hcase with ⟨e, hb⟩ | ⟨e, t, ht, hb⟩
  · refine .inl ⟨e, CG.of_whole false (by rw [hb, hw, fileB_snoc]) g1 g2 (fun r hr => ?_) (fun x hx => (g4 x hx).trans (h.only x hx))⟩
    rcases List.mem_append.1 hr with hr | hr
    · exact h.all r hr
    · simp at hr; subst hr; exact hl
  · exact .inr ⟨e, ⟨t, l, by rw [hb, hw], ht, hl, by simp⟩, g1, g2, h.all, fun x hx => (g4 x hx).trans (h.only x hx)⟩

end Go.Proofs.Ytiafhbpklddlnaa
