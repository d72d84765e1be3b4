import Derived.Test.YtcbmofapnjdmgaaDoorDD25
import Derived.Test.YtcbmofapnjdmgaaDoorDD18
import Derived.Test.YtcbmofapnjdmgaaDoorDD16
import Derived.Test.YtcbmofapnjdmgaaDoorDD21
/- The reference disk's Append. -/
namespace Go.Proofs.YtcbmofapnjdmgaaDoor
open Go.RowKit Go.Maps

theorem rappend_any (p : Nat) (S : DG) (Fp : Nat → Prop) (w : World) (s : ByteArray) (a : Option Addr) (m c : Nat) (l : List UInt8) (h : IsRef w p S Fp) (hs : s.size ≤ maxLen) (hb : Bytes w a m l) (hmc : m ≤ c) (hnil : a = none → m = 0 ∧ c = 0)
    (ha : 0 < m → ∀ x, a = some x → ¬ Fp x.block ∧ x.block < w.heap.size) (hbs : (S.bs s.data.toList).length ≤ 4194304) (hn : S.n ≤ 256) (hw : S.wr < 4000000000000000000) (hl : S.left ≤ 9223372036854775807) (hm : m ≤ 9223372036854775807) :
    Calls Tryd.prog 22 #[.pointer (some ⟨p, 0, none⟩), .string s, .slice a m c] w fun e w' => e = .returned (.int .i64 (S.app s.data.toList l).2) ∧ IsRef w' p (S.app s.data.toList l).1 (grow Fp w w') ∧ Turn Fp w w' := by
  cases hf : S.f s.data.toList with
  | none => exact rappend_none p S Fp w s a m c l h hs hb hmc hnil ha hbs hn hw hl hm hf
  | some bs => exact rappend_some p S Fp w s a m c l h hs hb hmc hnil ha hbs hn hw hl hm bs hf

end Go.Proofs.YtcbmofapnjdmgaaDoor

/- What is done to two disks, the one cut, the other not: plain facts, no memory. -/
namespace Go.Proofs.YtcbmofapnjdmgaaDoor
open Go.RowKit Go.Maps

/-- the same was done to both; the second does so many raw writes in all -/
structure Rel (N : Nat) (D E : DG) : Prop where
  f : D.f = E.f
  n : D.n = E.n
  wr : D.wr = E.wr
  dc : D.cut = false
  ec : E.cut = true
  left : E.left + E.wr = N

/-- where a call leaves the two -/
def Met (N : Nat) (A B : DG × Int) : Prop := (A.1.wr ≤ N ∧ A.2 = B.2 ∧ Rel N A.1 B.1) ∨ (N < A.1.wr ∧ A.2 = 0 ∧ B.2 = 6 ∧ B.1.wr = N ∧ B.1.left = 0 ∧ B.1.cut = true)

theorem Rel.same {N : Nat} {D E : DG} (h : Rel N D E) (x : Int) : Met N (D, x) (E, x) := .inl ⟨by have := h.left; have := h.wr; show D.wr ≤ N; omega, rfl, h⟩
theorem Rel.bs {N : Nat} {D E : DG} (h : Rel N D E) (l : List UInt8) : D.bs l = E.bs l := by simp [DG.bs, h.f]
theorem Rel.can {N : Nat} {D E : DG} (h : Rel N D E) : D.can = true := by simp [DG.can, h.dc]
theorem Rel.ecan {N : Nat} {D E : DG} (h : Rel N D E) : E.can = true ↔ E.left ≠ 0 := by simp [DG.can, h.ec]
theorem Rel.done {N : Nat} {D E : DG} (h : Rel N D E) (hl : E.left ≠ 0) : Rel N D.done E.done := by
  have h1 := h.left
  have h2 := h.wr
  refine ⟨h.f, h.n, by simp [DG.done, h2], h.dc, h.ec, ?_⟩
  simp only [DG.done, h.ec, if_true]
  omega
theorem Rel.set {N : Nat} {D E : DG} (h : Rel N D E) (l bs : List UInt8) : Rel N (D.set l bs) (E.set l bs) :=
  ⟨by simp [DG.set, h.f], by simp [DG.set, h.f, h.n], h.wr, h.dc, h.ec, h.left⟩
theorem Rel.add {N : Nat} {D E : DG} (h : Rel N D E) (l bs : List UInt8) : Rel N (D.add l bs) (E.add l bs) := by
  unfold DG.add
  rw [h.f]
  exact h.set _ _
theorem Rel.rem {N : Nat} {D E : DG} (h : Rel N D E) (l : List UInt8) : Rel N (D.rem l) (E.rem l) :=
  ⟨by simp [DG.rem, h.f], by simp [DG.rem, h.f, h.n], h.wr, h.dc, h.ec, h.left⟩

/-- one raw write -/
theorem Rel.one {N : Nat} {D E A B : DG} (h : Rel N D E) (hA : A.wr = D.wr + 1) (hAB : E.left ≠ 0 → Rel N A B) : Met N (A, 0) (if E.can = true then (B, 0) else (E, 6)) := by
  have h1 := h.left
  have h2 := h.wr
  by_cases hl : E.left = 0
  · rw [if_neg (by rw [h.ecan]; simp [hl])]
    exact .inr ⟨by show N < A.wr; omega, rfl, rfl, by show E.wr = N; omega, hl, h.ec⟩
  · rw [if_pos (h.ecan.2 hl)]
    refine .inl ⟨?_, rfl, hAB hl⟩
    show A.wr ≤ N
    omega

theorem Rel.pieces {N : Nat} : ∀ (k : Nat) (D E : DG) (nm l : List UInt8), Rel N D E → l.length + 1 ≤ k → Met N (pieces k D nm l) (pieces k E nm l) := by
  intro k
  induction k with
  | zero => intro D E nm l _ h; omega
  | succ k ih =>
    intro D E nm l h hk
    have h1 := h.left
    have h2 := h.wr
    by_cases hl : E.left = 0
    · have he : Go.Proofs.YtcbmofapnjdmgaaDoor.pieces (k + 1) E nm l = (E, 6) := by rw [Go.Proofs.YtcbmofapnjdmgaaDoor.pieces, if_neg (by rw [h.ecan]; simp [hl])]
      rw [he, pieces_free _ D nm l h.dc hk]
      refine .inr ⟨?_, rfl, rfl, by show E.wr = N; omega, hl, h.ec⟩
      show N < D.wr + (if l = [] then 1 else (l.length + 31) / 32)
      split
      · omega
      · rename_i h0
        have : l.length ≠ 0 := fun h' => h0 (List.eq_nil_of_length_eq_zero h')
        omega
    · rw [Go.Proofs.YtcbmofapnjdmgaaDoor.pieces, if_pos h.can]
      rw [Go.Proofs.YtcbmofapnjdmgaaDoor.pieces, if_pos (h.ecan.2 hl)]
      split
      · exact ((h.done hl).add nm l).same 0
      · exact ih _ _ nm _ ((h.done hl).add nm _) (by simp; omega)

theorem Rel.step {N : Nat} {D E : DG} (h : Rel N D E) (o : GOp) (l : List UInt8) : Met N (D.step o l) (E.step o l) := by
  unfold DG.step
  split
  · unfold DG.app
    rw [h.bs, h.f, h.n]
    split
    · exact h.same 2
    · split
      · exact h.same 3
      · split
        · exact h.same 0
        · exact Rel.pieces _ _ _ _ _ h (Nat.le_refl _)
  · split
    · unfold DG.trunc
      rw [h.bs, h.f]
      split
      · exact h.same 4
      · split
        · exact h.same 2
        · split
          · exact h.same 0
          · rw [if_pos h.can]
            exact h.one rfl (fun hl => (h.done hl).set _ _)
    · split
      · unfold DG.renam
        rw [h.bs, h.f]
        split
        · exact h.same 2
        · split
          · exact h.same 4
          · split
            · exact h.same 0
            · rw [if_pos h.can]
              exact h.one rfl (fun hl => ((h.done hl).rem _).set _ _)
      · unfold DG.remove
        rw [h.f]
        split
        · exact h.same 4
        · rw [if_pos h.can]
          exact h.one rfl (fun hl => (h.done hl).rem _)

/-- a disk that does none more stays what it is; it answers what its copy answers, or ErrCut where the copy is written -/
theorem still (E : DG) (hc : E.cut = true) (hl : E.left = 0) (o : GOp) (l : List UInt8) : (E.step o l).1 = E ∧ ((0 < (E.copy.step o l).1.wr ∧ (E.step o l).2 = 6) ∨ ((E.copy.step o l).1.wr = 0 ∧ (E.step o l).2 = (E.copy.step o l).2)) := by
  have hcan : ¬ E.can = true := by simp [DG.can, hc, hl]
  have ccan : E.copy.can = true := rfl
  have hf : E.copy.f = E.f := rfl
  have hb : ∀ x, E.copy.bs x = E.bs x := fun _ => rfl
  have hnn : E.copy.n = E.n := rfl
  unfold DG.step
  split
  · unfold DG.app
    rw [hb, hf, hnn]
    split
    · exact ⟨rfl, .inr ⟨rfl, rfl⟩⟩
    · split
      · exact ⟨rfl, .inr ⟨rfl, rfl⟩⟩
      · split
        · exact ⟨rfl, .inr ⟨rfl, rfl⟩⟩
        · have he : pieces (l.length + 1) E o.name.data.toList l = (E, 6) := by rw [pieces, if_neg hcan]
          rw [he, pieces_free _ E.copy _ l rfl (Nat.le_refl _)]
          refine ⟨rfl, .inl ⟨?_, rfl⟩⟩
          show 0 < 0 + (if l = [] then 1 else (l.length + 31) / 32)
          split
          · omega
          · rename_i h0
            have : l.length ≠ 0 := fun h' => h0 (List.eq_nil_of_length_eq_zero h')
            omega
  · split
    · unfold DG.trunc
      rw [hb, hf]
      split
      · exact ⟨rfl, .inr ⟨rfl, rfl⟩⟩
      · split
        · exact ⟨rfl, .inr ⟨rfl, rfl⟩⟩
        · split
          · exact ⟨rfl, .inr ⟨rfl, rfl⟩⟩
          · exact ⟨rfl, .inl ⟨Nat.one_pos, rfl⟩⟩
    · split
      · unfold DG.renam
        rw [hb, hf]
        split
        · exact ⟨rfl, .inr ⟨rfl, rfl⟩⟩
        · split
          · exact ⟨rfl, .inr ⟨rfl, rfl⟩⟩
          · split
            · exact ⟨rfl, .inr ⟨rfl, rfl⟩⟩
            · exact ⟨rfl, .inl ⟨Nat.one_pos, rfl⟩⟩
      · unfold DG.remove
        rw [hf]
        split
        · exact ⟨rfl, .inr ⟨rfl, rfl⟩⟩
        · exact ⟨rfl, .inl ⟨Nat.one_pos, rfl⟩⟩

/-! ### limits -/
structure Fine (S : DG) (b : Nat) : Prop where
  bs : ∀ x, (S.bs x).length ≤ 4194304
  n : S.n ≤ 256
  wr : S.wr ≤ b

theorem Fine.more {S : DG} {b c : Nat} (h : Fine S b) (hbc : b ≤ c) : Fine S c := ⟨h.bs, h.n, Nat.le_trans h.wr hbc⟩
theorem Fine.done {S : DG} {b : Nat} (h : Fine S b) : Fine S.done (b + 1) := ⟨h.bs, h.n, by have := h.wr; show S.wr + 1 ≤ b + 1; omega⟩
theorem Fine.rem {S : DG} {b : Nat} (h : Fine S b) (l : List UInt8) : Fine (S.rem l) b := by
  refine ⟨fun x => ?_, ?_, h.wr⟩
  · simp only [DG.rem, DG.bs]
    split
    · simp
    · exact h.bs x
  · simp only [DG.rem]
    have := h.n
    split <;> omega
theorem Fine.set {S : DG} {b : Nat} (h : Fine S b) (l bs : List UInt8) (hl : bs.length ≤ 4194304) (hn : S.f l = none → S.n < 256) : Fine (S.set l bs) b := by
  refine ⟨fun x => ?_, ?_, h.wr⟩
  · simp only [DG.set, DG.bs]
    split
    · exact hl
    · exact h.bs x
  · show (if (S.f l).isSome = true then S.n else S.n + 1) ≤ 256
    have h1 := h.n
    split
    · exact h1
    · rename_i h0
      have := hn (by simpa using h0)
      omega
theorem Fine.pieces : ∀ (k : Nat) (S : DG) (b : Nat) (nm l : List UInt8), Fine S b → (S.bs nm).length + l.length ≤ 4194304 → (S.f nm = none → S.n < 256) → l.length + 1 ≤ k → Fine (pieces k S nm l).1 (b + l.length + 1) := by
  intro k
  induction k with
  | zero => intro S b nm l _ _ _ h; omega
  | succ k ih =>
    intro S b nm l h hl hn hk
    have ha : ∀ x : List UInt8, (S.bs nm).length + x.length ≤ 4194304 → Fine (S.done.add nm x) (b + 1) := fun x hx => h.done.set nm _ (by show ((S.f nm).getD [] ++ x).length ≤ _; rw [List.length_append]; exact hx) hn
    rw [Go.Proofs.YtcbmofapnjdmgaaDoor.pieces]
    split
    · split
      · exact (ha l hl).more (by omega)
      · rename_i h32
        refine (ih (S.done.add nm (l.take 32)) (b + 1) nm (l.drop 32) (ha _ (by simp; omega)) ?_ ?_ (by simp; omega)).more (by simp; omega)
        · have : (S.done.add nm (l.take 32)).bs nm = S.bs nm ++ l.take 32 := by simp [DG.add, DG.set, DG.done, DG.bs]
          rw [this]
          simp
          omega
        · intro h0
          simp [DG.add, DG.set] at h0
    · exact h.more (by omega)
theorem Fine.step {S : DG} {b : Nat} (h : Fine S b) (o : GOp) (l : List UInt8) : Fine (S.step o l).1 (b + 4194305) := by
  have hs := h.more (c := b + 4194305) (by omega)
  unfold DG.step
  split
  · unfold DG.app
    split
    · exact hs
    · split
      · exact hs
      · rename_i hx
        split
        · exact hs
        · have h1 : l.length + (S.bs o.name.data.toList).length ≤ 4194304 := Nat.le_of_not_lt fun hh => hx (.inl hh)
          refine (Fine.pieces _ S b _ l h (by omega) (fun h0 => Nat.lt_of_not_le fun h2 => hx (.inr ⟨h0, h2⟩)) (Nat.le_refl _)).more (by omega)
  · split
    · unfold DG.trunc
      split
      · exact hs
      · rename_i h0
        split
        · exact hs
        · split
          · exact hs
          · split
            · refine (h.done.set _ _ (by have := h.bs o.name.data.toList; simp; omega) (fun hh => absurd hh h0)).more (by omega)
            · exact hs
    · split
      · unfold DG.renam
        split
        · exact hs
        · split
          · exact hs
          · rename_i h0
            split
            · exact hs
            · split
              · refine (((h.done).rem _).set _ _ (h.bs _) (fun _ => ?_)).more (by omega)
                show (if (S.f o.name.data.toList).isSome = true then S.n - 1 else S.n) < 256
                have h1 := h.n
                rw [if_pos (Option.isSome_iff_ne_none.2 h0)]
                omega
              · exact hs
      · unfold DG.remove
        split
        · exact hs
        · split
          · exact (h.done.rem _).more (by omega)
          · exact hs

end Go.Proofs.YtcbmofapnjdmgaaDoor
