import Derived.Test.YtiafhbpklddlnaaGreatDoorD12
import Derived.Test.YtiafhbpklddlnaaGreatDoorD19
/- Plain: a disk that is not cut, with a file that is just a row of records: what Append and Open make of it. -/
namespace Go.Proofs.YtiafhbpklddlnaaGreatDoor
open Go.RowKit

/-- the disk's file of that name has just these records; no cut is said -/
structure JGd (S : DG) (nm : List UInt8) (rs : List (List UInt8)) : Prop where
  bs : S.f nm = if rs = [] then none else some (fileB rs)
  cut : S.cut = false
  n : S.n ≤ 1
  n0 : rs = [] → S.n = 0
  wr : S.wr ≤ (fileB rs).length
  all : ∀ r ∈ rs, r.length ≤ 262144

theorem JGd.get {S : DG} {nm : List UInt8} {rs : List (List UInt8)} (h : JGd S nm rs) : S.bs nm = fileB rs := by
  unfold DG.bs; rw [h.bs]
  split
  · rename_i e; subst e; rfl
  · rfl

theorem JGd.new (nm : List UInt8) : JGd ⟨fun _ => none, 0, 0, false, 0⟩ nm [] := ⟨rfl, rfl, by simp, by simp, by simp, by simp⟩

theorem JGd.opened {S : DG} {nm : List UInt8} {rs : List (List UInt8)} (h : JGd S nm rs) : S.opened nm = (S, 0) ∧ parseL (S.bs nm) = (rs, (fileB rs).length, false) := by
  have hp : parseL (S.bs nm) = (rs, (fileB rs).length, false) := by rw [h.get]; exact parseL_whole rs h.all
  refine ⟨?_, hp⟩
  unfold DG.opened
  rw [hp, if_neg (by simp), if_neg (by rw [h.get]; simp)]

theorem fileB_ne {rs : List (List UInt8)} (h : rs ≠ []) : fileB rs ≠ [] := by
  cases rs with
  | nil => exact absurd rfl h
  | cons r rs => intro e; simp [fileB, recB_ne] at e

theorem JGd.app {S : DG} {nm : List UInt8} {rs : List (List UInt8)} (h : JGd S nm rs) (hnm : nameB nm = true) (l : List UInt8) (hl : l.length ≤ 262144) (hfit : (recB l).length + (fileB rs).length ≤ 4194304) :
    ∃ S', S.app nm (recB l) = (S', 0) ∧ JGd S' nm (rs ++ [l]) := by
  have hne := recB_ne l
  have hpos := (recB_pos l).1
  have hp := pieces_free ((recB l).length + 1) S nm (recB l) h.cut (Nat.le_refl _)
  rw [if_neg hne] at hp
  refine ⟨{ S with wr := S.wr + ((recB l).length + 31) / 32 }.add nm (recB l), ?_, ?_⟩
  · unfold DG.app
    rw [if_neg (by rw [hnm]; decide), if_neg ?_, if_neg (by simp [hne]), hp]
    rw [h.get]
    have hn := h.n
    intro e
    rcases e with e | e
    · omega
    · omega
  · have hbs := h.get
    unfold DG.bs at hbs
    refine ⟨?_, h.cut, ?_, by simp, ?_, ?_⟩
    · show (if nm = nm then _ else _) = _
      rw [if_pos rfl, if_neg (by simp), fileB_snoc, ← hbs]
    · show (if (S.f nm).isSome then S.n else S.n + 1) ≤ 1
      by_cases e : rs = []
      · rw [h.n0 e]; split <;> omega
      · rw [h.bs, if_neg e]; simp; exact h.n
    · show S.wr + ((recB l).length + 31) / 32 ≤ _
      have := h.wr
      rw [fileB_snoc, List.length_append]
      omega
    · intro r hr
      rcases List.mem_append.1 hr with hr | hr
      · exact h.all r hr
      · simp at hr; subst hr; exact hl

/-- a Journal and its disk, with blocks among those of Q -/
def JL (Q : Nat → Prop) (w : World) (j d : Nat) (nm : ByteArray) (rs : List (List UInt8)) (S : DG) : Prop :=
  ∃ F G, JAt w j d nm rs (fileB rs).length false F ∧ IsDisk w d S G ∧ (∀ k, F k → ¬ G k) ∧ (∀ k, F k → Q k) ∧ (∀ k, G k → Q k) ∧ (∀ k, Q k → k < w.heap.size)

theorem JL.below {Q : Nat → Prop} {w w' : World} {j d : Nat} {nm : ByteArray} {rs : List (List UInt8)} {S : DG} (h : JL Q w j d nm rs S) (hB : Below w.heap.size w w') : JL Q w' j d nm rs S := by
  obtain ⟨F, G, h1, h2, h3, h4, h5, h6⟩ := h
  exact ⟨F, G, h1.below hB, h2.below hB, h3, h4, h5, fun k hk => Nat.lt_of_lt_of_le (h6 k hk) hB.size⟩

/-- Open of a disk whose file has just these records -/
theorem jl_open (w : World) (d : Nat) (S : DG) (G : Nat → Prop) (s : ByteArray) (rs : List (List UInt8)) (hd : IsDisk w d S G) (hs : s.size ≤ maxLen) (hg : JGd S s.data.toList rs) (hbig : (fileB rs).length ≤ 4194304) :
    Calls Tryz.prog 20 #[.pointer (some ⟨d, 0, none⟩), .string s] w fun e w' => ∃ j, e = .returned (.tuple #[.pointer (some ⟨j, 0, none⟩), .int .i64 0]) ∧ JL (grow G w w') w' j d s rs S ∧ Turn G w w' := by
  have hn := hg.n
  have hwr := hg.wr
  refine (jopen_any w d S G s hd hs (by rw [hg.get]; exact hbig) (by omega) (by unfold maxLen; omega)).mono ?_
  rintro e w' ⟨hT, G', hd', hG', hcase⟩
  obtain ⟨ho, hp⟩ := hg.opened
  rw [ho] at hd' hcase
  rw [hp] at hcase
  rcases hcase with ⟨h0, _⟩ | ⟨_, j, F, he, hJ, hF, hFG⟩
  · exact absurd rfl h0
  · refine ⟨j, he, ⟨F, G', hJ, hd', hFG, fun k hk => .inr ⟨hF k hk, hJ.lt k hk⟩, fun k hk => (hG' k hk).imp id (fun h => ⟨h, hd'.lt k hk⟩), fun k hk => hk.elim (fun h => Nat.lt_of_lt_of_le (hd.lt k h) hT.size) (fun h => h.2)⟩, hT⟩

/-- Append to such a Journal, where it fits -/
theorem jl_append (Q : Nat → Prop) (w : World) (j d : Nat) (S : DG) (s : ByteArray) (rs : List (List UInt8)) (h : JL Q w j d s rs S) (hs : s.size ≤ maxLen) (hnm : nameB s.data.toList = true) (hg : JGd S s.data.toList rs)
    (a : Option Addr) (m c : Nat) (l : List UInt8) (hb : Bytes w a m l) (hm : m ≤ 262144) (ha : 0 < m → ∀ x, a = some x → ¬ Q x.block) (hfit : (recB l).length + (fileB rs).length ≤ 4194304) :
    Calls Tryz.prog 26 #[.pointer (some ⟨j, 0, none⟩), .slice a m c] w fun e w' => e = .returned (.int .i64 0) ∧ (∃ S', JL (grow Q w w') w' j d s (rs ++ [l]) S' ∧ JGd S' s.data.toList (rs ++ [l])) ∧ Turn Q w w' := by
  obtain ⟨F, G, h1, h2, h3, h4, h5, h6⟩ := h
  have hn := hg.n
  have hwr := hg.wr
  obtain ⟨S', happ, hg'⟩ := hg.app hnm l (by rw [hb.1]; exact hm) hfit
  refine (jappend_any w j d s rs _ F S G h1 h2 h3 a m c l hb hm (fun h0 x hx => ⟨fun hf => ha h0 x hx (h4 _ hf), fun hf => ha h0 x hx (h5 _ hf)⟩) hs (by rw [hg.get]; omega) (by rw [hg.get]; exact Nat.le_refl _) (by omega) (by omega)).mono ?_
  rintro e w' ⟨he, hT, F', G', hd', hF', hG', hFG', hcase⟩
  rw [happ] at he hd' hcase
  have hTQ : Turn Q w w' := hT.wide (fun k hk => hk.elim (h4 k) (h5 k))
  rcases hcase with ⟨_, hJ⟩ | ⟨h0, _⟩
  · refine ⟨he, ⟨S', ⟨F', G', ?_, hd', hFG', fun k hk => (hF' k hk).elim (fun h => .inl (h4 k h)) (fun h => .inr ⟨h, hJ.lt k hk⟩), fun k hk => (hG' k hk).elim (fun h => .inl (h5 k h)) (fun h => .inr ⟨h, hd'.lt k hk⟩), fun k hk => hk.elim (fun h => Nat.lt_of_lt_of_le (h6 k h) hTQ.size) (fun h => h.2)⟩, hg'⟩, hTQ⟩
    rw [fileB_snoc, List.length_append]; exact hJ
  · exact absurd rfl h0

theorem JGd.full {S : DG} {nm : List UInt8} {rs : List (List UInt8)} (h : JGd S nm rs) (hnm : nameB nm = true) (l : List UInt8) (hfit : 4194304 < (recB l).length + (fileB rs).length) : S.app nm (recB l) = (S, 3) := by
  unfold DG.app
  rw [if_neg (by rw [hnm]; decide), if_pos (by rw [h.get]; exact .inl hfit)]

end Go.Proofs.YtiafhbpklddlnaaGreatDoor
