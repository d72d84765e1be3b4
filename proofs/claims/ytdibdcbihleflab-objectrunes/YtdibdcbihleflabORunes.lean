/- Texts that are right: what Go's conversions and its range tell of them. -/
import Derived.Test.YtdibdcbihleflabNGoPlain
import Derived.Test.YtdibdcbihleflabOCommit3
namespace Go.Proofs.Ytdibdcbihleflab
open Go.RowKit

theorem runes_row (w : World) (s : ByteArray) (hs : s.size ≤ 100000) : ∃ (n c : Nat) (w2 : World), (convert 9 57 (.string s)).run Try.prog w = .ok (.slice (some ⟨w.heap.size, 0, none⟩) n c) w2 ∧ (convert 57 9 (.slice (some ⟨w.heap.size, 0, none⟩) n c)).run Try.prog w2 = .ok (.string (runesBytes (runesL (bs s)))) w2 ∧ Below w.heap.size w w2 := by
  have hrl := runesL_len _ (bs s) (Nat.le_refl _)
  rw [bs_len] at hrl
  have hrf : Conv.runesFrom s s.size 0 #[] = ((runesL (bs s)).map (Value.int .i32)).toArray := by
    rw [runesFrom_list s s.size 0 #[] (by omega), List.drop_zero]
    simp [bs]
  have hsz : (Conv.runesFrom s s.size 0 #[]).size = (runesL (bs s)).length := by rw [hrf]; simp
  have h1 := run_runes_of_string w 9 57 21 s Try.underlying9 Try.underlying57 Try.underlying21 (by rw [hsz]; omega)
  rw [hsz, hrf] at h1
  refine ⟨_, _, _, h1, ?_, ?_⟩
  · have := run_convert_runes (P := Try.prog) (w.drew.alloc (.cells (((runesL (bs s)).map (Value.int .i32)).toArray ++ Array.replicate (grownCap w (runesL (bs s)).length 0 21 - (runesL (bs s)).length) (.int .i32 0)) 21)) 57 9 21 ⟨w.heap.size, 0, none⟩ (runesL (bs s)).length (grownCap w (runesL (bs s)).length 0 21) (runesL (bs s)) (Nat.le_refl _) Try.underlying57 Try.underlying21 Try.underlying9 (fun j hj => by
      rw [Addr.add_lit]
      have := World.cell?_alloc_mark w.drew (((runesL (bs s)).map (Value.int .i32)).toArray ++ Array.replicate (grownCap w (runesL (bs s)).length 0 21 - (runesL (bs s)).length) (.int .i32 0)) 21 (0, 0) (0 + j)
      rw [show w.drew.heap.size = w.heap.size from rfl] at this
      rw [this, Nat.zero_add, Array.getElem?_append_left (by simpa using hj)]
      simp [List.getElem?_eq_getElem hj])
    rw [List.take_length] at this
    exact this
  · have hd : Below w.heap.size w w.drew := ⟨rfl, rfl, rfl, Nat.le_refl _, fun _ _ => rfl⟩
    exact hd.alloc (Nat.le_refl _) _


theorem right_B : ∀ (n : Nat) (l : List UInt8), l.length ≤ n → rightL l = true → rightB l = true
  | 0, l, hl, _ => by
    have : l = [] := List.length_eq_zero_iff.1 (by omega)
    rw [this]; exact rightB_nil
  | n + 1, l, hl, h => by
    by_cases e : l = []
    · rw [e]; exact rightB_nil
    · rw [rightL_step l e, Bool.and_eq_true] at h
      rw [rightB_go l e, Bool.and_eq_true]
      refine ⟨?_, right_B n _ (by have := drop_lt l e; omega) h.2⟩
      have h1 : wrongAt l = false := by simpa using h.1
      unfold wrongAt at h1
      rw [Bool.or_eq_false_iff] at h1
      simp [brk, h1.2]
theorem bad_right : ∀ (n : Nat) (l : List UInt8), l.length ≤ n → badAt l = none → rightL l = true
  | 0, l, hl, _ => by
    have : l = [] := List.length_eq_zero_iff.1 (by omega)
    rw [this]; rfl
  | n + 1, l, hl, h => by
    by_cases e : l = []
    · rw [e]; rfl
    · cases hb : bad l with
      | true => rw [badAt_bad l e hb] at h; cases h
      | false =>
        rw [badAt_go l e hb] at h
        have h' : badAt (l.drop (dec l).2) = none := by
          cases hx : badAt (l.drop (dec l).2) with
          | none => rfl
          | some y => rw [hx] at h; cases h
        rw [rightL_step l e, bad_right n _ (by have := drop_lt l e; omega) h', Bool.and_true]
        unfold bad at hb
        simp only [Bool.or_eq_false_iff, decide_eq_false_iff_not] at hb
        obtain ⟨⟨⟨b1, _⟩, _⟩, b4⟩ := hb
        unfold wrongAt
        rw [b4, Bool.or_false]
        simp
        omega
theorem ok_right (l : List UInt8) (h : okName l = true) : rightL l = true := bad_right _ l (Nat.le_refl _) (okName_parts l h).2.2
theorem right_head (l : List UInt8) (hl : l ≠ []) (h : rightL l = true) : (dec l).1 ≠ 0 ∧ rightL (l.drop (dec l).2) = true := by
  rw [rightL_step l hl, Bool.and_eq_true] at h
  refine ⟨fun e => ?_, h.2⟩
  have h1 := h.1
  simp [wrongAt, e] at h1
/-- texts that are right, and not too long -/
def AllR (l : List ByteArray) : Prop := ∀ s ∈ l, rightL (bs s) = true ∧ s.size ≤ 2000
theorem AllR.nil : AllR [] := fun s hs => by simp at hs
theorem AllR.app {l m : List ByteArray} (h : AllR l) (h' : AllR m) : AllR (l ++ m) := fun s hs => by
  rcases List.mem_append.1 hs with h1 | h1
  · exact h s h1
  · exact h' s h1
theorem com_right {t : Int} {ps : List Int} {au tx : ByteArray} (h : comErr t ps au tx = 0) : AllR [au, tx] := by
  obtain ⟨_, _, h3, h4⟩ := com_fits h
  unfold comErr at h
  split at h
  · omega
  · split at h
    · rename_i h1 h2; exact absurd h h2
    · split at h
      · rename_i h1; exact absurd h h1
      · rename_i h1
        have a1 : txtErr au 64 = 0 := Decidable.not_not.1 h1
        intro s hs
        simp at hs
        rcases hs with rfl | rfl
        · refine ⟨?_, by omega⟩
          unfold txtErr at a1
          rw [if_neg (by omega)] at a1
          cases hr : rightL (bs s) with
          | true => rfl
          | false => rw [hr] at a1; simp at a1
        · refine ⟨?_, by omega⟩
          unfold txtErr at h
          rw [if_neg (by omega)] at h
          cases hr : rightL (bs s) with
          | true => rfl
          | false => rw [hr] at h; simp at h
/-- what holds of the entries of a tree that may be -/
theorem tree_at : ∀ (l : List Ent) (p : ByteArray), treeErr p l = 0 → ∀ (k : Nat) x, l[k]? = some x → okName (bs x.1) = true ∧ sle x.1 (match k with | 0 => p | j + 1 => (l.getD j (p, false, 0)).1) = false
  | [], p, _, k, x, hx => by simp at hx
  | y :: r, p, h, k, x, hx => by
    unfold treeErr at h
    split at h
    · rename_i h1; exfalso; apply h1; omega
    · rename_i h1
      split at h
      · omega
      · rename_i h2
        split at h
        · omega
        · cases k with
          | zero =>
            simp at hx; subst hx
            exact ⟨by unfold okName; simp; omega, by simpa using h2⟩
          | succ k =>
            obtain ⟨e1, e2⟩ := tree_at r y.1 h k x (by simpa using hx)
            refine ⟨e1, ?_⟩
            cases k with
            | zero => simpa using e2
            | succ j =>
              have hj : j < r.length := by
                have := (List.getElem?_eq_some_iff.1 (show r[j + 1]? = some x by simpa using hx)).1
                omega
              simp only [List.getD_cons_succ]
              simp only [List.getD_eq_getElem?_getD, List.getElem?_eq_getElem hj] at e2 ⊢
              exact e2
theorem tree_name {l : List Ent} (h : treeErrs l = 0) {k : Nat} {x : Ent} (hx : l[k]? = some x) : rightL (bs x.1) = true ∧ x.1.size ≤ 2000 := by
  unfold treeErrs at h
  split at h
  · omega
  · obtain ⟨h1, _⟩ := tree_at l _ h k x hx
    have h2 := okName_parts _ h1
    exact ⟨ok_right _ h1, by rw [bs_len] at h2; omega⟩
theorem tree_order {l : List Ent} (h : treeErrs l = 0) {k : Nat} {x y : Ent} (hx : l[k + 1]? = some x) (hy : l[k]? = some y) : sle x.1 y.1 = false := by
  unfold treeErrs at h
  split at h
  · omega
  · obtain ⟨_, h2⟩ := tree_at l _ h (k + 1) x hx
    simpa [List.getD_eq_getElem?_getD, hy] using h2
theorem less_other : ∀ x y : List UInt8, Op.bytesLess x y = false → x ≠ y → Op.bytesLess y x = true
  | [], [], _, h => absurd rfl h
  | _ :: _, [], _, _ => by simp [Op.bytesLess]
  | [], _ :: _, h, _ => by simp [Op.bytesLess] at h
  | a :: x, b :: y, h, hn => by
    simp only [Op.bytesLess, Bool.or_eq_false_iff, Bool.and_eq_false_iff, decide_eq_false_iff_not] at h
    simp only [Op.bytesLess, Bool.or_eq_true, Bool.and_eq_true, decide_eq_true_eq, beq_iff_eq]
    have h1 : ¬ a.toNat < b.toNat := h.1
    by_cases e : a = b
    · subst e
      refine .inr ⟨rfl, less_other x y ?_ (fun e => hn (by rw [e]))⟩
      rcases h.2 with h2 | h2
      · simp at h2
      · exact h2
    · refine .inl ?_
      show b.toNat < a.toNat
      have : a.toNat ≠ b.toNat := fun x => e (UInt8.toNat_inj.1 x)
      omega
theorem sle_less {x y : ByteArray} (h : sle x y = false) : Op.bytesLess y.toList x.toList = true := by
  unfold sle at h
  rw [Bool.or_eq_false_iff] at h
  exact less_other _ _ h.1 (beq_eq_false_iff_ne.1 h.2)
theorem run_geq (s t : ByteArray) (w : World) : (binOp .geq 9 (.string s) (.string t)).run Try.prog w = .ok (.bool (!Op.bytesLess s.toList t.toList)) w := by
  simp [binOp, Op.stringOp]
end Go.Proofs.Ytdibdcbihleflab
