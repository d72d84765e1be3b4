/- What the layer answers of a tree: encode, id, sameness, links. -/
import Derived.Test.YtdibdcbihleflaaOTree2
namespace Go.Proofs.Ytdibdcbihleflaa
open Go.RowKit

theorem spot_short (nm : ByteArray) (h : (spot (bs nm)).1 = 0) : nm.size ≤ 32 := by
  have hl : (bs nm).length = nm.size := bs_len nm
  unfold spot at h
  split at h
  · cases h
  · split at h
    · cases h
    · omega
/-- the fields of entries that came in -/
structure Fields (l : List Ent) : Prop where
  name : Short l
  id : ∀ (j : Nat) x, l[j]? = some x → 0 ≤ x.2.2 ∧ x.2.2 < 18446744073709551616
theorem fits_of {l : List Ent} (hf : Fields l) (h : treeErrs l = 0) : l.length ≤ 256 ∧ Fits l := by
  unfold treeErrs at h
  split at h
  · omega
  · rename_i h1
    exact ⟨by omega, fun j x hx => spot_short _ (treeErr_ok l _ h j x hx), hf.id⟩
theorem Encode_tree (a : Option Addr) (n c : Nat) (l : List Ent) (w : World) (h : Ents w a n l) (hf : Fields l) (hn : n ≤ 9223372036854775807) (h0 : treeErrs l = 0) :
    Calls Try.prog 29 #[trV a n c] w fun e w' => ∃ v, e = .returned (.tuple #[v, .int .i64 0]) ∧ OwnB w.heap.size (treeB l) v w' ∧ Below w.heap.size w w' := by
  have c1 := check_tree a n c l w h hf.name hn
  rw [h0] at c1
  obtain ⟨hl, hF⟩ := fits_of hf h0
  have hll := h.1
  go_enter Try.func29, Try.ntmps29
  go_wp2_with first
    | (go_at_call 50; refine c1.mono ?_; clear c1; rintro e w1 ⟨rfl, hB1⟩)
    | (go_at_call 57; refine (encode_tree a n c l _ (h.below hB1) hF (by omega)).mono ?_; rintro e w2 ⟨ad, m, cp, rfl, hm, ho, hB2⟩; have HO : Hid (OwnB w1.heap.size (treeB l) (.slice ad m cp) w2) := ho; clear ho hm)
  go_ret2
  exact ⟨_, rfl, ⟨row_lower HO.out.row hB1.size⟩, hB1.trans (hB2.mono hB1.size)⟩
theorem Encode_tree_bad (a : Option Addr) (n c : Nat) (l : List Ent) (w : World) (h : Ents w a n l) (hf : Fields l) (hn : n ≤ 9223372036854775807) (h0 : treeErrs l ≠ 0) :
    Calls Try.prog 29 #[trV a n c] w fun e w' => e = .returned (.tuple #[.slice none 0 0, .int .i64 (treeErrs l)]) ∧ Below w.heap.size w w' := by
  have c1 := check_tree a n c l w h hf.name hn
  have h0' : (treeErrs l == 0) = false := beq_eq_false_iff_ne.2 h0
  generalize treeErrs l = E at *
  go_enter Try.func29, Try.ntmps29
  go_wp2_with (go_at_call 50; refine c1.mono ?_; clear c1; rintro e w1 ⟨rfl, hB1⟩)
  go_ret2
  exact ⟨rfl, hB1⟩
theorem Of_tree (a : Option Addr) (n c : Nat) (l : List Ent) (w : World) (h : Ents w a n l) (hf : Fields l) (hn : n ≤ 9223372036854775807) (h0 : treeErrs l = 0) :
    Calls Try.prog 30 #[trV a n c] w fun e w' => e = .returned (.tuple #[.int .u64 (idOf (treeB l)), .int .i64 0]) ∧ Below w.heap.size w w' := by
  have c1 := check_tree a n c l w h hf.name hn
  rw [h0] at c1
  obtain ⟨hl, hF⟩ := fits_of hf h0
  have hll := h.1
  have hle : (treeB l).length ≤ 16384 := by
    have h1 := entsB_len l hF l.length (Nat.le_refl _)
    rw [List.take_length] at h1
    have h2 := short_len l.length
    simp only [treeB, List.length_cons, List.length_append]
    omega
  have he := fun w h => encode_tree a n c l w h hF (by omega)
  generalize treeB l = T at *
  go_enter Try.func30, Try.ntmps30
  go_wp2_with first
    | (go_at_call 50; refine c1.mono ?_; clear c1; rintro e w1 ⟨rfl, hB1⟩)
    | (go_at_call 57; refine (he _ (h.below hB1)).mono ?_; clear he; rintro e w2 ⟨ad, m, cp, rfl, hm, ho, hB2⟩; have hby := ho.bytes hm; have hm2 : m ≤ maxLen := (by unfold maxLen; omega); clear ho hm)
    | (go_at_call 24; refine (Id_any ad m cp T _ hby hm2).mono ?_; rintro e w3 ⟨rfl, h3⟩; subst h3)
  go_ret2
  exact ⟨rfl, hB1.trans (hB2.mono hB1.size)⟩
theorem Of_tree_bad (a : Option Addr) (n c : Nat) (l : List Ent) (w : World) (h : Ents w a n l) (hf : Fields l) (hn : n ≤ 9223372036854775807) (h0 : treeErrs l ≠ 0) :
    Calls Try.prog 30 #[trV a n c] w fun e w' => e = .returned (.tuple #[.int .u64 0, .int .i64 (treeErrs l)]) ∧ Below w.heap.size w w' := by
  have c1 := check_tree a n c l w h hf.name hn
  have h0' : (treeErrs l == 0) = false := beq_eq_false_iff_ne.2 h0
  generalize treeErrs l = E at *
  go_enter Try.func30, Try.ntmps30
  go_wp2_with (go_at_call 50; refine c1.mono ?_; clear c1; rintro e w1 ⟨rfl, hB1⟩)
  go_ret2
  exact ⟨rfl, hB1⟩
theorem Same_tree_bad (a : Option Addr) (n c : Nat) (l : List Ent) (x : Value) (w : World) (h : Ents w a n l) (hf : Fields l) (hn : n ≤ 9223372036854775807) (h0 : treeErrs l ≠ 0) :
    Calls Try.prog 34 #[trV a n c, x] w fun e w' => e = .returned (.bool false) ∧ Below w.heap.size w w' := by
  have c1 := check_tree a n c l w h hf.name hn
  have h0' : (treeErrs l == 0) = false := beq_eq_false_iff_ne.2 h0
  generalize treeErrs l = E at *
  go_enter Try.func34, Try.ntmps34
  go_wp2_with (go_at_call 50; refine c1.mono ?_; clear c1; rintro e w1 ⟨rfl, hB1⟩)
  go_ret
  exact ⟨rfl, hB1⟩
theorem Same_tree (a : Option Addr) (n c : Nat) (l : List Ent) (w : World) (h : Ents w a n l) (hf : Fields l) (hn : n ≤ 9223372036854775807) (h0 : treeErrs l = 0) :
    Calls Try.prog 34 #[trV a n c, trV a n c] w fun e w' => e = .returned (.bool true) ∧ Below w.heap.size w w' := by
  have c1 := fun w h => check_tree a n c l w h hf.name hn
  rw [h0] at c1
  obtain ⟨hl, hF⟩ := fits_of hf h0
  have hll := h.1
  have he := fun w h => encode_tree a n c l w h hF (by omega)
  generalize treeB l = T at *
  go_enter Try.func34, Try.ntmps34
  go_wp2_with first
    | (go_at_call 50; refine (c1 w h).mono ?_; rintro e w1 ⟨rfl, hB1⟩)
    | (go_at_call 50; refine (c1 _ (h.below hB1)).mono ?_; clear c1; rintro e w2 ⟨rfl, hB2⟩; have hB : Below w.heap.size w w2 := hB1.trans (hB2.mono hB1.size); have hb2 := h.below hB; clear hB1 hB2)
    | (go_at_call 57; refine (he w2 hb2).mono ?_; rintro e w3 ⟨ad, m, cp, rfl, hm, ho, hB3⟩; have hy3 := ho.bytes hm; have hb3 := hb2.below hB3; clear hb2 ho hm)
    | (go_at_call 57; refine (he _ hb3).mono ?_; clear he; rintro e w4 ⟨ad4, m4, cp4, rfl, hm4, ho, hB4⟩; have hy4 := ho.bytes hm4; have hy3' := bytes_below hy3 hB4; clear hb3 hy3 ho hm4)
    | (go_at_call 12; refine (equal_yes _ ad ad4 m m4 cp cp4 T hy3' hy4).mono ?_; rintro e w5 ⟨rfl, h5⟩; subst h5)
  go_ret
  exact ⟨rfl, hB.trans ((hB3.trans (hB4.mono hB3.size)).mono hB.size)⟩
end Go.Proofs.Ytdibdcbihleflaa
