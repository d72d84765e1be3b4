import Derived.Test.YtdchmmdndgbllaaDoorU19
import Derived.Test.YtdchmmdndgbllaaDoorU07
/- The walk of the document's Lines. -/
namespace Go.Proofs.YtdchmmdndgbllaaDoor
open Go.RowKit

/-- a row of texts that a call puts together -/
structure OwnS (w0 : World) (v : Value) (acc : List (List UInt8)) (W : World) : Prop where
  row : W.ownsRow w0.heap.size 9 1 v acc.length (wcells acc)
  bel : Below w0.heap.size w0 W
theorem OwnS.size {w0 W : World} {v : Value} {l : List (List UInt8)} (h : OwnS w0 v l W) : w0.heap.size ≤ W.heap.size := h.bel.size
theorem OwnS.below {w0 W W' : World} {v : Value} {l : List (List UInt8)} (h : OwnS w0 v l W) (hb : Below W.heap.size W W') : OwnS w0 v l W' :=
  ⟨h.row.kept (row := none) ⟨hb.os, hb.tape, hb.output, hb.size, fun k hk _ => hb.block k hk⟩ (by cases v.ownBlock <;> simp), h.bel.trans (hb.mono h.bel.size)⟩
theorem OwnS.alloc {w0 W : World} {v : Value} {l : List (List UInt8)} (h : OwnS w0 v l W) (b : Obj) : OwnS w0 v l (W.alloc b) := h.below ((Below.refl _ _).alloc (Nat.le_refl _) _)
theorem OwnS.grown {w0 W W' : World} {v v' : Value} {l : List (List UInt8)} {x : List UInt8} (h : OwnS w0 v l W) (hg : W.grownBy W' v.ownBlock) (hr : W'.ownsRow w0.heap.size 9 1 v' (l.length + 1) (wcells l ++ [wcell x])) : OwnS w0 v' (l ++ [x]) W' :=
  ⟨by rw [List.length_append, show wcells (l ++ [x]) = wcells l ++ [wcell x] by simp [wcells]]; exact hr, h.bel.grown hg h.bel.size (fun k hk => (row_block h.row k hk).1)⟩
theorem ownS_nil (w : World) : OwnS w (.slice none 0 0) [] w := ⟨World.ownsRow_nil _ _ _ _, Below.refl _ _⟩
theorem mk_extract (s : ByteArray) (f i : Nat) : mk (((bs s).take i).drop f) = s.extract f i := by rw [← bs_extract, mk_bs]

set_option maxRecDepth 20000 in
set_option maxHeartbeats 4000000 in
theorem rlines_any (s : ByteArray) (w : World) (hs : s.size ≤ 2199023255552) :
    Calls Tryd.prog 29 #[.string s] w fun e w' => ∃ v, e = .returned v ∧ OwnS w v (linesL (bs s)) w' := by
  have hs' : s.size ≤ 9223372036854775807 := by omega
  have hl := bs_len s
  obtain ⟨i0, hi0, hz0, hz1, hz2⟩ := info_parts infoString
  go_enter Tryd.func29, Tryd.ntmps29
  go_wp2
  go_loopw [3, 4, 5] (fun v f i wr => ∃ (F I : Nat) (acc : List (List UInt8)), F ≤ I ∧ I ≤ s.size ∧ acc.length ≤ F ∧ f = .int .i64 (F : Int) ∧ i = .int .i64 (I : Int) ∧ OwnS w v acc wr ∧ Hid (linesL (bs s) = acc ++ cutN (((bs s).take I).drop F) ((bs s).drop I))) (fun _ _ i _ => s.size - (intOf i).toNat)
  case atStart => exact ⟨0, 0, [], Nat.le_refl _, Nat.zero_le _, Nat.le_refl _, rfl, rfl, ownS_nil w, by simp [Hid, linesL]⟩
  case round =>
    obtain ⟨F, I, acc, hFI, hI, hac, rfl, rfl, hO, H⟩ := hrel
    have HO : Hid (OwnS w u3 acc wr) := hO
    have hsz := hO.size
    clear hO
    by_cases hlt : I < s.size
    · have ilt : (I : Int) < s.size := by omega
      obtain ⟨c, hc⟩ : ∃ c, s[I]'hlt = c := ⟨_, rfl⟩
      have hd : (bs s).drop I = c :: (bs s).drop (I + 1) := by
        rw [List.drop_eq_getElem_cons (by rw [hl]; exact hlt), ← hc]; rfl
      have iF : (F : Int) ≤ I := by omega
      have iI : (I : Int) ≤ s.size := by omega
      by_cases h10 : c = 10
      · have HG : Hid (linesL (bs s) = (acc ++ [((bs s).take I).drop F]) ++ cutN (((bs s).take (I + 1)).drop (I + 1)) ((bs s).drop (I + 1))) := by
          show _ = _
          have e2 : ((bs s).take (I + 1)).drop (I + 1) = [] := List.drop_eq_nil_of_le (by rw [List.length_take]; omega)
          rw [H.out, hd, cutN, if_pos h10, e2]; simp
        subst h10
        obtain ⟨Z, hZ⟩ : ∃ Z, Z = s.extract F I := ⟨_, rfl⟩
        have hZ' : s.extract F I = Z := hZ.symm
        have HZ : Hid (wcell (((bs s).take I).drop F) = .string Z) := by show _ = _; unfold wcell; rw [mk_extract, hZ]
        clear H hd hZ
        go_wp2_with (at_builtin; refine wpList_append_own _ rfl _ _ 43 rfl w.heap.size 9 i0 (.string ⟨#[]⟩) 1 16 Tryd.underlying43 hi0 hz0 hz1 hz2 rfl (by decide) u3 acc.length _ rfl (HO.out.alloc _).row ⟨_, 0, none⟩ 1 1 [.string Z] rfl rfl (cell_one_new _ _ _) (by simp [Value.oneCell']) (by unfold maxLen; omega) (by omega) (by simp; omega) ?_; intro v' w4 hown4 hgr4 _)
        have HF : Hid (OwnS w v' (acc ++ [((bs s).take I).drop F]) w4) := (HO.out.alloc _).grown hgr4 (by rw [HZ.out]; exact hown4)
        clear hown4 hgr4 HO
        go_wp2
        go_roundw
        case rel => exact ⟨I + 1, I + 1, acc ++ [((bs s).take I).drop F], Nat.le_refl _, by omega, by simp; omega, by go_num, by go_num, HF.out, HG.out⟩
        case measure => simp [intOf]; omega
      · have hb : ((c.toNat : Int) == 10) = false := beq_eq_false_iff_ne.2 (fun e => h10 (UInt8.toNat_inj.1 (by show _ = 10; omega)))
        have HG : Hid (linesL (bs s) = acc ++ cutN (((bs s).take (I + 1)).drop F) ((bs s).drop (I + 1))) := by
          show _ = _
          have e3 : ((bs s).take (I + 1)).drop F = ((bs s).take I).drop F ++ [c] := by
            rw [List.take_add, List.drop_append_of_le_length (by rw [List.length_take]; omega), hd]; rfl
          rw [H.out, hd, cutN, if_neg h10, e3]
        clear H hd h10
        go_wp2
        go_roundw
        case rel => exact ⟨F, I + 1, acc, by omega, by omega, hac, rfl, by go_num, HO.out, HG.out⟩
        case measure => simp [intOf]; omega
    · obtain rfl : I = s.size := by omega
      have ilt : ¬ ((s.size : Nat) : Int) < s.size := by omega
      have e2 : (bs s).drop s.size = [] := List.drop_eq_nil_of_le (by omega)
      have et : (bs s).take s.size = bs s := by rw [← hl]; exact List.take_length
      by_cases hF : F < s.size
      · have iF : (F : Int) < s.size := by omega
        have iF2 : (F : Int) ≤ s.size := by omega
        have HG : Hid (linesL (bs s) = acc ++ [((bs s).take s.size).drop F]) := by
          show _ = _
          have ne : ((bs s).take s.size).drop F ≠ [] := fun e => by
            have := congrArg List.length e
            rw [List.length_drop, et, List.length_nil] at this; omega
          rw [H.out, e2, cutN, if_neg ne]
        obtain ⟨Z, hZ⟩ : ∃ Z, Z = s.extract F s.size := ⟨_, rfl⟩
        have hZ' : s.extract F s.size = Z := hZ.symm
        have HZ : Hid (wcell (((bs s).take s.size).drop F) = .string Z) := by show _ = _; unfold wcell; rw [mk_extract, hZ]
        clear H e2 et hZ
        go_wp2_with (at_builtin; refine wpList_append_own _ rfl _ _ 43 rfl w.heap.size 9 i0 (.string ⟨#[]⟩) 1 16 Tryd.underlying43 hi0 hz0 hz1 hz2 rfl (by decide) u3 acc.length _ rfl (HO.out.alloc _).row ⟨_, 0, none⟩ 1 1 [.string Z] rfl rfl (cell_one_new _ _ _) (by simp [Value.oneCell']) (by unfold maxLen; omega) (by omega) (by simp; omega) ?_; intro v' w4 hown4 hgr4 _)
        have HF : Hid (OwnS w v' (acc ++ [((bs s).take s.size).drop F]) w4) := (HO.out.alloc _).grown hgr4 (by rw [HZ.out]; exact hown4)
        clear hown4 hgr4 HO
        go_wp2
        go_ret
        exact ⟨_, rfl, by rw [HG.out]; exact HF.out⟩
      · have iF : ¬ (F : Int) < s.size := by omega
        have HG : Hid (linesL (bs s) = acc) := by
          show _ = _
          rw [H.out, e2, cutN, if_pos (List.drop_eq_nil_of_le (by rw [et]; omega)), List.append_nil]
        clear H e2 et
        go_wp2
        go_ret
        exact ⟨_, rfl, by rw [HG.out]; exact HO.out⟩
end Go.Proofs.YtdchmmdndgbllaaDoor
