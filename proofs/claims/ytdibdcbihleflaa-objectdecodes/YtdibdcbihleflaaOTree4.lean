/- A tree's links, and what it answers in all. -/
import Derived.Test.YtdibdcbihleflaaOTree3
namespace Go.Proofs.Ytdibdcbihleflaa
open Go.RowKit

attribute [local go_sem] Oper.semAt_some

theorem infoId : (Try.prog.info? 39).map (fun i => (i.zero, i.size, i.bytes)) = some (some (.int .u64 0), 1, 8) := by kernel_rfl
theorem infoEntry : (Try.prog.info? 50).map (fun i => (i.zero, i.size, i.bytes)) = some (some (.agg #[.string ⟨#[]⟩, .bool false, .int .u64 0]), 3, 32) := by kernel_rfl
def idsOf (l : List Ent) : List Int := l.map fun x => x.2.2
theorem cells_one (W : World) (t : TypeId) (a : Value) : ∀ (j : Nat) u, [a][j]? = some u → (W.alloc (.cells #[a] t)).cell? (Addr.add ⟨W.heap.size, 0, none⟩ j) = some u := by
  intro j u hj
  match j, hj with
  | 0, hj => simp at hj; subst hj; simp [Addr.add]
theorem idsOf_take (l : List Ent) (k : Nat) (x : Ent) (h : l[k]? = some x) : idsOf (l.take (k + 1)) = idsOf (l.take k) ++ [x.2.2] := by
  unfold idsOf
  rw [List.take_add_one, h]
  simp

set_option maxRecDepth 100000 in
set_option maxHeartbeats 4000000 in
theorem links_tree (a : Option Addr) (n c : Nat) (l : List Ent) (w : World) (h : Ents w a n l) (hn : n ≤ 256) :
    Calls Try.prog 59 #[trV a n c] w fun e w' => ∃ v, e = .returned v ∧ w'.ownsRow w.heap.size 39 1 v (idsOf l).length ((idsOf l).map (Value.int .u64)) ∧ Below w.heap.size w w' := by
  have h1 := as_tree (.agg #[.slice a n c])
  have hll := h.1
  obtain ⟨i0, hi0, hzz0, hzz1, hzz2⟩ := info_parts infoId
  have hB0 : Below w.heap.size w (w.alloc (.cells #[.slice a n c] 35)) := (Below.refl _ w).alloc (Nat.le_refl _) _
  have H0 : Hid ((w.alloc (.cells #[.slice a n c] 35)).ownsRow w.heap.size 39 1 (.slice none 0 0) 0 ((idsOf (l.take 0)).map (Value.int .u64)) ∧ Below w.heap.size w (w.alloc (.cells #[.slice a n c] 35))) := ⟨World.ownsRow_nil _ _ _ _, hB0⟩
  clear hB0
  go_enter Try.func59, Try.ntmps59
  go_wp2
  go_loopw [3, 15] (fun v i wr => ∃ (k : Nat) (ad : Option Addr) (cp : Nat), k ≤ n ∧ i = .int .i64 (k : Int) ∧ v = .slice ad k cp ∧ Hid (wr.ownsRow w.heap.size 39 1 (.slice ad k cp) k ((idsOf (l.take k)).map (Value.int .u64)) ∧ Below w.heap.size w wr)) (fun _ i _ => n - (intOf i).toNat)
  case atStart => exact ⟨0, none, 0, Nat.zero_le _, rfl, rfl, H0.out⟩
  case round =>
    clear H0
    obtain ⟨k, ad, cp, hk, rfl, rfl, H⟩ := hrel
    by_cases hlt : k < n
    · obtain ⟨x, hx⟩ : ∃ x, l[k]? = some x := ⟨_, List.getElem?_eq_getElem (by omega)⟩
      obtain ⟨b1, o1, rfl, hc1⟩ := h.2 (by omega)
      obtain ⟨t1, t2, t3⟩ := hc1 k x hx
      have hBw := H.out.2
      have q1 := (hBw.cell (p := ⟨b1, o1 + k * 3, none⟩) (World.block_lt_of_cell? w _ t1)).trans t1
      have q2 := (hBw.cell (p := ⟨b1, o1 + k * 3 + 1, none⟩) (World.block_lt_of_cell? w _ t2)).trans t2
      have q3 := (hBw.cell (p := ⟨b1, o1 + k * 3 + 2, none⟩) (World.block_lt_of_cell? w _ t3)).trans t3
      have i2 : (k : Int) < (n : Int) := by omega
      have i3 : ¬ n ≤ k := by omega
      have HT : Hid (idsOf (l.take (k + 1)) = idsOf (l.take k) ++ [x.2.2]) := idsOf_take l k x hx
      obtain ⟨nm, fo, id⟩ := x
      simp only at q1 q2 q3 HT
      have hsw := hBw.size
      have ho := (H.out.1.alloc (.cells #[.string nm, .bool fo, .int .u64 id] 50)).alloc (.cells #[.int .u64 id] 39)
      have HB2 : Hid (Below w.heap.size w ((wr.alloc (.cells #[.string nm, .bool fo, .int .u64 id] 50)).alloc (.cells #[.int .u64 id] 39))) := (hBw.alloc hBw.size _).alloc (by simp; omega) _
      clear hc1 hx t1 t2 t3 hBw H
      go_wp2_with (at_builtin; refine wpList_append_own _ rfl _ _ 40 rfl w.heap.size 39 i0 (.int .u64 0) 1 8 Try.underlying40 hi0 hzz0 hzz1 hzz2 rfl (by decide) _ k _ rfl ho ⟨_, 0, none⟩ 1 1 [.int .u64 id] rfl rfl (by simpa using cells_one (wr.alloc (.cells #[.string nm, .bool fo, .int .u64 id] 50)) 39 (.int .u64 id)) (by simp [Value.oneCell']) (by unfold maxLen; omega) (by omega) (by simp; omega) ?_; intro v' x5 hown5 hgr5 _; have H5 : Hid (x5.ownsRow w.heap.size 39 1 v' (k + 1) ((idsOf (l.take (k + 1))).map (Value.int .u64)) ∧ Below w.heap.size w x5) := ⟨by rw [HT.out, List.map_append]; exact hown5, HB2.out.trans (below_gr ho (by simp; omega) hgr5)⟩; obtain ⟨ad5, cp5, hv5, _⟩ := row_shape hown5; subst hv5; clear hown5 hgr5 ho)
      go_roundw
      case rel => exact ⟨k + 1, ad5, cp5, by omega, by simp, rfl, H5.out⟩
      case measure => simp [intOf]; omega
    · obtain rfl : k = n := by omega
      have i2 : ¬ (k : Int) < (k : Int) := by omega
      go_wp2
      go_ret
      obtain ⟨ho, hB⟩ := H.out
      have hkl : (idsOf l).length = k := by simp [idsOf, hll]
      refine ⟨_, rfl, ?_, hB⟩
      rw [hkl]
      rw [List.take_of_length_le (by omega)] at ho
      exact ho
theorem Links_tree (a : Option Addr) (n c : Nat) (l : List Ent) (w : World) (h : Ents w a n l) (hf : Fields l) (hn : n ≤ 9223372036854775807) :
    Calls Try.prog 33 #[trV a n c] w fun e w' => ∃ v, e = .returned v ∧ w'.ownsRow w.heap.size 39 1 v (if treeErrs l = 0 then idsOf l else []).length ((if treeErrs l = 0 then idsOf l else []).map (Value.int .u64)) ∧ Below w.heap.size w w' := by
  have c1 := check_tree a n c l w h hf.name hn
  by_cases h0 : treeErrs l = 0
  · have hl := (fits_of hf h0).1
    have hll := h.1
    rw [if_pos h0]
    rw [h0] at c1
    have hk := fun w h => links_tree a n c l w h (by omega)
    generalize idsOf l = I at *
    go_enter Try.func33, Try.ntmps33
    go_wp2_with first
      | (go_at_call 50; refine c1.mono ?_; clear c1; rintro e w1 ⟨rfl, hB1⟩)
      | (go_at_call 59; refine (hk _ (h.below hB1)).mono ?_; clear hk; rintro e w2 ⟨v, rfl, ho, hB2⟩; have HO : Hid (w2.ownsRow w1.heap.size 39 1 v I.length (I.map (Value.int .u64))) := ho; obtain ⟨ad, cp, hv, _⟩ := row_shape ho; subst hv; clear ho)
    go_ret
    exact ⟨_, rfl, row_lower HO.out hB1.size, hB1.trans (hB2.mono hB1.size)⟩
  · rw [if_neg h0]
    have h0' : (treeErrs l == 0) = false := beq_eq_false_iff_ne.2 h0
    generalize treeErrs l = E at *
    go_enter Try.func33, Try.ntmps33
    go_wp2_with (go_at_call 50; refine c1.mono ?_; clear c1; rintro e w1 ⟨rfl, hB1⟩)
    go_ret
    exact ⟨_, rfl, World.ownsRow_nil _ _ _ _, hB1⟩
theorem tree_speaks (a : Option Addr) (n c : Nat) (l : List Ent) (w : World) (h : Ents w a n l) (hf : Fields l) (hn : n ≤ 9223372036854775807) :
    Speaks (trV a n c) 2 (if treeErrs l = 0 then treeB l else []) (treeErrs l) (if treeErrs l = 0 then idsOf l else []) w := by
  refine ⟨fun W hB => Check_tree a n c l W (h.below hB) hf.name hn, fun W _ => (kind_tree _ W).mono fun e w' h => ⟨h.1, h.2 ▸ Below.refl _ _⟩, fun W hB => ?_, fun W hB => ?_, fun W hB => ?_, fun W hB => Links_tree a n c l W (h.below hB) hf hn⟩
  · by_cases h0 : treeErrs l = 0
    · exact (Same_tree a n c l W (h.below hB) hf hn h0).mono fun e w' h => ⟨by rw [h.1, beq_iff_eq.2 h0], h.2⟩
    · exact (Same_tree_bad a n c l _ W (h.below hB) hf hn h0).mono fun e w' h => ⟨by rw [h.1, beq_eq_false_iff_ne.2 h0], h.2⟩
  · by_cases h0 : treeErrs l = 0
    · rw [if_pos h0, h0]
      exact Encode_tree a n c l W (h.below hB) hf hn h0
    · rw [if_neg h0]
      exact (Encode_tree_bad a n c l W (h.below hB) hf hn h0).mono fun e w' h => ⟨_, h.1, ⟨World.ownsRow_nil _ _ _ _⟩, h.2⟩
  · by_cases h0 : treeErrs l = 0
    · rw [if_pos h0, if_pos h0, h0]
      exact Of_tree a n c l W (h.below hB) hf hn h0
    · rw [if_neg h0]
      exact Of_tree_bad a n c l W (h.below hB) hf hn h0
end Go.Proofs.Ytdibdcbihleflaa
