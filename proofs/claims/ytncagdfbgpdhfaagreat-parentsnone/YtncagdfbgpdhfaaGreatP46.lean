import Derived.Test.YtncagdfbgpdhfaaGreatP45
/- The walk of wakes of layer 12, where a history is made (genwake12.py). -/
namespace Go.Proofs.YtncagdfbgpdhfaaGreat
open Go.RowKit Go.Shelf Go.Maps

attribute [local go_sem] Oper.semAt_some

theorem lit_id3 (W : World) (x y z : Int) (fz : Nat × Nat) : Ids (W.alloc (.cells #[.int .u64 x, .int .u64 y, .int .u64 z] 31 fz)) (some ⟨W.heap.size, 0, none⟩) 3 [x, y, z] := by
  have hb := World.alloc_heap_new W (.cells #[.int .u64 x, .int .u64 y, .int .u64 z] 31 fz)
  generalize W.alloc (.cells #[.int .u64 x, .int .u64 y, .int .u64 z] 31 fz) = W' at hb
  refine ⟨rfl, fun _ => ⟨W.heap.size, 0, rfl, fun i u hi => ?_⟩⟩
  match i, hi with
  | 0, hi => simp at hi; subst hi; simp [World.cell?, hb]
  | 1, hi => simp at hi; subst hi; simp [World.cell?, hb]
  | 2, hi => simp at hi; subst hi; simp [World.cell?, hb]
theorem ids_tail {W : World} {ig : Nat} {x y z : Int} (h : Ids W (some ⟨ig, 0, none⟩) 3 [x, y, z]) : Ids W (some ⟨ig, 1, none⟩) 2 [y, z] := by
  refine ⟨rfl, fun _ => ⟨ig, 1, rfl, fun i u hi => ?_⟩⟩
  obtain ⟨b, o, e, hc⟩ := h.2 (by omega)
  cases e
  have := hc (i + 1) u (by simpa using hi)
  rw [show (0 : Nat) + (i + 1) = 1 + i by omega] at this
  exact this
set_option maxRecDepth 100000 in
set_option maxHeartbeats 4000000 in
theorem wakes12_some (w : World) (st : St12) (hG : bornQ wake12L = some st) : Calls Tryz.prog 9 #[] w fun e w' => e = .returned (.bool true) ∧ Below w.heap.size w w' := by
  have hbo := born12_any (WB12 w) (some ⟨w.heap.size + 2, 0, none⟩) 3 3 wake12L (wake12_brs w) (by omega)
  have HB0 : Hid (Below w.heap.size w (WB12 w)) := WB12_below w
  rw [hG] at hbo
  obtain ⟨a0, a1, a2, hids, hd, p0, p1, p2, hol⟩ := wake12_facts hG
  obtain ⟨⟨g1, hg1, ho1⟩, ⟨g2, hg2, ho2⟩⟩ := wake12_order hd p0 p1 p2 hol
  have HW : Hid (st.ids = [a0, a1, a2] ∧ ordG st.os [a0, a1, a2] GS.none = .ok g1 ∧ redP st.os g1 [a0, a1, a2] = [a1, a2] ∧ ordG st.os [a1, a2] GS.none = .ok g2 ∧ basP st.os g2 a1 a2 = [a0]) := ⟨hids, hg1, ho1, hg2, ho2⟩
  clear hids hd p0 p1 p2 hol hg1 ho1 hg2 ho2 hG
  go_enter Tryz.func9, Tryz.ntmps9
  go_upto_region 4 with (go_at_call 10; refine hbo.mono ?_; clear hbo; rintro e w5 ⟨hB5, hb, s, d, S, F, G, X, nv, iv, ns, he, hI, ho5, hi5, hn5⟩; subst he; have H5 : Hid (Below w.heap.size w w5 ∧ In12 (WB12 w) w5 hb s d st S F G X nv iv ns ∧ st.os.length ≤ 41) := ⟨HB0.out.trans (hB5.mono HB0.out.size), hI, ho5⟩; clear hB5 hI ho5 hi5 hn5)
  have hI := H5.out.2.1
  have hir := hI.ir
  rw [HW.out.1] at hir
  obtain ⟨ia, ic, hiv, hic, _⟩ := row_shapeN hir
  subst hiv
  obtain ⟨ig, hig⟩ : ∃ ig, ia = some ⟨ig, 0, none⟩ := by
    rcases hir.2 with ⟨h0, h1⟩ | ⟨g, cap, cur, h0, _⟩
    · simp at h1
    · cases h0; exact ⟨g, rfl⟩
  subst hig
  have c0 := hI.c0
  have c2 := hI.c2
  have q0 : w5.cell? ⟨ig, 0, none⟩ = some (.int .u64 a0) := by rw [hir.cellAt 0 (by simp)]; rfl
  have q1 : w5.cell? ⟨ig, 1, none⟩ = some (.int .u64 a1) := by rw [hir.cellAt 1 (by simp)]; rfl
  have q2 : w5.cell? ⟨ig, 2, none⟩ = some (.int .u64 a2) := by rw [hir.cellAt 2 (by simp)]; rfl
  have hrg : (0 ≤ a0 ∧ a0 ≤ 18446744073709551615) ∧ (0 ≤ a1 ∧ a1 ≤ 18446744073709551615) ∧ (0 ≤ a2 ∧ a2 ≤ 18446744073709551615) := by
    have h1 := hI.ok.rng a0 (by rw [HW.out.1]; simp)
    have h2 := hI.ok.rng a1 (by rw [HW.out.1]; simp)
    have h3 := hI.ok.rng a2 (by rw [HW.out.1]; simp)
    exact ⟨h1.2, h2.2, h3.2⟩
  have HRG : Hid ((0 ≤ a0 ∧ a0 ≤ 18446744073709551615) ∧ (0 ≤ a1 ∧ a1 ≤ 18446744073709551615) ∧ (0 ≤ a2 ∧ a2 ≤ 18446744073709551615)) := hrg
  clear hrg
  have HT : Hid (∀ W, Below w5.heap.size w5 W → (W.cell? ⟨hb, 0, none⟩ = some (.pointer (some ⟨s, 0, none⟩)) ∧ W.cell? ⟨hb, 2, none⟩ = some (.slice (some ⟨ig, 0, none⟩) 3 ic) ∧ W.cell? ⟨ig, 0, none⟩ = some (.int .u64 a0) ∧ W.cell? ⟨ig, 1, none⟩ = some (.int .u64 a1) ∧ W.cell? ⟨ig, 2, none⟩ = some (.int .u64 a2)) ∧ Ids W (some ⟨ig, 0, none⟩) 3 [a0, a1, a2] ∧ IsSt W s d st.os (fileB (st.os.map obB)).length false F) := by
    intro W hW
    have hI' := hI.below hW
    have hir' := hI'.ir
    rw [HW.out.1] at hir'
    obtain ⟨x1, x2, x3, x4⟩ := own_ids hir'
    cases x3
    refine ⟨⟨hI'.c0, ?_, (hW.cell (p := ⟨ig, 0, none⟩) (World.block_lt_of_cell? w5 _ q0)).trans q0, (hW.cell (p := ⟨ig, 1, none⟩) (World.block_lt_of_cell? w5 _ q1)).trans q1, (hW.cell (p := ⟨ig, 2, none⟩) (World.block_lt_of_cell? w5 _ q2)).trans q2⟩, x4, hI'.sg.st⟩
    exact hI'.c2
  have HOL : Hid (st.os.length ≤ 65536) := by have := H5.out.2.2; show _ ≤ _; omega
  have HBW : Hid (Below w.heap.size w w5) := H5.out.1
  have hmx : Tryz.prog.follows .mixedOrders = true := by kernel_rfl
  have hic3 : 3 ≤ ic := hic
  clear hI hir hic H5
  have e4 : ([a0, a1, a2] : List Int).length = 3 := rfl
  rw [e4] at c2
  clear e4
  refine wp_region_G (S := SB 99 (fun _ => True) (fun W => W.cell? ⟨hb, 0, none⟩ = some (.pointer (some ⟨s, 0, none⟩)) ∧ W.cell? ⟨hb, 2, none⟩ = some (.slice (some ⟨ig, 0, none⟩) 3 ic) ∧ W.cell? ⟨ig, 0, none⟩ = some (.int .u64 a0) ∧ W.cell? ⟨ig, 1, none⟩ = some (.int .u64 a1) ∧ W.cell? ⟨ig, 2, none⟩ = some (.int .u64 a2))) hmx ?_
  have hSB : SB 99 (fun _ => True) (fun W => W.cell? ⟨hb, 0, none⟩ = some (.pointer (some ⟨s, 0, none⟩)) ∧ W.cell? ⟨hb, 2, none⟩ = some (.slice (some ⟨ig, 0, none⟩) 3 ic) ∧ W.cell? ⟨ig, 0, none⟩ = some (.int .u64 a0) ∧ W.cell? ⟨ig, 1, none⟩ = some (.int .u64 a1) ∧ W.cell? ⟨ig, 2, none⟩ = some (.int .u64 a2)) (Array.replicate 29 false) w5.drew := SB.on trivial ⟨c0, c2, q0, q1, q2⟩
  refine wpAnyG_takeP (i := 0) (v := ?_) rfl (by kernel_rfl) (by kernel_rfl) (by kernel_rfl) (fun _ _ _ h => h) rfl (Or.inl ⟨by rfl, ?_⟩) (by assumption) ?_
  rotate_left
  · intro Y hY; obtain ⟨f0, f2, f3, f4, f5⟩ := hY; go_simp; try with_reducible rfl
  intro hSB0
  try simp only [Act.put, List.getElem_toArray, List.getElem_cons_zero, List.setIfInBounds_toArray, List.set_cons_zero, List.set_cons_succ]
  refine wpAnyG_takeP (i := 1) (v := ?_) rfl (by kernel_rfl) (by kernel_rfl) (by kernel_rfl) (fun _ _ _ h => h) rfl (Or.inl ⟨by rfl, ?_⟩) (by assumption) ?_
  rotate_left
  · intro Y hY; obtain ⟨f0, f2, f3, f4, f5⟩ := hY; go_simp; try with_reducible rfl
  intro hSB1
  try simp only [Act.put, List.getElem_toArray, List.getElem_cons_zero, List.getElem_cons_succ, List.setIfInBounds_toArray, List.set_cons_zero, List.set_cons_succ]
  refine wpAnyG_takeP (i := 2) (v := ?_) rfl (by kernel_rfl) (by kernel_rfl) (by kernel_rfl) (fun _ _ _ h => h) rfl (Or.inl ⟨by rfl, ?_⟩) (by assumption) ?_
  rotate_left
  · intro Y hY; obtain ⟨f0, f2, f3, f4, f5⟩ := hY; go_simp; try with_reducible rfl
  intro hSB2
  try simp only [Act.put, List.getElem_toArray, List.getElem_cons_zero, List.getElem_cons_succ, List.setIfInBounds_toArray, List.set_cons_zero, List.set_cons_succ]
  refine wpAnyG_takeP (i := 3) (v := ?_) rfl (by kernel_rfl) (by kernel_rfl) (by kernel_rfl) (fun _ _ _ h => h) rfl (Or.inl ⟨by rfl, ?_⟩) (by assumption) ?_
  rotate_left
  · intro Y hY; obtain ⟨f0, f2, f3, f4, f5⟩ := hY; go_simp; try with_reducible rfl
  intro hSB3
  try simp only [Act.put, List.getElem_toArray, List.getElem_cons_zero, List.getElem_cons_succ, List.setIfInBounds_toArray, List.set_cons_zero, List.set_cons_succ]
  refine wpAnyG_takeP (i := 4) (v := ?_) rfl (by kernel_rfl) (by kernel_rfl) (by kernel_rfl) (fun _ _ _ h => h) rfl (Or.inl ⟨by rfl, ?_⟩) (by assumption) ?_
  rotate_left
  · intro Y hY; obtain ⟨f0, f2, f3, f4, f5⟩ := hY; go_simp; try with_reducible rfl
  intro hSB4
  try simp only [Act.put, List.getElem_toArray, List.getElem_cons_zero, List.getElem_cons_succ, List.setIfInBounds_toArray, List.set_cons_zero, List.set_cons_succ]
  refine wpAnyG_takeP (i := 5) (v := ?_) rfl (by kernel_rfl) (by kernel_rfl) (by kernel_rfl) (fun _ _ _ h => h) rfl (Or.inl ⟨by rfl, ?_⟩) (by assumption) ?_
  rotate_left
  · intro Y hY; obtain ⟨f0, f2, f3, f4, f5⟩ := hY; go_simp; try with_reducible rfl
  intro hSB5
  try simp only [Act.put, List.getElem_toArray, List.getElem_cons_zero, List.getElem_cons_succ, List.setIfInBounds_toArray, List.set_cons_zero, List.set_cons_succ]
  refine wpAnyG_takeP (i := 6) (v := ?_) rfl (by kernel_rfl) (by kernel_rfl) (by kernel_rfl) (fun _ _ _ h => h) rfl (Or.inl ⟨by rfl, ?_⟩) (by assumption) ?_
  rotate_left
  · intro Y hY; obtain ⟨f0, f2, f3, f4, f5⟩ := hY; go_simp; try with_reducible rfl
  intro hSB6
  try simp only [Act.put, List.getElem_toArray, List.getElem_cons_zero, List.getElem_cons_succ, List.setIfInBounds_toArray, List.set_cons_zero, List.set_cons_succ]
  refine wpAnyG_takeP (i := 7) (v := ?_) rfl (by kernel_rfl) (by kernel_rfl) (by kernel_rfl) (fun _ _ _ h => h) rfl (Or.inl ⟨by rfl, ?_⟩) (by assumption) ?_
  rotate_left
  · intro Y hY; obtain ⟨f0, f2, f3, f4, f5⟩ := hY; go_simp; try with_reducible rfl
  intro hSB7
  try simp only [Act.put, List.getElem_toArray, List.getElem_cons_zero, List.getElem_cons_succ, List.setIfInBounds_toArray, List.set_cons_zero, List.set_cons_succ]
  refine wpAnyG_takeP (i := 8) (v := ?_) rfl (by kernel_rfl) (by kernel_rfl) (by kernel_rfl) (fun _ _ _ h => h) rfl (Or.inl ⟨by rfl, ?_⟩) (by assumption) ?_
  rotate_left
  · intro Y hY; obtain ⟨f0, f2, f3, f4, f5⟩ := hY; go_simp; try with_reducible rfl
  intro hSB8
  try simp only [Act.put, List.getElem_toArray, List.getElem_cons_zero, List.getElem_cons_succ, List.setIfInBounds_toArray, List.set_cons_zero, List.set_cons_succ]
  refine wpAnyG_takeP (i := 9) (v := ?_) rfl (by kernel_rfl) (by kernel_rfl) (by kernel_rfl) (fun _ _ _ h => h) rfl (Or.inl ⟨by rfl, ?_⟩) (by assumption) ?_
  rotate_left
  · intro Y hY; obtain ⟨f0, f2, f3, f4, f5⟩ := hY; go_simp; try with_reducible rfl
  intro hSB9
  try simp only [Act.put, List.getElem_toArray, List.getElem_cons_zero, List.getElem_cons_succ, List.setIfInBounds_toArray, List.set_cons_zero, List.set_cons_succ]
  refine wpAnyG_takeP (i := 10) (v := ?_) rfl (by kernel_rfl) (by kernel_rfl) (by kernel_rfl) (fun _ _ _ h => h) rfl (Or.inl ⟨by rfl, ?_⟩) (by assumption) ?_
  rotate_left
  · intro Y hY; obtain ⟨f0, f2, f3, f4, f5⟩ := hY; go_simp; try with_reducible rfl
  intro hSB10
  try simp only [Act.put, List.getElem_toArray, List.getElem_cons_zero, List.getElem_cons_succ, List.setIfInBounds_toArray, List.set_cons_zero, List.set_cons_succ]
  refine wpAnyG_takeP (i := 11) (v := ?_) rfl (by kernel_rfl) (by kernel_rfl) (by kernel_rfl) (fun _ _ _ h => h) rfl (Or.inl ⟨by rfl, ?_⟩) (by assumption) ?_
  rotate_left
  · intro Y hY; obtain ⟨f0, f2, f3, f4, f5⟩ := hY; go_simp; try with_reducible rfl
  intro hSB11
  try simp only [Act.put, List.getElem_toArray, List.getElem_cons_zero, List.getElem_cons_succ, List.setIfInBounds_toArray, List.set_cons_zero, List.set_cons_succ]
  refine wpAnyG_takeP (i := 12) (v := ?_) rfl (by kernel_rfl) (by kernel_rfl) (by kernel_rfl) (fun _ _ _ h => h) rfl (Or.inl ⟨by rfl, ?_⟩) (by assumption) ?_
  rotate_left
  · intro Y hY; obtain ⟨f0, f2, f3, f4, f5⟩ := hY; go_simp; try with_reducible rfl
  intro hSB12
  try simp only [Act.put, List.getElem_toArray, List.getElem_cons_zero, List.getElem_cons_succ, List.setIfInBounds_toArray, List.set_cons_zero, List.set_cons_succ]
  refine wpAnyG_takeP (i := 13) (v := ?_) rfl (by kernel_rfl) (by kernel_rfl) (by kernel_rfl) (fun _ _ _ h => h) rfl (Or.inl ⟨by rfl, ?_⟩) (by assumption) ?_
  rotate_left
  · intro Y hY; obtain ⟨f0, f2, f3, f4, f5⟩ := hY; go_simp; try with_reducible rfl
  intro hSB13
  try simp only [Act.put, List.getElem_toArray, List.getElem_cons_zero, List.getElem_cons_succ, List.setIfInBounds_toArray, List.set_cons_zero, List.set_cons_succ]
  refine wpAnyG_takeP (i := 14) (v := ?_) rfl (by kernel_rfl) (by kernel_rfl) (by kernel_rfl) (fun _ _ _ h => h) rfl (Or.inl ⟨by rfl, ?_⟩) (by assumption) ?_
  rotate_left
  · intro Y hY; obtain ⟨f0, f2, f3, f4, f5⟩ := hY; go_simp; try with_reducible rfl
  intro hSB14
  try simp only [Act.put, List.getElem_toArray, List.getElem_cons_zero, List.getElem_cons_succ, List.setIfInBounds_toArray, List.set_cons_zero, List.set_cons_succ]
  refine wpAnyG_takeP (i := 15) (v := ?_) rfl (by kernel_rfl) (by kernel_rfl) (by kernel_rfl) (fun _ _ _ h => h) rfl (Or.inl ⟨by rfl, ?_⟩) (by assumption) ?_
  rotate_left
  · intro Y hY; obtain ⟨f0, f2, f3, f4, f5⟩ := hY; go_simp; try with_reducible rfl
  intro hSB15
  try simp only [Act.put, List.getElem_toArray, List.getElem_cons_zero, List.getElem_cons_succ, List.setIfInBounds_toArray, List.set_cons_zero, List.set_cons_succ]
  refine wpAnyG_takeP (i := 16) (v := ?_) rfl (by kernel_rfl) (by kernel_rfl) (by kernel_rfl) (fun _ _ _ h => h) rfl (Or.inl ⟨by rfl, ?_⟩) (by assumption) ?_
  rotate_left
  · intro Y hY; obtain ⟨f0, f2, f3, f4, f5⟩ := hY; go_simp; try with_reducible rfl
  intro hSB16
  try simp only [Act.put, List.getElem_toArray, List.getElem_cons_zero, List.getElem_cons_succ, List.setIfInBounds_toArray, List.set_cons_zero, List.set_cons_succ]
  refine wpAnyG_takeP (i := 17) (v := ?_) rfl (by kernel_rfl) (by kernel_rfl) (by kernel_rfl) (fun _ _ _ h => h) rfl (Or.inl ⟨by rfl, ?_⟩) (by assumption) ?_
  rotate_left
  · intro Y hY; obtain ⟨f0, f2, f3, f4, f5⟩ := hY; go_simp; try with_reducible rfl
  intro hSB17
  try simp only [Act.put, List.getElem_toArray, List.getElem_cons_zero, List.getElem_cons_succ, List.setIfInBounds_toArray, List.set_cons_zero, List.set_cons_succ]
  refine wpAnyG_takeP (i := 18) (v := ?_) rfl (by kernel_rfl) (by kernel_rfl) (by kernel_rfl) (fun _ _ _ h => h) rfl (Or.inl ⟨by rfl, ?_⟩) (by assumption) ?_
  rotate_left
  · intro Y hY; obtain ⟨f0, f2, f3, f4, f5⟩ := hY; go_simp; try with_reducible rfl
  intro hSB18
  try simp only [Act.put, List.getElem_toArray, List.getElem_cons_zero, List.getElem_cons_succ, List.setIfInBounds_toArray, List.set_cons_zero, List.set_cons_succ]
  refine wpAnyG_takeP (i := 19) (v := ?_) rfl (by kernel_rfl) (by kernel_rfl) (by kernel_rfl) (fun _ _ _ h => h) rfl (Or.inl ⟨by rfl, ?_⟩) (by assumption) ?_
  rotate_left
  · intro Y hY; obtain ⟨f0, f2, f3, f4, f5⟩ := hY; go_simp; try with_reducible rfl
  intro hSB19
  try simp only [Act.put, List.getElem_toArray, List.getElem_cons_zero, List.getElem_cons_succ, List.setIfInBounds_toArray, List.set_cons_zero, List.set_cons_succ]
  refine wpAnyG_takeP (i := 20) (v := ?_) rfl (by kernel_rfl) (by kernel_rfl) (by kernel_rfl) (fun _ _ _ h => h) rfl (Or.inl ⟨by rfl, ?_⟩) (by assumption) ?_
  rotate_left
  · intro Y hY; obtain ⟨f0, f2, f3, f4, f5⟩ := hY; go_simp; try with_reducible rfl
  intro hSB20
  try simp only [Act.put, List.getElem_toArray, List.getElem_cons_zero, List.getElem_cons_succ, List.setIfInBounds_toArray, List.set_cons_zero, List.set_cons_succ]
  refine wpAnyG_takeP (i := 21) (v := ?_) rfl (by kernel_rfl) (by kernel_rfl) (by kernel_rfl) (fun _ _ _ h => h) rfl (Or.inl ⟨by rfl, ?_⟩) (by assumption) ?_
  rotate_left
  · intro Y hY; obtain ⟨f0, f2, f3, f4, f5⟩ := hY; go_simp; try with_reducible rfl
  intro hSB21
  try simp only [Act.put, List.getElem_toArray, List.getElem_cons_zero, List.getElem_cons_succ, List.setIfInBounds_toArray, List.set_cons_zero, List.set_cons_succ]
  have hB6 : Below w5.heap.size w5 (w5.alloc (.cells #[.int .u64 a0, .int .u64 a1, .int .u64 a2] 31)).drew := ((Below.refl _ w5).alloc (Nat.le_refl _) _).trans ⟨rfl, rfl, rfl, Nat.le_refl _, fun _ _ => rfl⟩
  refine wpAnyG_one (i := 22) (by kernel_rfl) rfl (fun K hK => ?_)
  go_simp
  refine hK.out _ _ (SB.on trivial (HT.out _ hB6).1) (fun hSB22 => ?_)
  clear hK K
  try simp only [Act.put, List.getElem_toArray, List.getElem_cons_zero, List.getElem_cons_succ, List.setIfInBounds_toArray, List.set_cons_zero, List.set_cons_succ]
  refine wpAnyG_one (i := 23) (by kernel_rfl) rfl (fun K hK => ?_)
  go_simp
  have hor := reduce_ok (w5.alloc (.cells #[.int .u64 a0, .int .u64 a1, .int .u64 a2] 31)).drew s d st.os _ false F (HT.out _ hB6).2.2 HOL.out (some ⟨w5.heap.size, 0, none⟩) 3 3 [a0, a1, a2] (lit_id3 w5 a0 a1 a2 (0, 0)) (fun x hx => by simp at hx; rcases hx with rfl | rfl | rfl; exact HRG.out.1; exact HRG.out.2.1; exact HRG.out.2.2) (Nat.le_refl _) (by omega) g1 HW.out.2.1
  rw [HW.out.2.2.1] at hor
  refine hor.mono ?_
  clear hor
  rintro e w6 ⟨⟨ad, cp, he, hrow6⟩, hB7⟩
  have he' : e = .returned (.tuple #[.slice ad 2 cp, .int .i64 0]) := he
  subst he'
  clear he
  have hB56 : Below w5.heap.size w5 w6 := hB6.trans (hB7.mono hB6.size)
  have HR6 : Hid (w6.ownsRow w5.heap.size 31 1 (.slice ad 2 cp) 2 ([a1, a2].map (Value.int .u64))) := row_low hrow6 hB6.size
  clear hrow6
  refine hK.out _ _ (SB.on trivial (HT.out _ hB56).1) (fun hSB23 => ?_)
  clear hK K
  try simp only [Act.put, List.getElem_toArray, List.getElem_cons_zero, List.getElem_cons_succ, List.setIfInBounds_toArray, List.set_cons_zero, List.set_cons_succ]
  refine wpAnyG_takeP (i := 24) (v := ?_) rfl (by kernel_rfl) (by kernel_rfl) (by kernel_rfl) (fun _ _ _ h => h) rfl (Or.inl ⟨by rfl, ?_⟩) (by assumption) ?_
  rotate_left
  · intro Y hY; obtain ⟨f0, f2, f3, f4, f5⟩ := hY; go_simp; try with_reducible rfl
  intro hSB24
  try simp only [Act.put, List.getElem_toArray, List.getElem_cons_zero, List.getElem_cons_succ, List.setIfInBounds_toArray, List.set_cons_zero, List.set_cons_succ]
  refine wpAnyG_takeP (i := 25) (v := ?_) rfl (by kernel_rfl) (by kernel_rfl) (by kernel_rfl) (fun _ _ _ h => h) rfl (Or.inl ⟨by rfl, ?_⟩) (by assumption) ?_
  rotate_left
  · intro Y hY; obtain ⟨f0, f2, f3, f4, f5⟩ := hY; go_simp; try with_reducible rfl
  intro hSB25
  try simp only [Act.put, List.getElem_toArray, List.getElem_cons_zero, List.getElem_cons_succ, List.setIfInBounds_toArray, List.set_cons_zero, List.set_cons_succ]
  refine wpAnyG_takeP (i := 26) (v := ?_) rfl (by kernel_rfl) (by kernel_rfl) (by kernel_rfl) (fun _ _ _ h => h) rfl (Or.inl ⟨by rfl, ?_⟩) (by assumption) ?_
  rotate_left
  · intro Y hY; obtain ⟨f0, f2, f3, f4, f5⟩ := hY; go_simp; try with_reducible rfl
  intro hSB26
  try simp only [Act.put, List.getElem_toArray, List.getElem_cons_zero, List.getElem_cons_succ, List.setIfInBounds_toArray, List.set_cons_zero, List.set_cons_succ]
  refine wpAnyG_takeP (i := 27) (v := ?_) rfl (by kernel_rfl) (by kernel_rfl) (by kernel_rfl) (fun _ _ _ h => h) rfl (Or.inl ⟨by rfl, ?_⟩) (by assumption) ?_
  rotate_left
  · intro Y hY; obtain ⟨f0, f2, f3, f4, f5⟩ := hY; go_simp; try with_reducible rfl
  intro hSB27
  try simp only [Act.put, List.getElem_toArray, List.getElem_cons_zero, List.getElem_cons_succ, List.setIfInBounds_toArray, List.set_cons_zero, List.set_cons_succ]
  refine wpAnyG_takeP (i := 28) (v := ?_) rfl (by kernel_rfl) (by kernel_rfl) (by kernel_rfl) (fun _ _ _ h => h) rfl (Or.inl ⟨by rfl, ?_⟩) (by assumption) ?_
  rotate_left
  · intro Y hY; obtain ⟨f0, f2, f3, f4, f5⟩ := hY; go_simp; try with_reducible rfl
  intro hSB28
  try simp only [Act.put, List.getElem_toArray, List.getElem_cons_zero, List.getElem_cons_succ, List.setIfInBounds_toArray, List.set_cons_zero, List.set_cons_succ]
  refine wpAnyG_done (by kernel_rfl) ?_ _
  obtain ⟨d0, d2, d3, d4, d5⟩ := (HT.out _ hB56).1
  go_upto_region 5 with fail
  refine wp_region_G (S := SB 99 (fun _ => True) (fun W => W.cell? ⟨hb, 0, none⟩ = some (.pointer (some ⟨s, 0, none⟩)) ∧ W.cell? ⟨hb, 2, none⟩ = some (.slice (some ⟨ig, 0, none⟩) 3 ic) ∧ W.cell? ⟨ig, 0, none⟩ = some (.int .u64 a0) ∧ W.cell? ⟨ig, 1, none⟩ = some (.int .u64 a1) ∧ W.cell? ⟨ig, 2, none⟩ = some (.int .u64 a2))) hmx ?_
  have hSC : SB 99 (fun _ => True) (fun W => W.cell? ⟨hb, 0, none⟩ = some (.pointer (some ⟨s, 0, none⟩)) ∧ W.cell? ⟨hb, 2, none⟩ = some (.slice (some ⟨ig, 0, none⟩) 3 ic) ∧ W.cell? ⟨ig, 0, none⟩ = some (.int .u64 a0) ∧ W.cell? ⟨ig, 1, none⟩ = some (.int .u64 a1) ∧ W.cell? ⟨ig, 2, none⟩ = some (.int .u64 a2)) (Array.replicate 22 false) w6.drew := SB.on trivial ⟨d0, d2, d3, d4, d5⟩
  refine wpAnyG_takeP (i := 0) (v := ?_) rfl (by kernel_rfl) (by kernel_rfl) (by kernel_rfl) (fun _ _ _ h => h) rfl (Or.inl ⟨by rfl, ?_⟩) (by assumption) ?_
  rotate_left
  · intro Y hY; obtain ⟨f0, f2, f3, f4, f5⟩ := hY; go_simp; try with_reducible rfl
  intro hSB0
  try simp only [Act.put, List.getElem_toArray, List.getElem_cons_zero, List.setIfInBounds_toArray, List.set_cons_zero, List.set_cons_succ]
  refine wpAnyG_takeP (i := 1) (v := ?_) rfl (by kernel_rfl) (by kernel_rfl) (by kernel_rfl) (fun _ _ _ h => h) rfl (Or.inl ⟨by rfl, ?_⟩) (by assumption) ?_
  rotate_left
  · intro Y hY; obtain ⟨f0, f2, f3, f4, f5⟩ := hY; go_simp; try with_reducible rfl
  intro hSB1
  try simp only [Act.put, List.getElem_toArray, List.getElem_cons_zero, List.getElem_cons_succ, List.setIfInBounds_toArray, List.set_cons_zero, List.set_cons_succ]
  refine wpAnyG_takeP (i := 2) (v := ?_) rfl (by kernel_rfl) (by kernel_rfl) (by kernel_rfl) (fun _ _ _ h => h) rfl (Or.inl ⟨by rfl, ?_⟩) (by assumption) ?_
  rotate_left
  · intro Y hY; obtain ⟨f0, f2, f3, f4, f5⟩ := hY; go_simp; try with_reducible rfl
  intro hSB2
  try simp only [Act.put, List.getElem_toArray, List.getElem_cons_zero, List.getElem_cons_succ, List.setIfInBounds_toArray, List.set_cons_zero, List.set_cons_succ]
  refine wpAnyG_takeP (i := 3) (v := ?_) rfl (by kernel_rfl) (by kernel_rfl) (by kernel_rfl) (fun _ _ _ h => h) rfl (Or.inl ⟨by rfl, ?_⟩) (by assumption) ?_
  rotate_left
  · intro Y hY; obtain ⟨f0, f2, f3, f4, f5⟩ := hY; go_simp; try with_reducible rfl
  intro hSB3
  try simp only [Act.put, List.getElem_toArray, List.getElem_cons_zero, List.getElem_cons_succ, List.setIfInBounds_toArray, List.set_cons_zero, List.set_cons_succ]
  refine wpAnyG_takeP (i := 4) (v := ?_) rfl (by kernel_rfl) (by kernel_rfl) (by kernel_rfl) (fun _ _ _ h => h) rfl (Or.inl ⟨by rfl, ?_⟩) (by assumption) ?_
  rotate_left
  · intro Y hY; obtain ⟨f0, f2, f3, f4, f5⟩ := hY; go_simp; try with_reducible rfl
  intro hSB4
  try simp only [Act.put, List.getElem_toArray, List.getElem_cons_zero, List.getElem_cons_succ, List.setIfInBounds_toArray, List.set_cons_zero, List.set_cons_succ]
  refine wpAnyG_takeP (i := 5) (v := ?_) rfl (by kernel_rfl) (by kernel_rfl) (by kernel_rfl) (fun _ _ _ h => h) rfl (Or.inl ⟨by rfl, ?_⟩) (by assumption) ?_
  rotate_left
  · intro Y hY; obtain ⟨f0, f2, f3, f4, f5⟩ := hY; go_simp; try with_reducible rfl
  intro hSB5
  try simp only [Act.put, List.getElem_toArray, List.getElem_cons_zero, List.getElem_cons_succ, List.setIfInBounds_toArray, List.set_cons_zero, List.set_cons_succ]
  refine wpAnyG_takeP (i := 6) (v := ?_) rfl (by kernel_rfl) (by kernel_rfl) (by kernel_rfl) (fun _ _ _ h => h) rfl (Or.inl ⟨by rfl, ?_⟩) (by assumption) ?_
  rotate_left
  · intro Y hY; obtain ⟨f0, f2, f3, f4, f5⟩ := hY; go_simp; try with_reducible rfl
  intro hSB6
  try simp only [Act.put, List.getElem_toArray, List.getElem_cons_zero, List.getElem_cons_succ, List.setIfInBounds_toArray, List.set_cons_zero, List.set_cons_succ]
  refine wpAnyG_takeP (i := 7) (v := ?_) rfl (by kernel_rfl) (by kernel_rfl) (by kernel_rfl) (fun _ _ _ h => h) rfl (Or.inl ⟨by rfl, ?_⟩) (by assumption) ?_
  rotate_left
  · intro Y hY; obtain ⟨f0, f2, f3, f4, f5⟩ := hY; go_simp; try with_reducible rfl
  intro hSB7
  try simp only [Act.put, List.getElem_toArray, List.getElem_cons_zero, List.getElem_cons_succ, List.setIfInBounds_toArray, List.set_cons_zero, List.set_cons_succ]
  refine wpAnyG_takeP (i := 8) (v := ?_) rfl (by kernel_rfl) (by kernel_rfl) (by kernel_rfl) (fun _ _ _ h => h) rfl (Or.inl ⟨by rfl, ?_⟩) (by assumption) ?_
  rotate_left
  · intro Y hY; obtain ⟨f0, f2, f3, f4, f5⟩ := hY; go_simp; try with_reducible rfl
  intro hSB8
  try simp only [Act.put, List.getElem_toArray, List.getElem_cons_zero, List.getElem_cons_succ, List.setIfInBounds_toArray, List.set_cons_zero, List.set_cons_succ]
  refine wpAnyG_takeP (i := 9) (v := ?_) rfl (by kernel_rfl) (by kernel_rfl) (by kernel_rfl) (fun _ _ _ h => h) rfl (Or.inl ⟨by rfl, ?_⟩) (by assumption) ?_
  rotate_left
  · intro Y hY; obtain ⟨f0, f2, f3, f4, f5⟩ := hY; go_simp; try with_reducible rfl
  intro hSB9
  try simp only [Act.put, List.getElem_toArray, List.getElem_cons_zero, List.getElem_cons_succ, List.setIfInBounds_toArray, List.set_cons_zero, List.set_cons_succ]
  refine wpAnyG_takeP (i := 10) (v := ?_) rfl (by kernel_rfl) (by kernel_rfl) (by kernel_rfl) (fun _ _ _ h => h) rfl (Or.inl ⟨by rfl, ?_⟩) (by assumption) ?_
  rotate_left
  · intro Y hY; obtain ⟨f0, f2, f3, f4, f5⟩ := hY; go_simp; try with_reducible rfl
  intro hSB10
  try simp only [Act.put, List.getElem_toArray, List.getElem_cons_zero, List.getElem_cons_succ, List.setIfInBounds_toArray, List.set_cons_zero, List.set_cons_succ]
  refine wpAnyG_takeP (i := 11) (v := ?_) rfl (by kernel_rfl) (by kernel_rfl) (by kernel_rfl) (fun _ _ _ h => h) rfl (Or.inl ⟨by rfl, ?_⟩) (by assumption) ?_
  rotate_left
  · intro Y hY; obtain ⟨f0, f2, f3, f4, f5⟩ := hY; go_simp; try with_reducible rfl
  intro hSB11
  try simp only [Act.put, List.getElem_toArray, List.getElem_cons_zero, List.getElem_cons_succ, List.setIfInBounds_toArray, List.set_cons_zero, List.set_cons_succ]
  refine wpAnyG_takeP (i := 12) (v := ?_) rfl (by kernel_rfl) (by kernel_rfl) (by kernel_rfl) (fun _ _ _ h => h) rfl (Or.inl ⟨by rfl, ?_⟩) (by assumption) ?_
  rotate_left
  · intro Y hY; obtain ⟨f0, f2, f3, f4, f5⟩ := hY; go_simp; try with_reducible rfl
  intro hSB12
  try simp only [Act.put, List.getElem_toArray, List.getElem_cons_zero, List.getElem_cons_succ, List.setIfInBounds_toArray, List.set_cons_zero, List.set_cons_succ]
  refine wpAnyG_takeP (i := 13) (v := ?_) rfl (by kernel_rfl) (by kernel_rfl) (by kernel_rfl) (fun _ _ _ h => h) rfl (Or.inl ⟨by rfl, ?_⟩) (by assumption) ?_
  rotate_left
  · intro Y hY; obtain ⟨f0, f2, f3, f4, f5⟩ := hY; go_simp; try with_reducible rfl
  intro hSB13
  try simp only [Act.put, List.getElem_toArray, List.getElem_cons_zero, List.getElem_cons_succ, List.setIfInBounds_toArray, List.set_cons_zero, List.set_cons_succ]
  refine wpAnyG_takeP (i := 14) (v := ?_) rfl (by kernel_rfl) (by kernel_rfl) (by kernel_rfl) (fun _ _ _ h => h) rfl (Or.inl ⟨by rfl, ?_⟩) (by assumption) ?_
  rotate_left
  · intro Y hY; obtain ⟨f0, f2, f3, f4, f5⟩ := hY; go_simp; try with_reducible rfl
  intro hSB14
  try simp only [Act.put, List.getElem_toArray, List.getElem_cons_zero, List.getElem_cons_succ, List.setIfInBounds_toArray, List.set_cons_zero, List.set_cons_succ]
  refine wpAnyG_takeP (i := 15) (v := ?_) rfl (by kernel_rfl) (by kernel_rfl) (by kernel_rfl) (fun _ _ _ h => h) rfl (Or.inl ⟨by rfl, ?_⟩) (by assumption) ?_
  rotate_left
  · intro Y hY; obtain ⟨f0, f2, f3, f4, f5⟩ := hY; go_simp; try with_reducible rfl
  intro hSB15
  try simp only [Act.put, List.getElem_toArray, List.getElem_cons_zero, List.getElem_cons_succ, List.setIfInBounds_toArray, List.set_cons_zero, List.set_cons_succ]
  refine wpAnyG_one (i := 16) (by kernel_rfl) rfl (fun K hK => ?_)
  go_simp
  have hB6d : Below w5.heap.size w5 w6.drew := hB56.trans ⟨rfl, rfl, rfl, Nat.le_refl _, fun _ _ => rfl⟩
  have han := base_ok w6.drew s d st.os _ false F (HT.out _ hB6d).2.2 HOL.out a1 a2 HRG.out.2.1 HRG.out.2.2 g2 HW.out.2.2.2.1
  rw [HW.out.2.2.2.2, if_neg (by simp)] at han
  refine han.mono ?_
  clear han
  rintro e w7 ⟨he, hB8⟩
  have he' : e = .returned (.tuple #[.int .u64 a0, .int .i64 0]) := he
  subst he'
  clear he
  have hB57 : Below w5.heap.size w5 w7 := hB6d.trans (hB8.mono hB6d.size)
  have hr7 : w7.ownsRow w5.heap.size 31 1 (.slice ad 2 cp) 2 ([a1, a2].map (Value.int .u64)) := row_moved HR6.out fun z hz => hB8.block z (HR6.out.lt z hz).2
  refine hK.out _ _ (SB.on trivial (HT.out _ hB57).1) (fun hSB16 => ?_)
  clear hK K
  try simp only [Act.put, List.getElem_toArray, List.getElem_cons_zero, List.getElem_cons_succ, List.setIfInBounds_toArray, List.set_cons_zero, List.set_cons_succ]
  refine wpAnyG_takeP (i := 17) (v := ?_) rfl (by kernel_rfl) (by kernel_rfl) (by kernel_rfl) (fun _ _ _ h => h) rfl (Or.inl ⟨by rfl, ?_⟩) (by assumption) ?_
  rotate_left
  · intro Y hY; obtain ⟨f0, f2, f3, f4, f5⟩ := hY; go_simp; try with_reducible rfl
  intro hSB17
  try simp only [Act.put, List.getElem_toArray, List.getElem_cons_zero, List.getElem_cons_succ, List.setIfInBounds_toArray, List.set_cons_zero, List.set_cons_succ]
  refine wpAnyG_takeP (i := 18) (v := ?_) rfl (by kernel_rfl) (by kernel_rfl) (by kernel_rfl) (fun _ _ _ h => h) rfl (Or.inl ⟨by rfl, ?_⟩) (by assumption) ?_
  rotate_left
  · intro Y hY; obtain ⟨f0, f2, f3, f4, f5⟩ := hY; go_simp; try with_reducible rfl
  intro hSB18
  try simp only [Act.put, List.getElem_toArray, List.getElem_cons_zero, List.getElem_cons_succ, List.setIfInBounds_toArray, List.set_cons_zero, List.set_cons_succ]
  refine wpAnyG_takeP (i := 19) (v := ?_) rfl (by kernel_rfl) (by kernel_rfl) (by kernel_rfl) (fun _ _ _ h => h) rfl (Or.inl ⟨by rfl, ?_⟩) (by assumption) ?_
  rotate_left
  · intro Y hY; obtain ⟨f0, f2, f3, f4, f5⟩ := hY; go_simp; try with_reducible rfl
  intro hSB19
  try simp only [Act.put, List.getElem_toArray, List.getElem_cons_zero, List.getElem_cons_succ, List.setIfInBounds_toArray, List.set_cons_zero, List.set_cons_succ]
  refine wpAnyG_takeP (i := 20) (v := ?_) rfl (by kernel_rfl) (by kernel_rfl) (by kernel_rfl) (fun _ _ _ h => h) rfl (Or.inl ⟨by rfl, ?_⟩) (by assumption) ?_
  rotate_left
  · intro Y hY; obtain ⟨f0, f2, f3, f4, f5⟩ := hY; go_simp; try with_reducible rfl
  intro hSB20
  try simp only [Act.put, List.getElem_toArray, List.getElem_cons_zero, List.getElem_cons_succ, List.setIfInBounds_toArray, List.set_cons_zero, List.set_cons_succ]
  refine wpAnyG_takeP (i := 21) (v := ?_) rfl (by kernel_rfl) (by kernel_rfl) (by kernel_rfl) (fun _ _ _ h => h) rfl (Or.inl ⟨by rfl, ?_⟩) (by assumption) ?_
  rotate_left
  · intro Y hY; obtain ⟨f0, f2, f3, f4, f5⟩ := hY; go_simp; try with_reducible rfl
  intro hSB21
  try simp only [Act.put, List.getElem_toArray, List.getElem_cons_zero, List.getElem_cons_succ, List.setIfInBounds_toArray, List.set_cons_zero, List.set_cons_succ]
  refine wpAnyG_done (by kernel_rfl) ?_ _
  obtain ⟨k0, k2, k3, k4, k5⟩ := (HT.out _ hB57).1
  obtain ⟨x1, x2, x3, hI7⟩ := own_ids (ids := [a1, a2]) hr7
  cases x3
  have hsm := same12_any w7 ad (some ⟨ig, 1, none⟩) 2 2 cp (ic - 1) [a1, a2] [a1, a2] hI7 (ids_tail (HT.out _ hB57).2.1) (by omega) (by omega)
  rw [beq_self_eq_true] at hsm
  have HB7 : Hid (Below w.heap.size w w7) := HBW.out.trans (hB57.mono HBW.out.size)
  have HT8 : Hid (∀ W, Below w7.heap.size w7 W → W.cell? ⟨hb, 2, none⟩ = some (.slice (some ⟨ig, 0, none⟩) 3 ic) ∧ W.cell? ⟨ig, 0, none⟩ = some (.int .u64 a0)) := fun W hW => ⟨(HT.out W (hB57.trans (hW.mono hB57.size))).1.2.1, (HT.out W (hB57.trans (hW.mono hB57.size))).1.2.2.1⟩
  go_wp2_with (go_at_call 15; refine hsm.mono ?_; clear hsm; rintro e w8 ⟨rfl, hB9⟩; have HB8 : Hid (Below w.heap.size w w8) := HB7.out.trans (hB9.mono HB7.out.size); obtain ⟨m2, m0⟩ := HT8.out w8 hB9; clear hB9)
  go_ret
  exact ⟨rfl, HB8.out⟩
theorem wakes12_any (w : World) : Calls Tryz.prog 9 #[] w fun e w' => e = .returned (.bool true) ∧ Below w.heap.size w w' := by
  cases h : bornQ wake12L with
  | none => exact wakes12_none w h
  | some st => exact wakes12_some w st h
end Go.Proofs.YtncagdfbgpdhfaaGreat
