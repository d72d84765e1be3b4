import Derived.Test.YtojpbemfbjkjjaaGreatL36
import Derived.Test.YtojpbemfbjkjjaaGreatL38
/- The walk of the law's wakes: four commits, gone through. -/
namespace Go.Proofs.YtojpbemfbjkjjaaGreat
open Go.RowKit Go.Shelf Go.Maps

attribute [local go_sem] Oper.semAt_some

theorem lit_id1 (W : World) (x : Int) (fz : Nat × Nat) : Ids (W.alloc (.cells #[.int .u64 x] 31 fz)) (some ⟨W.heap.size, 0, none⟩) 1 [x] := by
  have hb := World.alloc_heap_new W (.cells #[.int .u64 x] 31 fz)
  generalize W.alloc (.cells #[.int .u64 x] 31 fz) = W' at hb
  refine ⟨rfl, fun _ => ⟨W.heap.size, 0, rfl, fun i z hi => ?_⟩⟩
  match i, hi with
  | 0, hi => simp at hi; subst hi; simp [World.cell?, hb]
/-- the four commits in memory -/
abbrev WB (w : World) : World := ((((w.alloc (.cells #[.int .i64 0] 3)).alloc (.cells #[.int .i64 1] 3)).alloc (.cells #[.int .i64 1, .int .i64 0] 3)).alloc (.cells #[.slice none 0 0, .int .i64 0, .bool false, .bool false, .bool false, .slice (some ⟨w.heap.size, 0, none⟩) 1 1, .int .i64 0, .bool false, .bool false, .bool false, .slice (some ⟨w.heap.size + 1, 0, none⟩) 1 1, .int .i64 1, .bool false, .bool false, .bool false, .slice (some ⟨w.heap.size + 2, 0, none⟩) 2 2, .int .i64 0, .bool false, .bool false, .bool false] 61))
theorem wake_brs (w : World) : Brs (WB w) (some ⟨w.heap.size + 3, 0, none⟩) 4 wakeL := by
  have h3 := World.alloc_heap_new (((w.alloc (.cells #[.int .i64 0] 3)).alloc (.cells #[.int .i64 1] 3)).alloc (.cells #[.int .i64 1, .int .i64 0] 3)) (.cells #[.slice none 0 0, .int .i64 0, .bool false, .bool false, .bool false, .slice (some ⟨w.heap.size, 0, none⟩) 1 1, .int .i64 0, .bool false, .bool false, .bool false, .slice (some ⟨w.heap.size + 1, 0, none⟩) 1 1, .int .i64 1, .bool false, .bool false, .bool false, .slice (some ⟨w.heap.size + 2, 0, none⟩) 2 2, .int .i64 0, .bool false, .bool false, .bool false] 61)
  have h2 := World.alloc_heap_new ((w.alloc (.cells #[.int .i64 0] 3)).alloc (.cells #[.int .i64 1] 3)) (.cells #[.int .i64 1, .int .i64 0] 3)
  have h1 := World.alloc_heap_new (w.alloc (.cells #[.int .i64 0] 3)) (.cells #[.int .i64 1] 3)
  have h0 := World.alloc_heap_new w (.cells #[.int .i64 0] 3)
  simp only [World.size_alloc] at h3 h2 h1
  have k2 : (WB w).heap[w.heap.size + 2]? = some (.cells #[.int .i64 1, .int .i64 0] 3) := by rw [Below.heap_alloc _ _ _ (by simp only [World.size_alloc]; omega)]; exact h2
  have k1 : (WB w).heap[w.heap.size + 1]? = some (.cells #[.int .i64 1] 3) := by rw [Below.heap_alloc _ _ _ (by simp only [World.size_alloc]; omega), Below.heap_alloc _ _ _ (by simp only [World.size_alloc]; omega)]; exact h1
  have k0 : (WB w).heap[w.heap.size]? = some (.cells #[.int .i64 0] 3) := by rw [Below.heap_alloc _ _ _ (by simp only [World.size_alloc]; omega), Below.heap_alloc _ _ _ (by simp only [World.size_alloc]; omega), Below.heap_alloc _ _ _ (by simp only [World.size_alloc]; omega)]; exact h0
  have k3 : (WB w).heap[w.heap.size + 3]? = _ := h3
  generalize WB w = W at *
  refine ⟨rfl, fun _ => ⟨w.heap.size + 3, 0, rfl, fun j b hj => ?_⟩⟩
  match j, hj with
  | 0, hj =>
    simp [wakeL] at hj
    subst hj
    exact ⟨none, 0, 0, by simp [World.cell?, k3], by simp [World.cell?, k3], by simp [World.cell?, k3], by simp [World.cell?, k3], by simp [World.cell?, k3], ⟨rfl, fun h => absurd h (by omega)⟩, by omega, by simp, by simp⟩
  | 1, hj =>
    simp [wakeL] at hj
    subst hj
    refine ⟨some ⟨w.heap.size, 0, none⟩, 1, 1, by simp [World.cell?, k3], by simp [World.cell?, k3], by simp [World.cell?, k3], by simp [World.cell?, k3], by simp [World.cell?, k3], ⟨rfl, fun _ => ⟨_, 0, rfl, fun i z hi => ?_⟩⟩, by omega, by simp, by simp⟩
    match i, hi with
    | 0, hi => simp at hi; subst hi; simp [World.cell?, k0]
  | 2, hj =>
    simp [wakeL] at hj
    subst hj
    refine ⟨some ⟨w.heap.size + 1, 0, none⟩, 1, 1, by simp [World.cell?, k3], by simp [World.cell?, k3], by simp [World.cell?, k3], by simp [World.cell?, k3], by simp [World.cell?, k3], ⟨rfl, fun _ => ⟨_, 0, rfl, fun i z hi => ?_⟩⟩, by omega, by simp, by simp⟩
    match i, hi with
    | 0, hi => simp at hi; subst hi; simp [World.cell?, k1]
  | 3, hj =>
    simp [wakeL] at hj
    subst hj
    refine ⟨some ⟨w.heap.size + 2, 0, none⟩, 2, 2, by simp [World.cell?, k3], by simp [World.cell?, k3], by simp [World.cell?, k3], by simp [World.cell?, k3], by simp [World.cell?, k3], ⟨rfl, fun _ => ⟨_, 0, rfl, fun i z hi => ?_⟩⟩, by omega, by simp, by simp⟩
    match i, hi with
    | 0, hi => simp at hi; subst hi; simp [World.cell?, k2]
    | 1, hi => simp at hi; subst hi; simp [World.cell?, k2]
  | j + 4, hj => simp [wakeL] at hj
theorem WB_below (w : World) : Below w.heap.size w (WB w) := ((((Below.refl _ w).alloc (Nat.le_refl _) _).alloc (by simp) _).alloc (by simp; omega) _).alloc (by simp; omega) _
set_option maxRecDepth 100000 in
set_option maxHeartbeats 4000000 in
theorem gwakes_any (w : World) : Calls Tryz.prog 7 #[] w fun e w' => e = .returned (.bool true) ∧ Below w.heap.size w w' := by
  have hbo := born_any (WB w) (some ⟨w.heap.size + 3, 0, none⟩) 4 4 wakeL (wake_brs w) (by omega)
  have HB0 : Hid (Below w.heap.size w (WB w)) := WB_below w
  cases hG : bornG wakeL with
  | none =>
    rw [hG] at hbo
    go_enter Tryz.func7, Tryz.ntmps7
    go_wp2_with (go_at_call 8; refine hbo.mono ?_; clear hbo; rintro e w5 ⟨hB5, he⟩; have he' : e = .returned (.tuple #[.pointer none, .bool true]) := he; subst he'; have HB5 : Hid (Below w.heap.size w w5) := HB0.out.trans (hB5.mono HB0.out.size); clear he hB5)
    go_ret
    exact ⟨rfl, HB5.out⟩
  | some st =>
    rw [hG] at hbo
    obtain ⟨a0, a1, a2, a3, hids, hd, p0, p1, p2, p3, hol⟩ := wake_facts hG
    obtain ⟨⟨g1, hg1, ho1⟩, ⟨g2, hg2, ho2⟩, hln⟩ := wake_order hd p0 p1 p2 p3 hol
    have HW : Hid (st.ids = [a0, a1, a2, a3] ∧ ordG st.os [a3] GS.none = .ok g1 ∧ g1.ord = [a0, a1, a2, a3] ∧ ordG st.os [a0, a3] GS.none = .ok g2 ∧ g2.ord = [a0, a1, a2, a3] ∧ linesG st.os [a0, a1, a2, a3] a0 a3 = 2) := ⟨hids, hg1, ho1, hg2, ho2, hln⟩
    clear hids hd p0 p1 p2 p3 hol hg1 ho1 hg2 ho2 hln hG
    go_enter Tryz.func7, Tryz.ntmps7
    go_upto_region 4 with (go_at_call 8; refine hbo.mono ?_; clear hbo; rintro e w5 ⟨hB5, hb, s, d, S, F, G, X, nv, iv, bv, ns, he, hI, ho5, hi5, hn5⟩; subst he; have H5 : Hid (Below w.heap.size w w5 ∧ BI (WB w) w5 hb s d emptyI st S F G X nv iv bv ns ∧ st.os.length ≤ 25) := ⟨HB0.out.trans (hB5.mono HB0.out.size), hI, ho5⟩; clear hB5 hI ho5 hi5 hn5)
    have hI := H5.out.2.1
    have hir := hI.ir
    rw [HW.out.1] at hir
    obtain ⟨ia, ic, hiv, hic, _⟩ := row_shapeN hir
    subst hiv
    obtain ⟨ig, hig⟩ : ∃ ig, ia = some ⟨ig, 0, none⟩ := by
      rcases hir.2 with ⟨h0, h1⟩ | ⟨g, cap, cur, h0, _⟩
      · simp at h1
      · cases h0; exact ⟨g, rfl⟩
    subst hig
    have c0 := hI.c0
    have c2 := hI.c2
    have q0 : w5.cell? ⟨ig, 0, none⟩ = some (.int .u64 a0) := by rw [hir.cellAt 0 (by simp)]; rfl
    have q3 : w5.cell? ⟨ig, 3, none⟩ = some (.int .u64 a3) := by rw [hir.cellAt 3 (by simp)]; rfl
    have hrg : (0 ≤ a0 ∧ a0 ≤ 18446744073709551615) ∧ (0 ≤ a3 ∧ a3 ≤ 18446744073709551615) := by
      have h1 := hI.ok.rng a0 (by rw [HW.out.1]; simp)
      have h2 := hI.ok.rng a3 (by rw [HW.out.1]; simp)
      exact ⟨h1.2, h2.2⟩
    have HT : Hid (∀ W, Below w5.heap.size w5 W → (W.cell? ⟨hb, 0, none⟩ = some (.pointer (some ⟨s, 0, none⟩)) ∧ W.cell? ⟨hb, 2, none⟩ = some (.slice (some ⟨ig, 0, none⟩) 4 ic) ∧ W.cell? ⟨ig, 0, none⟩ = some (.int .u64 a0) ∧ W.cell? ⟨ig, 3, none⟩ = some (.int .u64 a3)) ∧ Ids W (some ⟨ig, 0, none⟩) 4 [a0, a1, a2, a3] ∧ IsSt W s d st.os (fileB (st.os.map obB)).length false F) := by
      intro W hW
      have hI' := hI.below hW
      have hir' := hI'.ir
      rw [HW.out.1] at hir'
      obtain ⟨x1, x2, x3, x4⟩ := own_ids hir'
      cases x3
      refine ⟨⟨hI'.c0, ?_, (hW.cell (p := ⟨ig, 0, none⟩) (World.block_lt_of_cell? w5 _ q0)).trans q0, (hW.cell (p := ⟨ig, 3, none⟩) (World.block_lt_of_cell? w5 _ q3)).trans q3⟩, x4, hI'.sg.st⟩
      exact hI'.c2
    have HOL : Hid (st.os.length ≤ 65536) := by have := H5.out.2.2; show _ ≤ _; omega
    have HBW : Hid (Below w.heap.size w w5) := H5.out.1
    have hmx : Tryz.prog.follows .mixedOrders = true := by kernel_rfl
    clear hI hir hic H5
    have e4 : ([a0, a1, a2, a3] : List Int).length = 4 := rfl
    rw [e4] at c2
    clear e4
    refine wp_region_G (S := SB 99 (fun _ => True) (fun W => W.cell? ⟨hb, 0, none⟩ = some (.pointer (some ⟨s, 0, none⟩)) ∧ W.cell? ⟨hb, 2, none⟩ = some (.slice (some ⟨ig, 0, none⟩) 4 ic) ∧ W.cell? ⟨ig, 0, none⟩ = some (.int .u64 a0) ∧ W.cell? ⟨ig, 3, none⟩ = some (.int .u64 a3))) hmx ?_
    have hSB : SB 99 (fun _ => True) (fun W => W.cell? ⟨hb, 0, none⟩ = some (.pointer (some ⟨s, 0, none⟩)) ∧ W.cell? ⟨hb, 2, none⟩ = some (.slice (some ⟨ig, 0, none⟩) 4 ic) ∧ W.cell? ⟨ig, 0, none⟩ = some (.int .u64 a0) ∧ W.cell? ⟨ig, 3, none⟩ = some (.int .u64 a3)) (Array.replicate 17 false) w5.drew := SB.on trivial ⟨c0, c2, q0, q3⟩
    refine wpAnyG_takeP (i := 0) (v := ?_) rfl (by kernel_rfl) (by kernel_rfl) (by kernel_rfl) (fun _ _ _ h => h) rfl (Or.inl ⟨by rfl, ?_⟩) (by assumption) ?_
    rotate_left
    · intro Y hY; obtain ⟨f0, f2, f3, f4⟩ := hY; go_simp; try with_reducible rfl
    intro hSB0
    try simp only [Act.put, List.getElem_toArray, List.getElem_cons_zero, List.setIfInBounds_toArray, List.set_cons_zero, List.set_cons_succ]
    refine wpAnyG_takeP (i := 1) (v := ?_) rfl (by kernel_rfl) (by kernel_rfl) (by kernel_rfl) (fun _ _ _ h => h) rfl (Or.inl ⟨by rfl, ?_⟩) (by assumption) ?_
    rotate_left
    · intro Y hY; obtain ⟨f0, f2, f3, f4⟩ := hY; go_simp; try with_reducible rfl
    intro hSB1
    try simp only [Act.put, List.getElem_toArray, List.getElem_cons_zero, List.getElem_cons_succ, List.setIfInBounds_toArray, List.set_cons_zero, List.set_cons_succ]
    refine wpAnyG_takeP (i := 2) (v := ?_) rfl (by kernel_rfl) (by kernel_rfl) (by kernel_rfl) (fun _ _ _ h => h) rfl (Or.inl ⟨by rfl, ?_⟩) (by assumption) ?_
    rotate_left
    · intro Y hY; obtain ⟨f0, f2, f3, f4⟩ := hY; go_simp; try with_reducible rfl
    intro hSB2
    try simp only [Act.put, List.getElem_toArray, List.getElem_cons_zero, List.getElem_cons_succ, List.setIfInBounds_toArray, List.set_cons_zero, List.set_cons_succ]
    refine wpAnyG_takeP (i := 3) (v := ?_) rfl (by kernel_rfl) (by kernel_rfl) (by kernel_rfl) (fun _ _ _ h => h) rfl (Or.inl ⟨by rfl, ?_⟩) (by assumption) ?_
    rotate_left
    · intro Y hY; obtain ⟨f0, f2, f3, f4⟩ := hY; go_simp; try with_reducible rfl
    intro hSB3
    try simp only [Act.put, List.getElem_toArray, List.getElem_cons_zero, List.getElem_cons_succ, List.setIfInBounds_toArray, List.set_cons_zero, List.set_cons_succ]
    refine wpAnyG_takeP (i := 4) (v := ?_) rfl (by kernel_rfl) (by kernel_rfl) (by kernel_rfl) (fun _ _ _ h => h) rfl (Or.inl ⟨by rfl, ?_⟩) (by assumption) ?_
    rotate_left
    · intro Y hY; obtain ⟨f0, f2, f3, f4⟩ := hY; go_simp; try with_reducible rfl
    intro hSB4
    try simp only [Act.put, List.getElem_toArray, List.getElem_cons_zero, List.getElem_cons_succ, List.setIfInBounds_toArray, List.set_cons_zero, List.set_cons_succ]
    refine wpAnyG_takeP (i := 5) (v := ?_) rfl (by kernel_rfl) (by kernel_rfl) (by kernel_rfl) (fun _ _ _ h => h) rfl (Or.inl ⟨by rfl, ?_⟩) (by assumption) ?_
    rotate_left
    · intro Y hY; obtain ⟨f0, f2, f3, f4⟩ := hY; go_simp; try with_reducible rfl
    intro hSB5
    try simp only [Act.put, List.getElem_toArray, List.getElem_cons_zero, List.getElem_cons_succ, List.setIfInBounds_toArray, List.set_cons_zero, List.set_cons_succ]
    refine wpAnyG_takeP (i := 6) (v := ?_) rfl (by kernel_rfl) (by kernel_rfl) (by kernel_rfl) (fun _ _ _ h => h) rfl (Or.inl ⟨by rfl, ?_⟩) (by assumption) ?_
    rotate_left
    · intro Y hY; obtain ⟨f0, f2, f3, f4⟩ := hY; go_simp; try with_reducible rfl
    intro hSB6
    try simp only [Act.put, List.getElem_toArray, List.getElem_cons_zero, List.getElem_cons_succ, List.setIfInBounds_toArray, List.set_cons_zero, List.set_cons_succ]
    refine wpAnyG_takeP (i := 7) (v := ?_) rfl (by kernel_rfl) (by kernel_rfl) (by kernel_rfl) (fun _ _ _ h => h) rfl (Or.inl ⟨by rfl, ?_⟩) (by assumption) ?_
    rotate_left
    · intro Y hY; obtain ⟨f0, f2, f3, f4⟩ := hY; go_simp; try with_reducible rfl
    intro hSB7
    try simp only [Act.put, List.getElem_toArray, List.getElem_cons_zero, List.getElem_cons_succ, List.setIfInBounds_toArray, List.set_cons_zero, List.set_cons_succ]
    refine wpAnyG_takeP (i := 8) (v := ?_) rfl (by kernel_rfl) (by kernel_rfl) (by kernel_rfl) (fun _ _ _ h => h) rfl (Or.inl ⟨by rfl, ?_⟩) (by assumption) ?_
    rotate_left
    · intro Y hY; obtain ⟨f0, f2, f3, f4⟩ := hY; go_simp; try with_reducible rfl
    intro hSB8
    try simp only [Act.put, List.getElem_toArray, List.getElem_cons_zero, List.getElem_cons_succ, List.setIfInBounds_toArray, List.set_cons_zero, List.set_cons_succ]
    refine wpAnyG_takeP (i := 9) (v := ?_) rfl (by kernel_rfl) (by kernel_rfl) (by kernel_rfl) (fun _ _ _ h => h) rfl (Or.inl ⟨by rfl, ?_⟩) (by assumption) ?_
    rotate_left
    · intro Y hY; obtain ⟨f0, f2, f3, f4⟩ := hY; go_simp; try with_reducible rfl
    intro hSB9
    try simp only [Act.put, List.getElem_toArray, List.getElem_cons_zero, List.getElem_cons_succ, List.setIfInBounds_toArray, List.set_cons_zero, List.set_cons_succ]
    have hB6 : Below w5.heap.size w5 (w5.alloc (.cells #[.int .u64 a3] 31)).drew := ((Below.refl _ w5).alloc (Nat.le_refl _) _).trans ⟨rfl, rfl, rfl, Nat.le_refl _, fun _ _ => rfl⟩
    refine wpAnyG_one (i := 10) (by kernel_rfl) rfl (fun K hK => ?_)
    go_simp
    refine hK.out _ _ (SB.on trivial (HT.out _ hB6).1) (fun hSB10 => ?_)
    clear hK K
    refine wpAnyG_one (i := 11) (by kernel_rfl) rfl (fun K hK => ?_)
    go_simp
    have hor := order_any (w5.alloc (.cells #[.int .u64 a3] 31)).drew s d st.os _ false F (HT.out _ hB6).2.2 HOL.out (some ⟨w5.heap.size, 0, none⟩) 1 1 [a3] (lit_id1 w5 a3 (0, 0)) (fun x hx => by simp at hx; subst hx; exact hrg.2) (Nat.le_refl _) (by omega)
    rw [HW.out.2.1] at hor
    refine hor.mono ?_
    clear hor
    rintro e w6 ⟨hB7, ad, cp, he, hrow6⟩
    rw [HW.out.2.2.1] at he hrow6
    have he' : e = .returned (.tuple #[.slice ad 4 cp, .int .i64 0]) := he
    subst he'
    clear he
    have hB56 : Below w5.heap.size w5 w6 := hB6.trans (hB7.mono hB6.size)
    have HR6 : Hid (w6.ownsRow w5.heap.size 31 1 (.slice ad 4 cp) 4 ([a0, a1, a2, a3].map (Value.int .u64))) := row_low hrow6 hB6.size
    clear hrow6
    refine hK.out _ _ (SB.on trivial (HT.out _ hB56).1) (fun hSB11 => ?_)
    clear hK K
    try simp only [Act.put, List.getElem_toArray, List.getElem_cons_zero, List.getElem_cons_succ, List.setIfInBounds_toArray, List.set_cons_zero, List.set_cons_succ]
    refine wpAnyG_takeP (i := 12) (v := ?_) rfl (by kernel_rfl) (by kernel_rfl) (by kernel_rfl) (fun _ _ _ h => h) rfl (Or.inl ⟨by rfl, ?_⟩) (by assumption) ?_
    rotate_left
    · intro Y hY; obtain ⟨f0, f2, f3, f4⟩ := hY; go_simp; try with_reducible rfl
    intro hSB12
    try simp only [Act.put, List.getElem_toArray, List.getElem_cons_zero, List.getElem_cons_succ, List.setIfInBounds_toArray, List.set_cons_zero, List.set_cons_succ]
    refine wpAnyG_takeP (i := 13) (v := ?_) rfl (by kernel_rfl) (by kernel_rfl) (by kernel_rfl) (fun _ _ _ h => h) rfl (Or.inl ⟨by rfl, ?_⟩) (by assumption) ?_
    rotate_left
    · intro Y hY; obtain ⟨f0, f2, f3, f4⟩ := hY; go_simp; try with_reducible rfl
    intro hSB13
    try simp only [Act.put, List.getElem_toArray, List.getElem_cons_zero, List.getElem_cons_succ, List.setIfInBounds_toArray, List.set_cons_zero, List.set_cons_succ]
    refine wpAnyG_takeP (i := 14) (v := ?_) rfl (by kernel_rfl) (by kernel_rfl) (by kernel_rfl) (fun _ _ _ h => h) rfl (Or.inl ⟨by rfl, ?_⟩) (by assumption) ?_
    rotate_left
    · intro Y hY; obtain ⟨f0, f2, f3, f4⟩ := hY; go_simp; try with_reducible rfl
    intro hSB14
    try simp only [Act.put, List.getElem_toArray, List.getElem_cons_zero, List.getElem_cons_succ, List.setIfInBounds_toArray, List.set_cons_zero, List.set_cons_succ]
    refine wpAnyG_takeP (i := 15) (v := ?_) rfl (by kernel_rfl) (by kernel_rfl) (by kernel_rfl) (fun _ _ _ h => h) rfl (Or.inl ⟨by rfl, ?_⟩) (by assumption) ?_
    rotate_left
    · intro Y hY; obtain ⟨f0, f2, f3, f4⟩ := hY; go_simp; try with_reducible rfl
    intro hSB15
    try simp only [Act.put, List.getElem_toArray, List.getElem_cons_zero, List.getElem_cons_succ, List.setIfInBounds_toArray, List.set_cons_zero, List.set_cons_succ]
    refine wpAnyG_takeP (i := 16) (v := ?_) rfl (by kernel_rfl) (by kernel_rfl) (by kernel_rfl) (fun _ _ _ h => h) rfl (Or.inl ⟨by rfl, ?_⟩) (by assumption) ?_
    rotate_left
    · intro Y hY; obtain ⟨f0, f2, f3, f4⟩ := hY; go_simp; try with_reducible rfl
    intro hSB16
    try simp only [Act.put, List.getElem_toArray, List.getElem_cons_zero, List.getElem_cons_succ, List.setIfInBounds_toArray, List.set_cons_zero, List.set_cons_succ]
    refine wpAnyG_done (by kernel_rfl) ?_ _
    obtain ⟨d0, d2, d3, d4⟩ := (HT.out _ hB56).1
    go_upto_region 5 with fail
    refine wp_region_G (S := SB 99 (fun _ => True) (fun W => W.cell? ⟨hb, 0, none⟩ = some (.pointer (some ⟨s, 0, none⟩)) ∧ W.cell? ⟨hb, 2, none⟩ = some (.slice (some ⟨ig, 0, none⟩) 4 ic) ∧ W.cell? ⟨ig, 0, none⟩ = some (.int .u64 a0) ∧ W.cell? ⟨ig, 3, none⟩ = some (.int .u64 a3))) hmx ?_
    have hSC : SB 99 (fun _ => True) (fun W => W.cell? ⟨hb, 0, none⟩ = some (.pointer (some ⟨s, 0, none⟩)) ∧ W.cell? ⟨hb, 2, none⟩ = some (.slice (some ⟨ig, 0, none⟩) 4 ic) ∧ W.cell? ⟨ig, 0, none⟩ = some (.int .u64 a0) ∧ W.cell? ⟨ig, 3, none⟩ = some (.int .u64 a3)) (Array.replicate 22 false) w6.drew := SB.on trivial ⟨d0, d2, d3, d4⟩
    refine wpAnyG_takeP (i := 0) (v := ?_) rfl (by kernel_rfl) (by kernel_rfl) (by kernel_rfl) (fun _ _ _ h => h) rfl (Or.inl ⟨by rfl, ?_⟩) (by assumption) ?_
    rotate_left
    · intro Y hY; obtain ⟨f0, f2, f3, f4⟩ := hY; go_simp; try with_reducible rfl
    intro hSB0
    try simp only [Act.put, List.getElem_toArray, List.getElem_cons_zero, List.setIfInBounds_toArray, List.set_cons_zero, List.set_cons_succ]
    refine wpAnyG_takeP (i := 1) (v := ?_) rfl (by kernel_rfl) (by kernel_rfl) (by kernel_rfl) (fun _ _ _ h => h) rfl (Or.inl ⟨by rfl, ?_⟩) (by assumption) ?_
    rotate_left
    · intro Y hY; obtain ⟨f0, f2, f3, f4⟩ := hY; go_simp; try with_reducible rfl
    intro hSB1
    try simp only [Act.put, List.getElem_toArray, List.getElem_cons_zero, List.getElem_cons_succ, List.setIfInBounds_toArray, List.set_cons_zero, List.set_cons_succ]
    refine wpAnyG_takeP (i := 2) (v := ?_) rfl (by kernel_rfl) (by kernel_rfl) (by kernel_rfl) (fun _ _ _ h => h) rfl (Or.inl ⟨by rfl, ?_⟩) (by assumption) ?_
    rotate_left
    · intro Y hY; obtain ⟨f0, f2, f3, f4⟩ := hY; go_simp; try with_reducible rfl
    intro hSB2
    try simp only [Act.put, List.getElem_toArray, List.getElem_cons_zero, List.getElem_cons_succ, List.setIfInBounds_toArray, List.set_cons_zero, List.set_cons_succ]
    refine wpAnyG_takeP (i := 3) (v := ?_) rfl (by kernel_rfl) (by kernel_rfl) (by kernel_rfl) (fun _ _ _ h => h) rfl (Or.inl ⟨by rfl, ?_⟩) (by assumption) ?_
    rotate_left
    · intro Y hY; obtain ⟨f0, f2, f3, f4⟩ := hY; go_simp; try with_reducible rfl
    intro hSB3
    try simp only [Act.put, List.getElem_toArray, List.getElem_cons_zero, List.getElem_cons_succ, List.setIfInBounds_toArray, List.set_cons_zero, List.set_cons_succ]
    refine wpAnyG_takeP (i := 4) (v := ?_) rfl (by kernel_rfl) (by kernel_rfl) (by kernel_rfl) (fun _ _ _ h => h) rfl (Or.inl ⟨by rfl, ?_⟩) (by assumption) ?_
    rotate_left
    · intro Y hY; obtain ⟨f0, f2, f3, f4⟩ := hY; go_simp; try with_reducible rfl
    intro hSB4
    try simp only [Act.put, List.getElem_toArray, List.getElem_cons_zero, List.getElem_cons_succ, List.setIfInBounds_toArray, List.set_cons_zero, List.set_cons_succ]
    refine wpAnyG_takeP (i := 5) (v := ?_) rfl (by kernel_rfl) (by kernel_rfl) (by kernel_rfl) (fun _ _ _ h => h) rfl (Or.inl ⟨by rfl, ?_⟩) (by assumption) ?_
    rotate_left
    · intro Y hY; obtain ⟨f0, f2, f3, f4⟩ := hY; go_simp; try with_reducible rfl
    intro hSB5
    try simp only [Act.put, List.getElem_toArray, List.getElem_cons_zero, List.getElem_cons_succ, List.setIfInBounds_toArray, List.set_cons_zero, List.set_cons_succ]
    refine wpAnyG_takeP (i := 6) (v := ?_) rfl (by kernel_rfl) (by kernel_rfl) (by kernel_rfl) (fun _ _ _ h => h) rfl (Or.inl ⟨by rfl, ?_⟩) (by assumption) ?_
    rotate_left
    · intro Y hY; obtain ⟨f0, f2, f3, f4⟩ := hY; go_simp; try with_reducible rfl
    intro hSB6
    try simp only [Act.put, List.getElem_toArray, List.getElem_cons_zero, List.getElem_cons_succ, List.setIfInBounds_toArray, List.set_cons_zero, List.set_cons_succ]
    refine wpAnyG_takeP (i := 7) (v := ?_) rfl (by kernel_rfl) (by kernel_rfl) (by kernel_rfl) (fun _ _ _ h => h) rfl (Or.inl ⟨by rfl, ?_⟩) (by assumption) ?_
    rotate_left
    · intro Y hY; obtain ⟨f0, f2, f3, f4⟩ := hY; go_simp; try with_reducible rfl
    intro hSB7
    try simp only [Act.put, List.getElem_toArray, List.getElem_cons_zero, List.getElem_cons_succ, List.setIfInBounds_toArray, List.set_cons_zero, List.set_cons_succ]
    refine wpAnyG_takeP (i := 8) (v := ?_) rfl (by kernel_rfl) (by kernel_rfl) (by kernel_rfl) (fun _ _ _ h => h) rfl (Or.inl ⟨by rfl, ?_⟩) (by assumption) ?_
    rotate_left
    · intro Y hY; obtain ⟨f0, f2, f3, f4⟩ := hY; go_simp; try with_reducible rfl
    intro hSB8
    try simp only [Act.put, List.getElem_toArray, List.getElem_cons_zero, List.getElem_cons_succ, List.setIfInBounds_toArray, List.set_cons_zero, List.set_cons_succ]
    refine wpAnyG_takeP (i := 9) (v := ?_) rfl (by kernel_rfl) (by kernel_rfl) (by kernel_rfl) (fun _ _ _ h => h) rfl (Or.inl ⟨by rfl, ?_⟩) (by assumption) ?_
    rotate_left
    · intro Y hY; obtain ⟨f0, f2, f3, f4⟩ := hY; go_simp; try with_reducible rfl
    intro hSB9
    try simp only [Act.put, List.getElem_toArray, List.getElem_cons_zero, List.getElem_cons_succ, List.setIfInBounds_toArray, List.set_cons_zero, List.set_cons_succ]
    refine wpAnyG_takeP (i := 10) (v := ?_) rfl (by kernel_rfl) (by kernel_rfl) (by kernel_rfl) (fun _ _ _ h => h) rfl (Or.inl ⟨by rfl, ?_⟩) (by assumption) ?_
    rotate_left
    · intro Y hY; obtain ⟨f0, f2, f3, f4⟩ := hY; go_simp; try with_reducible rfl
    intro hSB10
    try simp only [Act.put, List.getElem_toArray, List.getElem_cons_zero, List.getElem_cons_succ, List.setIfInBounds_toArray, List.set_cons_zero, List.set_cons_succ]
    refine wpAnyG_takeP (i := 11) (v := ?_) rfl (by kernel_rfl) (by kernel_rfl) (by kernel_rfl) (fun _ _ _ h => h) rfl (Or.inl ⟨by rfl, ?_⟩) (by assumption) ?_
    rotate_left
    · intro Y hY; obtain ⟨f0, f2, f3, f4⟩ := hY; go_simp; try with_reducible rfl
    intro hSB11
    try simp only [Act.put, List.getElem_toArray, List.getElem_cons_zero, List.getElem_cons_succ, List.setIfInBounds_toArray, List.set_cons_zero, List.set_cons_succ]
    refine wpAnyG_takeP (i := 12) (v := ?_) rfl (by kernel_rfl) (by kernel_rfl) (by kernel_rfl) (fun _ _ _ h => h) rfl (Or.inl ⟨by rfl, ?_⟩) (by assumption) ?_
    rotate_left
    · intro Y hY; obtain ⟨f0, f2, f3, f4⟩ := hY; go_simp; try with_reducible rfl
    intro hSB12
    try simp only [Act.put, List.getElem_toArray, List.getElem_cons_zero, List.getElem_cons_succ, List.setIfInBounds_toArray, List.set_cons_zero, List.set_cons_succ]
    refine wpAnyG_takeP (i := 13) (v := ?_) rfl (by kernel_rfl) (by kernel_rfl) (by kernel_rfl) (fun _ _ _ h => h) rfl (Or.inl ⟨by rfl, ?_⟩) (by assumption) ?_
    rotate_left
    · intro Y hY; obtain ⟨f0, f2, f3, f4⟩ := hY; go_simp; try with_reducible rfl
    intro hSB13
    try simp only [Act.put, List.getElem_toArray, List.getElem_cons_zero, List.getElem_cons_succ, List.setIfInBounds_toArray, List.set_cons_zero, List.set_cons_succ]
    refine wpAnyG_takeP (i := 14) (v := ?_) rfl (by kernel_rfl) (by kernel_rfl) (by kernel_rfl) (fun _ _ _ h => h) rfl (Or.inl ⟨by rfl, ?_⟩) (by assumption) ?_
    rotate_left
    · intro Y hY; obtain ⟨f0, f2, f3, f4⟩ := hY; go_simp; try with_reducible rfl
    intro hSB14
    try simp only [Act.put, List.getElem_toArray, List.getElem_cons_zero, List.getElem_cons_succ, List.setIfInBounds_toArray, List.set_cons_zero, List.set_cons_succ]
    refine wpAnyG_takeP (i := 15) (v := ?_) rfl (by kernel_rfl) (by kernel_rfl) (by kernel_rfl) (fun _ _ _ h => h) rfl (Or.inl ⟨by rfl, ?_⟩) (by assumption) ?_
    rotate_left
    · intro Y hY; obtain ⟨f0, f2, f3, f4⟩ := hY; go_simp; try with_reducible rfl
    intro hSB15
    try simp only [Act.put, List.getElem_toArray, List.getElem_cons_zero, List.getElem_cons_succ, List.setIfInBounds_toArray, List.set_cons_zero, List.set_cons_succ]
    refine wpAnyG_one (i := 16) (by kernel_rfl) rfl (fun K hK => ?_)
    go_simp
    have hB6d : Below w5.heap.size w5 w6.drew := hB56.trans ⟨rfl, rfl, rfl, Nat.le_refl _, fun _ _ => rfl⟩
    have han := ancestor_any w6.drew s d st.os _ false F (HT.out _ hB6d).2.2 HOL.out a0 a3 hrg.1 hrg.2
    rw [HW.out.2.2.2.1] at han
    refine han.mono ?_
    clear han
    rintro e w7 ⟨hB8, he⟩
    have he' : e = .returned (.tuple #[.bool true, .int .i64 0]) := by
      have h1 : e = .returned (.tuple #[.bool (decide (0 < linesG st.os g2.ord a0 a3)), .int .i64 0]) := he
      rw [HW.out.2.2.2.2.1, HW.out.2.2.2.2.2] at h1
      exact h1
    subst he'
    clear he
    have hB57 : Below w5.heap.size w5 w7 := hB6d.trans (hB8.mono hB6d.size)
    have hr7 : w7.ownsRow w5.heap.size 31 1 (.slice ad 4 cp) 4 ([a0, a1, a2, a3].map (Value.int .u64)) := row_moved HR6.out fun z hz => hB8.block z (HR6.out.lt z hz).2
    refine hK.out _ _ (SB.on trivial (HT.out _ hB57).1) (fun hSB16 => ?_)
    clear hK K
    try simp only [Act.put, List.getElem_toArray, List.getElem_cons_zero, List.getElem_cons_succ, List.setIfInBounds_toArray, List.set_cons_zero, List.set_cons_succ]
    refine wpAnyG_takeP (i := 17) (v := ?_) rfl (by kernel_rfl) (by kernel_rfl) (by kernel_rfl) (fun _ _ _ h => h) rfl (Or.inl ⟨by rfl, ?_⟩) (by assumption) ?_
    rotate_left
    · intro Y hY; obtain ⟨f0, f2, f3, f4⟩ := hY; go_simp; try with_reducible rfl
    intro hSB17
    try simp only [Act.put, List.getElem_toArray, List.getElem_cons_zero, List.getElem_cons_succ, List.setIfInBounds_toArray, List.set_cons_zero, List.set_cons_succ]
    refine wpAnyG_takeP (i := 18) (v := ?_) rfl (by kernel_rfl) (by kernel_rfl) (by kernel_rfl) (fun _ _ _ h => h) rfl (Or.inl ⟨by rfl, ?_⟩) (by assumption) ?_
    rotate_left
    · intro Y hY; obtain ⟨f0, f2, f3, f4⟩ := hY; go_simp; try with_reducible rfl
    intro hSB18
    try simp only [Act.put, List.getElem_toArray, List.getElem_cons_zero, List.getElem_cons_succ, List.setIfInBounds_toArray, List.set_cons_zero, List.set_cons_succ]
    refine wpAnyG_takeP (i := 19) (v := ?_) rfl (by kernel_rfl) (by kernel_rfl) (by kernel_rfl) (fun _ _ _ h => h) rfl (Or.inl ⟨by rfl, ?_⟩) (by assumption) ?_
    rotate_left
    · intro Y hY; obtain ⟨f0, f2, f3, f4⟩ := hY; go_simp; try with_reducible rfl
    intro hSB19
    try simp only [Act.put, List.getElem_toArray, List.getElem_cons_zero, List.getElem_cons_succ, List.setIfInBounds_toArray, List.set_cons_zero, List.set_cons_succ]
    refine wpAnyG_takeP (i := 20) (v := ?_) rfl (by kernel_rfl) (by kernel_rfl) (by kernel_rfl) (fun _ _ _ h => h) rfl (Or.inl ⟨by rfl, ?_⟩) (by assumption) ?_
    rotate_left
    · intro Y hY; obtain ⟨f0, f2, f3, f4⟩ := hY; go_simp; try with_reducible rfl
    intro hSB20
    try simp only [Act.put, List.getElem_toArray, List.getElem_cons_zero, List.getElem_cons_succ, List.setIfInBounds_toArray, List.set_cons_zero, List.set_cons_succ]
    refine wpAnyG_takeP (i := 21) (v := ?_) rfl (by kernel_rfl) (by kernel_rfl) (by kernel_rfl) (fun _ _ _ h => h) rfl (Or.inl ⟨by rfl, ?_⟩) (by assumption) ?_
    rotate_left
    · intro Y hY; obtain ⟨f0, f2, f3, f4⟩ := hY; go_simp; try with_reducible rfl
    intro hSB21
    try simp only [Act.put, List.getElem_toArray, List.getElem_cons_zero, List.getElem_cons_succ, List.setIfInBounds_toArray, List.set_cons_zero, List.set_cons_succ]
    refine wpAnyG_done (by kernel_rfl) ?_ _
    obtain ⟨k0, k2, k3, k4⟩ := (HT.out _ hB57).1
    obtain ⟨x1, x2, x3, hI7⟩ := own_ids (ids := [a0, a1, a2, a3]) hr7
    cases x3
    have hsm := gsame_any w7 ad (some ⟨ig, 0, none⟩) 4 4 cp ic [a0, a1, a2, a3] [a0, a1, a2, a3] hI7 (HT.out _ hB57).2.1 (by omega) (by omega)
    rw [beq_self_eq_true] at hsm
    have HB7 : Hid (Below w.heap.size w w7) := HBW.out.trans (hB57.mono HBW.out.size)
    go_wp2_with (go_at_call 20; refine hsm.mono ?_; clear hsm; rintro e w8 ⟨rfl, hB9⟩; have HB8 : Hid (Below w.heap.size w w8) := HB7.out.trans (hB9.mono HB7.out.size); clear hB9)
    go_ret
    exact ⟨rfl, HB8.out⟩
end Go.Proofs.YtojpbemfbjkjjaaGreat

/- What a history of the laws gives to the calls behind it. -/
namespace Go.Proofs.YtojpbemfbjkjjaaGreat
open Go.RowKit Go.Maps

attribute [local go_sem] Oper.semAt_some

theorem Brs.below {w w' : World} {a : Option Addr} {n : Nat} {l : List BornD} (h : Brs w a n l) (hB : Below w.heap.size w w') : Brs w' a n l :=
  ⟨h.1, fun h0 => by
    obtain ⟨b, off, e, hc⟩ := h.2 h0
    refine ⟨b, off, e, fun j x hx => ?_⟩
    obtain ⟨ba, bn, bc, c0, c1, c2, c3, c4, hi, h1, h2, h3⟩ := hc j x hx
    exact ⟨ba, bn, bc, (hB.cell (p := ⟨b, off + j * 5, none⟩) (World.block_lt_of_cell? w _ c0)).trans c0, (hB.cell (p := ⟨b, off + j * 5 + 1, none⟩) (World.block_lt_of_cell? w _ c1)).trans c1, (hB.cell (p := ⟨b, off + j * 5 + 2, none⟩) (World.block_lt_of_cell? w _ c2)).trans c2, (hB.cell (p := ⟨b, off + j * 5 + 3, none⟩) (World.block_lt_of_cell? w _ c3)).trans c3, (hB.cell (p := ⟨b, off + j * 5 + 4, none⟩) (World.block_lt_of_cell? w _ c4)).trans c4, hi.below hB, h1, h2, h3⟩⟩
/-- what a history of the laws gives to the calls behind it -/
theorem BI.env {w wr : World} {hb s d : Nat} {e0 : Int} {st : BS} {S : DG} {F G X : Nat → Prop} {nv iv bv : Value} {ns : List Nd} (I : BI w wr hb s d e0 st S F G X nv iv bv ns) (h24 : st.nodes.length ≤ 24) : ∃ na nc ia ic, nv = .slice na ns.length nc ∧ iv = .slice ia st.ids.length ic ∧ ns.length ≤ 24 ∧ ∀ W, Below wr.heap.size wr W → (W.cell? ⟨hb, 0, none⟩ = some (.pointer (some ⟨s, 0, none⟩)) ∧ W.cell? ⟨hb, 1, none⟩ = some (.slice na ns.length nc) ∧ W.cell? ⟨hb, 2, none⟩ = some (.slice ia st.ids.length ic)) ∧ Ids W ia st.ids.length st.ids ∧ IsSt W s d st.os (fileB (st.os.map obB)).length false F ∧ NEnv W na ns.length ns := by
  obtain ⟨na, nc, e1, _, _⟩ := row_shapeN I.nr
  obtain ⟨ia, ic, e2, _, _⟩ := row_shapeN I.ir
  subst e1
  subst e2
  have hl : ns.length = st.nodes.length := by rw [← I.nn, List.length_map]
  refine ⟨na, nc, ia, ic, rfl, rfl, by omega, fun W hW => ?_⟩
  have J := I.below hW
  obtain ⟨x1, x2, x3, x4⟩ := own_ids J.ir
  cases x3
  refine ⟨⟨J.c0, J.c1, J.c2⟩, x4, J.sg.st, ⟨fun W2 hW2 => ?_, by omega, fun x hx => ?_⟩⟩
  · have K := J.below hW2
    exact ⟨row_nds K.nr rfl, fun x hx => (K.np x hx).1.get⟩
  · have h1 := (J.np x hx).1.get.1
    have h2 := J.ok.npar x.told (by rw [← J.nn]; exact List.mem_map.2 ⟨x, hx, rfl⟩)
    have h3 : x.ps.length ≤ 8 := h2.2.2.1
    omega
end Go.Proofs.YtojpbemfbjkjjaaGreat
