import Derived.Test.YtggnglgehobglaaGreatDoorP28
import Derived.Test.YtggnglgehobglaaGreatDoorP23
/- The walks of slices.Clone and slices.Equal at rules; Rules, Same. -/
namespace Go.Proofs.YtggnglgehobglaaGreatDoor
open Go.RowKit Go.Shelf Go.Maps

attribute [local go_sem] Oper.semAt_some

theorem ru_eq (x y : Ru) : (x.1 == y.1 && ((mk x.2.1).toList == (mk y.2.1).toList && (mk x.2.2).toList == (mk y.2.2).toList)) = decide (x = y) := by
  rw [plain_str, plain_str, bs_mk, bs_mk, bs_mk, bs_mk, Bool.eq_iff_iff]
  obtain ⟨a, b, c⟩ := x
  obtain ⟨d, e, f⟩ := y
  simp
theorem ru_eqB (x y : Ru) (f t f' t' : ByteArray) (h1 : f = mk x.2.1) (h2 : t = mk x.2.2) (h3 : f' = mk y.2.1) (h4 : t' = mk y.2.2) : (!(x.1 == y.1 && (f.toList == f'.toList && t.toList == t'.toList))) = !decide (x = y) := by
  rw [h1, h2, h3, h4, ru_eq]
set_option maxRecDepth 100000 in
set_option maxHeartbeats 4000000 in
theorem requal_any (w : World) (a b : Option Addr) (n m c d : Nat) (F G : List Ru) (h1 : Rus w a n F) (h2 : Rus w b m G) (hn : n ≤ 100000000000000000) (hm : m ≤ 100000000000000000) :
    Calls Tryz.prog 35 #[.slice a n c, .slice b m d] w fun e w' => e = .returned (.bool (decide (F = G))) ∧ Below w.heap.size w w' := by
  by_cases hnm : n = m
  · subst hnm
    have hne := neR
    obtain ⟨E, hE⟩ : ∃ E, E = decide (F = G) := ⟨_, rfl⟩
    have HE0 : Hid (E = decide (F.drop 0 = G.drop 0)) := by show _ = _; rw [hE]; rfl
    have HG : Hid (F.length = n ∧ G.length = n) := ⟨h1.1, h2.1⟩
    rw [← hE]
    clear hE
    go_enter Tryz.func35, Tryz.ntmps35
    go_wp2
    go_loopw [13] (fun i wr => ∃ k : Nat, k ≤ n ∧ i = .int .i64 (k : Int) ∧ Hid (Below w.heap.size w wr ∧ E = decide (F.drop k = G.drop k))) (fun i _ => n - (intOf i).toNat)
    case atStart => exact ⟨0, Nat.zero_le _, rfl, Below.refl _ _, HE0.out⟩
    case round =>
      clear HE0
      obtain ⟨k, hk, rfl, H⟩ := hrel
      by_cases hlt : k < n
      · have kF : k < F.length := by rw [HG.out.1]; exact hlt
        have kG : k < G.length := by rw [HG.out.2]; exact hlt
        obtain ⟨x, hx⟩ : ∃ x, F[k]? = some x := ⟨_, List.getElem?_eq_getElem kF⟩
        obtain ⟨y, hy⟩ : ∃ y, G[k]? = some y := ⟨_, List.getElem?_eq_getElem kG⟩
        have hdr : (F.drop k = G.drop k) ↔ x = y ∧ F.drop (k + 1) = G.drop (k + 1) := by
          rw [List.drop_eq_getElem_cons kF, List.drop_eq_getElem_cons kG, List.cons.injEq]
          rw [List.getElem?_eq_getElem kF] at hx
          rw [List.getElem?_eq_getElem kG] at hy
          rw [Option.some.inj hx, Option.some.inj hy]
        obtain ⟨b1, o1, rfl, hc1⟩ := h1.2 (by omega)
        obtain ⟨b2, o2, rfl, hc2⟩ := h2.2 (by omega)
        obtain ⟨t1, t2, t3⟩ := hc1 k x hx
        obtain ⟨u1, u2, u3⟩ := hc2 k y hy
        have hB : ∀ q, Below w.heap.size w (wr.drewN q) := fun q => H.out.1.trans ⟨rfl, rfl, rfl, Nat.le_refl _, fun _ _ => rfl⟩
        have q1 := fun q => ((hB q).cell (p := ⟨b1, o1 + k * 3, none⟩) (World.block_lt_of_cell? w _ t1)).trans t1
        have q2 := fun q => ((hB q).cell (p := ⟨b1, o1 + k * 3 + 1, none⟩) (World.block_lt_of_cell? w _ t2)).trans t2
        have q3 := fun q => ((hB q).cell (p := ⟨b1, o1 + k * 3 + 2, none⟩) (World.block_lt_of_cell? w _ t3)).trans t3
        have p1 := fun q => ((hB q).cell (p := ⟨b2, o2 + k * 3, none⟩) (World.block_lt_of_cell? w _ u1)).trans u1
        have p2 := fun q => ((hB q).cell (p := ⟨b2, o2 + k * 3 + 1, none⟩) (World.block_lt_of_cell? w _ u2)).trans u2
        have p3 := fun q => ((hB q).cell (p := ⟨b2, o2 + k * 3 + 2, none⟩) (World.block_lt_of_cell? w _ u3)).trans u3
        have hqq := ru_eqB x y _ _ _ _ rfl rfl rfl rfl
        have HX : Hid (E = decide (x = y ∧ F.drop (k + 1) = G.drop (k + 1))) := by show _ = _; rw [H.out.2]; exact decide_eq_decide.2 hdr
        generalize mk x.2.1 = sf at *
        generalize mk x.2.2 = st at *
        generalize mk y.2.1 = sf' at *
        generalize mk y.2.2 = st' at *
        generalize x.1 = xk at *
        generalize y.1 = yk at *
        have i2 : (k : Int) < (n : Int) := by omega
        have i3 : ¬ n ≤ k := by omega
        have HBd : Hid (∀ q, Below w.heap.size w (wr.drewN q)) := hB
        clear hc1 hc2 hx hy t1 t2 t3 u1 u2 u3 h1 h2 hB kF kG hdr
        by_cases hxy : x = y
        · have HN : Hid (E = decide (F.drop (k + 1) = G.drop (k + 1))) := by show _ = _; rw [HX.out]; exact decide_eq_decide.2 ⟨fun h => h.2, fun h => ⟨hxy, h⟩⟩
          rw [decide_eq_true hxy] at hqq
          clear hxy HX
          go_wp2
          go_quiet (fail)
          go_wp2
          go_roundw
          case rel => exact ⟨k + 1, by omega, by go_num, HBd.out _, HN.out⟩
          case measure => simp [intOf]; omega
        · have HN : Hid (E = false) := by show _ = _; rw [HX.out]; exact decide_eq_false (fun h => hxy h.1)
          rw [decide_eq_false hxy] at hqq
          clear hxy HX
          go_wp2
          go_quiet (fail)
          go_wp2
          go_ret
          exact ⟨by rw [HN.out]; rfl, HBd.out _⟩
      · obtain rfl : k = n := by omega
        have i2 : ¬ (k : Int) < (k : Int) := by omega
        have HN : Hid (E = true) := by
          show _ = _
          rw [H.out.2, List.drop_of_length_le (by rw [HG.out.1]; exact Nat.le_refl _), List.drop_of_length_le (by rw [HG.out.2]; exact Nat.le_refl _)]
          exact decide_eq_true rfl
        go_wp2
        go_ret
        exact ⟨by rw [HN.out]; rfl, H.out.1⟩
  · have e : decide (F = G) = false := decide_eq_false (fun h => hnm (by rw [← h1.1, ← h2.1, h]))
    have i1 : ¬ (n : Int) = (m : Int) := by omega
    rw [e]
    clear h1 h2 e
    go_enter Tryz.func35, Tryz.ntmps35
    go_wp2
    go_ret
    exact ⟨rfl, Below.refl _ _⟩
theorem step_equal {o : Oper} {a : Act} {K : Act → World → Prop} {Q : Exit → Act → World → Prop} {w : World} (x y : Nat) (t1 t2 : TypeId) (ho : o.op = .call { callee := .value (.func 35), args := #[.tmp x, .tmp y], argTypes := #[t1, t2] }) (vx vy : Value) (hx : a.tmps[x]?.getD undef = vx) (hy : a.tmps[y]?.getD undef = vy) (E : Bool)
    (hc : Calls Tryz.prog 35 #[vx, vy] w fun e w' => e = .returned (.bool E) ∧ Below w.heap.size w w')
    (h : ∀ w', Below w.heap.size w w' → K (a.put o.dst (.bool E)) w') : Oper.wp Tryz.prog o a w K Q := by
  unfold Oper.wp execOp
  simp [ho, resolve, invoke, go_sem, hx, hy]
  refine hc.mono ?_
  rintro e w' ⟨rfl, hB⟩
  have := h w' hB
  simpa [go_sem] using this
set_option maxRecDepth 100000 in
theorem same14_any (w : World) (m v : Nat) (F G : List Ru) (hM : MpAt w m F) (hV : MpAt w v G) :
    Calls Tryz.prog 15 #[.pointer (some ⟨m, 0, none⟩), .pointer (some ⟨v, 0, none⟩)] w fun e w' => e = .returned (.bool (decide (F = G))) ∧ Below w.heap.size w w' := by
  obtain ⟨a, n, c, b, c0, c1, h1, h2, h3, h4⟩ := hM.ex
  obtain ⟨a', n', c', b', d0, d1, k1, k2, k3, k4⟩ := hV.ex
  have hmx : Tryz.prog.follows .mixedOrders = true := by kernel_rfl
  have hq := fun W (hW : Below w.heap.size w W) => requal_any W a a' n n' c c' F G (h1.kept hW) (k1.kept hW) (by omega) (by omega)
  generalize decide (F = G) = E at *
  have HT : Hid (∀ W, Below w.heap.size w W → W.cell? ⟨m, 0, none⟩ = some (.slice a n c) ∧ W.cell? ⟨v, 0, none⟩ = some (.slice a' n' c')) := fun W hW => ⟨(hW.cell (p := ⟨m, 0, none⟩) (World.block_lt_of_cell? w _ c0)).trans c0, (hW.cell (p := ⟨v, 0, none⟩) (World.block_lt_of_cell? w _ d0)).trans d0⟩
  clear hM hV h1 h2 h3 h4 k1 k2 k3 k4 c1 d1 c0 d0
  go_enter Tryz.func15, Tryz.ntmps15
  go_upto_region 1 with fail
  have H1d : Hid (Below w.heap.size w w.drew) := ⟨rfl, rfl, rfl, Nat.le_refl _, fun _ _ => rfl⟩
  refine wp_region_G (S := SB 1000 (fun _ => True) (fun W => W.cell? ⟨m, 0, none⟩ = some (.slice a n c) ∧ W.cell? ⟨v, 0, none⟩ = some (.slice a' n' c'))) hmx ?_
  have hSB : SB 1000 (fun _ => True) (fun W => W.cell? ⟨m, 0, none⟩ = some (.slice a n c) ∧ W.cell? ⟨v, 0, none⟩ = some (.slice a' n' c')) (Array.replicate 18 false) w.drew := SB.off (by kernel_rfl) (HT.out _ H1d.out)
  refine wpAnyG_takeP (i := 0) (v := ?_) rfl (by kernel_rfl) (by kernel_rfl) (by kernel_rfl) (fun _ _ _ h => h) rfl (Or.inl ⟨by rfl, ?_⟩) (by assumption) ?_
  rotate_left
  · intro Y hY; obtain ⟨a0, a1⟩ := hY; go_simp; try with_reducible rfl
  intro hSB0
  try simp only [Act.put, List.getElem_toArray, List.getElem_cons_zero, List.setIfInBounds_toArray, List.set_cons_zero, List.set_cons_succ]
  refine wpAnyG_takeP (i := 1) (v := ?_) rfl (by kernel_rfl) (by kernel_rfl) (by kernel_rfl) (fun _ _ _ h => h) rfl (Or.inl ⟨by rfl, ?_⟩) (by assumption) ?_
  rotate_left
  · intro Y hY; obtain ⟨a0, a1⟩ := hY; go_simp; try with_reducible rfl
  intro hSB1
  try simp only [Act.put, List.getElem_toArray, List.getElem_cons_zero, List.getElem_cons_succ, List.setIfInBounds_toArray, List.set_cons_zero, List.set_cons_succ]
  refine wpAnyG_takeP (i := 2) (v := ?_) rfl (by kernel_rfl) (by kernel_rfl) (by kernel_rfl) (fun _ _ _ h => h) rfl (Or.inl ⟨by rfl, ?_⟩) (by assumption) ?_
  rotate_left
  · intro Y hY; obtain ⟨a0, a1⟩ := hY; go_simp; try with_reducible rfl
  intro hSB2
  try simp only [Act.put, List.getElem_toArray, List.getElem_cons_zero, List.getElem_cons_succ, List.setIfInBounds_toArray, List.set_cons_zero, List.set_cons_succ]
  refine wpAnyG_takeP (i := 3) (v := ?_) rfl (by kernel_rfl) (by kernel_rfl) (by kernel_rfl) (fun _ _ _ h => h) rfl (Or.inl ⟨by rfl, ?_⟩) (by assumption) ?_
  rotate_left
  · intro Y hY; obtain ⟨a0, a1⟩ := hY; go_simp; try with_reducible rfl
  intro hSB3
  try simp only [Act.put, List.getElem_toArray, List.getElem_cons_zero, List.getElem_cons_succ, List.setIfInBounds_toArray, List.set_cons_zero, List.set_cons_succ]
  refine wpAnyG_takeP (i := 4) (v := ?_) rfl (by kernel_rfl) (by kernel_rfl) (by kernel_rfl) (fun _ _ _ h => h) rfl (Or.inl ⟨by rfl, ?_⟩) (by assumption) ?_
  rotate_left
  · intro Y hY; obtain ⟨a0, a1⟩ := hY; go_simp; try with_reducible rfl
  intro hSB4
  try simp only [Act.put, List.getElem_toArray, List.getElem_cons_zero, List.getElem_cons_succ, List.setIfInBounds_toArray, List.set_cons_zero, List.set_cons_succ]
  refine wpAnyG_takeP (i := 5) (v := ?_) rfl (by kernel_rfl) (by kernel_rfl) (by kernel_rfl) (fun _ _ _ h => h) rfl (Or.inl ⟨by rfl, ?_⟩) (by assumption) ?_
  rotate_left
  · intro Y hY; obtain ⟨a0, a1⟩ := hY; go_simp; try with_reducible rfl
  intro hSB5
  try simp only [Act.put, List.getElem_toArray, List.getElem_cons_zero, List.getElem_cons_succ, List.setIfInBounds_toArray, List.set_cons_zero, List.set_cons_succ]
  refine wpAnyG_takeP (i := 6) (v := ?_) rfl (by kernel_rfl) (by kernel_rfl) (by kernel_rfl) (fun _ _ _ h => h) rfl (Or.inl ⟨by rfl, ?_⟩) (by assumption) ?_
  rotate_left
  · intro Y hY; obtain ⟨a0, a1⟩ := hY; go_simp; try with_reducible rfl
  intro hSB6
  try simp only [Act.put, List.getElem_toArray, List.getElem_cons_zero, List.getElem_cons_succ, List.setIfInBounds_toArray, List.set_cons_zero, List.set_cons_succ]
  refine wpAnyG_takeP (i := 7) (v := ?_) rfl (by kernel_rfl) (by kernel_rfl) (by kernel_rfl) (fun _ _ _ h => h) rfl (Or.inl ⟨by rfl, ?_⟩) (by assumption) ?_
  rotate_left
  · intro Y hY; obtain ⟨a0, a1⟩ := hY; go_simp; try with_reducible rfl
  intro hSB7
  try simp only [Act.put, List.getElem_toArray, List.getElem_cons_zero, List.getElem_cons_succ, List.setIfInBounds_toArray, List.set_cons_zero, List.set_cons_succ]
  refine wpAnyG_takeP (i := 8) (v := ?_) rfl (by kernel_rfl) (by kernel_rfl) (by kernel_rfl) (fun _ _ _ h => h) rfl (Or.inl ⟨by rfl, ?_⟩) (by assumption) ?_
  rotate_left
  · intro Y hY; obtain ⟨a0, a1⟩ := hY; go_simp; try with_reducible rfl
  intro hSB8
  try simp only [Act.put, List.getElem_toArray, List.getElem_cons_zero, List.getElem_cons_succ, List.setIfInBounds_toArray, List.set_cons_zero, List.set_cons_succ]
  refine wpAnyG_takeP (i := 9) (v := ?_) rfl (by kernel_rfl) (by kernel_rfl) (by kernel_rfl) (fun _ _ _ h => h) rfl (Or.inl ⟨by rfl, ?_⟩) (by assumption) ?_
  rotate_left
  · intro Y hY; obtain ⟨a0, a1⟩ := hY; go_simp; try with_reducible rfl
  intro hSB9
  try simp only [Act.put, List.getElem_toArray, List.getElem_cons_zero, List.getElem_cons_succ, List.setIfInBounds_toArray, List.set_cons_zero, List.set_cons_succ]
  refine wpAnyG_takeP (i := 10) (v := ?_) rfl (by kernel_rfl) (by kernel_rfl) (by kernel_rfl) (fun _ _ _ h => h) rfl (Or.inl ⟨by rfl, ?_⟩) (by assumption) ?_
  rotate_left
  · intro Y hY; obtain ⟨a0, a1⟩ := hY; go_simp; try with_reducible rfl
  intro hSB10
  try simp only [Act.put, List.getElem_toArray, List.getElem_cons_zero, List.getElem_cons_succ, List.setIfInBounds_toArray, List.set_cons_zero, List.set_cons_succ]
  refine wpAnyG_takeP (i := 11) (v := ?_) rfl (by kernel_rfl) (by kernel_rfl) (by kernel_rfl) (fun _ _ _ h => h) rfl (Or.inl ⟨by rfl, ?_⟩) (by assumption) ?_
  rotate_left
  · intro Y hY; obtain ⟨a0, a1⟩ := hY; go_simp; try with_reducible rfl
  intro hSB11
  try simp only [Act.put, List.getElem_toArray, List.getElem_cons_zero, List.getElem_cons_succ, List.setIfInBounds_toArray, List.set_cons_zero, List.set_cons_succ]
  refine wpAnyG_takeP (i := 12) (v := ?_) rfl (by kernel_rfl) (by kernel_rfl) (by kernel_rfl) (fun _ _ _ h => h) rfl (Or.inl ⟨by rfl, ?_⟩) (by assumption) ?_
  rotate_left
  · intro Y hY; obtain ⟨a0, a1⟩ := hY; go_simp; try with_reducible rfl
  intro hSB12
  try simp only [Act.put, List.getElem_toArray, List.getElem_cons_zero, List.getElem_cons_succ, List.setIfInBounds_toArray, List.set_cons_zero, List.set_cons_succ]
  refine wpAnyG_takeP (i := 13) (v := ?_) rfl (by kernel_rfl) (by kernel_rfl) (by kernel_rfl) (fun _ _ _ h => h) rfl (Or.inl ⟨by rfl, ?_⟩) (by assumption) ?_
  rotate_left
  · intro Y hY; obtain ⟨a0, a1⟩ := hY; go_simp; try with_reducible rfl
  intro hSB13
  try simp only [Act.put, List.getElem_toArray, List.getElem_cons_zero, List.getElem_cons_succ, List.setIfInBounds_toArray, List.set_cons_zero, List.set_cons_succ]
  refine wpAnyG_takeP (i := 14) (v := ?_) rfl (by kernel_rfl) (by kernel_rfl) (by kernel_rfl) (fun _ _ _ h => h) rfl (Or.inl ⟨by rfl, ?_⟩) (by assumption) ?_
  rotate_left
  · intro Y hY; obtain ⟨a0, a1⟩ := hY; go_simp; try with_reducible rfl
  intro hSB14
  try simp only [Act.put, List.getElem_toArray, List.getElem_cons_zero, List.getElem_cons_succ, List.setIfInBounds_toArray, List.set_cons_zero, List.set_cons_succ]
  refine wpAnyG_one (i := 15) (by kernel_rfl) rfl (fun K hK => ?_)
  rw [if_pos (by rfl)]
  refine step_equal _ _ _ _ (by rfl) _ _ (by rfl) (by rfl) E (hq _ H1d.out) ?_
  intro w8 hB8
  have H8 : Hid (Below w.heap.size w w8) := H1d.out.trans (hB8.mono H1d.out.size)
  refine hK.out _ _ (SB.off (by kernel_rfl) (HT.out w8 H8.out)) (fun hSB15 => ?_)
  clear hK K hB8
  try simp only [Act.put, List.getElem_toArray, List.getElem_cons_zero, List.getElem_cons_succ, List.setIfInBounds_toArray, List.set_cons_zero, List.set_cons_succ]
  refine wpAnyG_takeP (i := 16) (v := ?_) rfl (by kernel_rfl) (by kernel_rfl) (by kernel_rfl) (fun _ _ _ h => h) rfl (Or.inl ⟨by rfl, ?_⟩) (by assumption) ?_
  rotate_left
  · intro Y hY; obtain ⟨a0, a1⟩ := hY; go_simp; try with_reducible rfl
  intro hSB16
  try simp only [Act.put, List.getElem_toArray, List.getElem_cons_zero, List.getElem_cons_succ, List.setIfInBounds_toArray, List.set_cons_zero, List.set_cons_succ]
  refine wpAnyG_takeP (i := 17) (v := ?_) rfl (by kernel_rfl) (by kernel_rfl) (by kernel_rfl) (fun _ _ _ h => h) rfl (Or.inl ⟨by rfl, ?_⟩) (by assumption) ?_
  rotate_left
  · intro Y hY; obtain ⟨a0, a1⟩ := hY; go_simp; try with_reducible rfl
  intro hSB17
  try simp only [Act.put, List.getElem_toArray, List.getElem_cons_zero, List.getElem_cons_succ, List.setIfInBounds_toArray, List.set_cons_zero, List.set_cons_succ]
  refine wpAnyG_done (by kernel_rfl) ?_ _
  clear hSB hSB0 hSB1 hSB2 hSB3 hSB4 hSB5 hSB6 hSB7 hSB8 hSB9 hSB10 hSB11 hSB12 hSB13 hSB14 hSB15 hSB16 hSB17 hq
  go_wp2
  go_ret
  exact ⟨rfl, H8.out⟩
set_option maxRecDepth 100000 in
theorem rclone_any (w : World) (a : Option Addr) (n c : Nat) (F : List Ru) (h : Rus w a n F) (hnil : a = none → n = 0 ∧ c = 0) (hn : n ≤ 1000) :
    Calls Tryz.prog 32 #[.slice a n c] w fun e w' => ∃ ad c', e = .returned (.slice ad n c') ∧ Rus w' ad n F ∧ n ≤ c' ∧ (ad = none → n = 0 ∧ c' = 0) ∧ Below w.heap.size w w' := by
  have q22 : ∀ (w : World) (a : Option Addr) (n c n' c' : Nat), (binOp .eql 34 (.slice a n c) (.slice none n' c')).run Tryz.prog w = .ok (.bool a.isNone) w := fun w a n c n' c' => Lib.run_eql_slice_nil w _ _ a n c n' c' Tryz.underlying34
  cases a with
  | none =>
    obtain ⟨rfl, rfl⟩ := hnil rfl
    have HR : Hid (Rus w none 0 F) := h
    clear h hnil
    go_enter Tryz.func32, Tryz.ntmps32
    go_wp2
    go_ret
    exact ⟨none, 0, rfl, HR.out, Nat.le_refl _, fun _ => ⟨by trivial, by trivial⟩, Below.refl _ _⟩
  | some ad0 =>
    have HR : Hid (Rus w (some ad0) n F) := h
    clear h hnil
    go_enter Tryz.func32, Tryz.ntmps32
    have H1 : Hid ((w.alloc (.cells #[] 31)).ownsRow w.heap.size 31 3 (.slice (some ⟨w.heap.size, 0, none⟩) 0 0) 0 (ruCells []) ∧ Rus (w.alloc (.cells #[] 31)) (some ad0) n F ∧ Below w.heap.size w (w.alloc (.cells #[] 31))) := by
      have hB : Below w.heap.size w (w.alloc (.cells #[] 31)) := (Below.refl _ w).alloc (Nat.le_refl _) _
      exact ⟨⟨rfl, .inr ⟨w.heap.size, 0, #[], rfl, Nat.le_refl _, World.alloc_heap_new w _, Nat.le_refl _, by unfold maxLen; omega, rfl, rfl⟩⟩, HR.out.kept hB, hB⟩
    clear HR
    go_wp2_with (at_builtin; refine wpList_appR rfl _ _ rfl w.heap.size 0 n c _ [] F (some ad0) rfl rfl H1.out.1 H1.out.2.1 (fun h => by cases h) (by omega) H1.out.2.2.size ?_; intro ad' c' w2 hc' hown hB2; have H2 : Hid (Rus w2 ad' n F ∧ n ≤ c' ∧ (ad' = none → n = 0 ∧ c' = 0) ∧ Below w.heap.size w w2) := by { rw [Nat.zero_add] at hc' hown; obtain ⟨ad1, c1, e1, hnc1, hnil1⟩ := row_shapeR hown; cases e1; exact ⟨own_rus hown H1.out.2.1.1, hnc1, hnil1, H1.out.2.2.trans hB2⟩ }; clear hown hB2 hc'; rw [Nat.zero_add])
    go_ret
    exact ⟨ad', c', rfl, H2.out.1, H2.out.2.1, H2.out.2.2.1, H2.out.2.2.2⟩
theorem rules_any (w : World) (m : Nat) (F : List Ru) (hM : MpAt w m F) :
    Calls Tryz.prog 12 #[.pointer (some ⟨m, 0, none⟩)] w fun e w' => ∃ ad c', e = .returned (.slice ad F.length c') ∧ Rus w' ad F.length F ∧ F.length ≤ c' ∧ (ad = none → F.length = 0 ∧ c' = 0) ∧ Below w.heap.size w w' := by
  obtain ⟨a, n, c, b, c0, c1, h1, h2, h3, h4⟩ := hM.ex
  have hcl := rclone_any w a n c F h1 h4.2 h4.1
  rw [h1.1]
  clear hM h1 h2 h3 h4 c1
  go_enter Tryz.func12, Tryz.ntmps12
  go_wp2_with fail
  refine hcl.mono ?_
  clear hcl
  rintro e w1 ⟨ad, c', rfl, k1, k2, k3, hB1⟩
  have H1 : Hid (Rus w1 ad n F ∧ n ≤ c' ∧ (ad = none → n = 0 ∧ c' = 0) ∧ Below w.heap.size w w1) := ⟨k1, k2, k3, hB1⟩
  clear k1 k2 k3 hB1
  go_wp2
  go_ret
  exact ⟨ad, c', rfl, H1.out.1, H1.out.2.1, H1.out.2.2.1, H1.out.2.2.2⟩
end Go.Proofs.YtggnglgehobglaaGreatDoor
