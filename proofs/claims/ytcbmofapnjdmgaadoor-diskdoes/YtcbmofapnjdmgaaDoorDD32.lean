import Derived.Test.YtcbmofapnjdmgaaDoorDD31
import Derived.Deep.CutRange
/- The walk of the law's whole: is all of a disk what it must be? -/
namespace Go.Proofs.YtcbmofapnjdmgaaDoor
open Go.RowKit Go.Maps

attribute [local go_sem] Oper.semAt_some

theorem Pair2.below {w w' : World} {p q : Nat} {S : DG} {Fp Gp : Nat → Prop} (h : Pair2 w p q S Fp Gp) (hB : Below w.heap.size w w') : Pair2 w' p q S Fp Gp := by
  obtain ⟨fs, is, left, hR, hM⟩ := h.r
  exact ⟨h.d.below hB, ⟨fs, is, left, hR.below hB, hM⟩, h.dis⟩
/-- what holds of every disk of a script: few files, none too long; not cut, nothing is left -/
structure Fit2 (S : DG) : Prop where
  n : S.n ≤ 256
  bs : ∀ l, (S.bs l).length ≤ 4194304
  left : S.cut = false → S.left = 0

theorem ownsRow_moveS {w w' : World} {B n : Nat} {v : Value} {xs : List Value} (h : w.ownsRow B 9 1 v n xs) (hb : ∀ g, v.ownBlock = some g → w'.heap[g]? = w.heap[g]?) : w'.ownsRow B 9 1 v n xs := ownsRow_move2 h hb
theorem ownsRow_lowS {w : World} {B C n : Nat} {v : Value} {xs : List Value} (h : w.ownsRow B 9 1 v n xs) (hC : C ≤ B) : w.ownsRow C 9 1 v n xs := by
  refine ⟨h.1, ?_⟩
  rcases h.2 with h0 | ⟨g, cap, cur, rfl, hb, h2⟩
  · exact .inl h0
  · exact .inr ⟨g, cap, cur, rfl, by omega, h2⟩

set_option maxRecDepth 20000 in
theorem step_wfile (w : World) {ops : Array Oper} {o : Oper} {a : Act} {K : Act → World → Prop} {Q : Exit → Act → World → Prop} {E : Prop} (hw : Region.wanted o (yielded ops a.tmps) = true) (x0 x1 : Nat) (ty0 ty1 : TypeId)
    (ho : o.op = .call { callee := .value (.func 18), args := #[.tmp x0, .tmp x1], argTypes := #[ty0, ty1] }) (vx0 vx1 : Value) (hx0 : a.tmps[x0]?.getD undef = vx0) (hx1 : a.tmps[x1]?.getD undef = vx1) (R : Value → World → Prop)
    (hc : Calls Tryd.prog 18 #[vx0, vx1] w fun e w' => ∃ v, e = .returned v ∧ R v w') (hK : ∀ v w', R v w' → K (a.put o.dst v) w') :
    if Region.wanted o (yielded ops a.tmps) = true then Oper.wp Tryd.prog o a w K Q else E := by
  rw [if_pos hw]
  unfold Oper.wp execOp
  simp [ho, resolve, invoke, go_sem, hx0, hx1]
  refine hc.mono ?_
  rintro e w' ⟨v, rfl, hR⟩
  have := hK v w' hR
  simpa [go_sem] using this
set_option maxRecDepth 20000 in
theorem step_writes (w : World) {ops : Array Oper} {o : Oper} {a : Act} {K : Act → World → Prop} {Q : Exit → Act → World → Prop} {E : Prop} (hw : Region.wanted o (yielded ops a.tmps) = true) (x0 : Nat) (ty0 : TypeId)
    (ho : o.op = .call { callee := .value (.func 14), args := #[.tmp x0], argTypes := #[ty0] }) (vx0 : Value) (hx0 : a.tmps[x0]?.getD undef = vx0) (R : Value → World → Prop)
    (hc : Calls Tryd.prog 14 #[vx0] w fun e w' => ∃ v, e = .returned v ∧ R v w') (hK : ∀ v w', R v w' → K (a.put o.dst v) w') :
    if Region.wanted o (yielded ops a.tmps) = true then Oper.wp Tryd.prog o a w K Q else E := by
  rw [if_pos hw]
  unfold Oper.wp execOp
  simp [ho, resolve, invoke, go_sem, hx0]
  refine hc.mono ?_
  rintro e w' ⟨v, rfl, hR⟩
  have := hK v w' hR
  simpa [go_sem] using this
set_option maxRecDepth 20000 in
set_option maxHeartbeats 4000000 in
theorem wwhole_any (p q : Nat) (S : DG) (Fp Gp : Nat → Prop) (w : World) (h : Pair2 w p q S Fp Gp) (hf : Fit2 S) :
    Calls Tryd.prog 10 #[.agg #[.pointer (some ⟨p, 0, none⟩), .pointer (some ⟨q, 0, none⟩)]] w fun e w' => e = .returned (.bool true) ∧ Below w.heap.size w w' := by
  have hA : Below w.heap.size w (w.alloc (.cells #[.pointer (some ⟨p, 0, none⟩), .pointer (some ⟨q, 0, none⟩)] 29)) := (Below.refl _ w).alloc (Nat.le_refl _) _
  have HC : Hid (∀ W, Below (w.heap.size + 1) (w.alloc (.cells #[.pointer (some ⟨p, 0, none⟩), .pointer (some ⟨q, 0, none⟩)] 29)) W → W.cell? ⟨w.heap.size, 0, none⟩ = some (.pointer (some ⟨p, 0, none⟩)) ∧ W.cell? ⟨w.heap.size, 1, none⟩ = some (.pointer (some ⟨q, 0, none⟩)) ∧ Pair2 W p q S Fp Gp ∧ w.heap.size + 1 ≤ W.heap.size ∧ Below w.heap.size w W) := fun W hW => by
    have hs : (w.alloc (.cells #[.pointer (some ⟨p, 0, none⟩), .pointer (some ⟨q, 0, none⟩)] 29)).heap.size = w.heap.size + 1 := by simp
    rw [← hs] at hW
    have hB := hA.trans (hW.mono hA.size)
    refine ⟨by rw [hW.cell (by simp)]; simp, by rw [hW.cell (by simp)]; simp, h.below hB, by rw [← hs]; exact hW.size, hB⟩
  have B0 : Hid (Below (w.heap.size + 1) (w.alloc (.cells #[.pointer (some ⟨p, 0, none⟩), .pointer (some ⟨q, 0, none⟩)] 29)) (w.alloc (.cells #[.pointer (some ⟨p, 0, none⟩), .pointer (some ⟨q, 0, none⟩)] 29))) := Below.refl _ _
  have HFt : Hid (Fit2 S) := hf
  have HNm : Hid (∀ W, Pair2 W p q S Fp Gp → Calls Tryd.prog 16 #[.pointer (some ⟨p, 0, none⟩)] W fun e w' => ∃ ns a c, e = .returned (.slice a ns.length c) ∧ S.Lists ns ∧ w'.ownsRow W.heap.size 9 1 (.slice a ns.length c) ns.length (ns.map encStr) ∧ Below W.heap.size W w') := fun W hW => names_any p S Fp W hW.d (by have := hf.n; omega)
  have HRn : Hid (∀ W ns, S.Lists ns → Pair2 W p q S Fp Gp → Calls Tryd.prog 17 #[.pointer (some ⟨q, 0, none⟩)] W fun e w' => ∃ a c, e = .returned (.slice a ns.length c) ∧ w'.ownsRow W.heap.size 9 1 (.slice a ns.length c) ns.length (ns.map encStr) ∧ Below W.heap.size W w') := by
    intro W ns hL hW
    refine (rnames_any q S Gp W hW.r (by have := hf.n; omega) (fun l hl => ?_)).mono ?_
    · obtain ⟨ks, _, h2, _, h4, _⟩ := hL
      exact h4 l ((h2 l).2 hl)
    · rintro e w' ⟨ms, a, c, rfl, hm, ho, hB⟩
      rw [DG.Lists.same hL hm (fun _ => rfl)]
      exact ⟨a, c, rfl, ho, hB⟩
  have HFi : Hid (∀ W ns, S.Lists ns → Pair2 W p q S Fp Gp → ∀ x ∈ ns, Calls Tryd.prog 18 #[.agg #[.pointer (some ⟨p, 0, none⟩), .pointer (some ⟨q, 0, none⟩)], .string ⟨x.toArray⟩] W fun e w' => e = .returned (.bool true) ∧ Below W.heap.size W w') := fun W ns hL hW x hx =>
    wfile_any p q S Fp Gp W hW ⟨x.toArray⟩ (by have := (hL.mem x hx).2; simpa [ByteArray.size] using this) (hf.bs _)
  clear h hf hA
  go_enter Tryd.func10, Tryd.ntmps10
  go_upto_block 0 with first
    | (go_at_call 17; go_loud (refine (HRn.out _ ns H1.out.1 (HC.out _ H1.out.2.2).2.2.1).mono ?_; rintro e w2 ⟨a2, c2, rfl, ho2, hB2⟩; have H2 : Hid (w2.ownsRow (w.heap.size + 1) 9 1 (.slice a1 ns.length c1) ns.length (ns.map encStr) ∧ w2.ownsRow (w.heap.size + 1) 9 1 (.slice a2 ns.length c2) ns.length (ns.map encStr) ∧ (∀ g g', (Value.slice a1 ns.length c1).ownBlock = some g → (Value.slice a2 ns.length c2).ownBlock = some g' → g ≠ g') ∧ Below (w.heap.size + 1) (w.alloc (.cells #[.pointer (some ⟨p, 0, none⟩), .pointer (some ⟨q, 0, none⟩)] 29)) w2) := ⟨ownsRow_moveS H1.out.2.1 (fun g hg => hB2.block g (H1.out.2.1.lt g hg).2), ownsRow_lowS ho2 (HC.out _ H1.out.2.2).2.2.2.1, fun g g' hg hg' e => by have := (H1.out.2.1.lt g hg).2; have := (ho2.lt g' hg').1; omega, H1.out.2.2.trans (hB2.mono (HC.out _ H1.out.2.2).2.2.2.1)⟩; obtain ⟨b0, b1, _⟩ := HC.out _ H2.out.2.2.2; clear ho2 hB2))
    | (go_at_call 16; go_loud (refine (HNm.out _ (HC.out _ B0.out).2.2.1).mono ?_; rintro e w1 ⟨ns, a1, c1, rfl, hL1, ho1, hB1⟩; have H1 : Hid (S.Lists ns ∧ w1.ownsRow (w.heap.size + 1) 9 1 (.slice a1 ns.length c1) ns.length (ns.map encStr) ∧ Below (w.heap.size + 1) (w.alloc (.cells #[.pointer (some ⟨p, 0, none⟩), .pointer (some ⟨q, 0, none⟩)] 29)) w1) := ⟨hL1, (by have := ho1; rw [show (w.alloc (.cells #[.pointer (some ⟨p, 0, none⟩), .pointer (some ⟨q, 0, none⟩)] 29)).heap.size = w.heap.size + 1 by simp] at this; exact this), hB1.mono (by simp)⟩; obtain ⟨b0, b1, _⟩ := HC.out _ H1.out.2.2; clear hL1 ho1 hB1))
  have hnl : ns.length ≤ 300 := by have := H1.out.1.len; have := HFt.out.n; omega
  go_wp2_with fail
  have HG : Hid (∀ g g', (Value.slice a1 ns.length c1).ownBlock = some g → (Value.slice a2 ns.length c2).ownBlock = some g' → g ≠ g') := H2.out.2.2.1
  have HL : Hid (S.Lists ns) := H1.out.1
  have H0 : Hid (∃ xs, w2.ownsRow (w.heap.size + 1) 9 1 (.slice a1 ns.length c1) ns.length xs ∧ (∀ j, 0 ≤ j → xs[j]? = (ns.map encStr)[j]?) ∧ w2.ownsRow (w.heap.size + 1) 9 1 (.slice a2 ns.length c2) ns.length (ns.map encStr) ∧ Below (w.heap.size + 1) (w.alloc (.cells #[.pointer (some ⟨p, 0, none⟩), .pointer (some ⟨q, 0, none⟩)] 29)) w2) := ⟨_, H2.out.1, fun _ _ => rfl, H2.out.2.1, H2.out.2.2.2⟩
  clear H1 H2 b0 b1
  have hmx : Tryd.prog.follows .mixedOrders = true := by kernel_rfl
  go_loopw [21] (fun i wr => ∃ k : Nat, k ≤ ns.length ∧ i = .int .i64 (k : Int) ∧ Hid (∃ xs, wr.ownsRow (w.heap.size + 1) 9 1 (.slice a1 ns.length c1) ns.length xs ∧ (∀ j, k ≤ j → xs[j]? = (ns.map encStr)[j]?) ∧ wr.ownsRow (w.heap.size + 1) 9 1 (.slice a2 ns.length c2) ns.length (ns.map encStr) ∧ Below (w.heap.size + 1) (w.alloc (.cells #[.pointer (some ⟨p, 0, none⟩), .pointer (some ⟨q, 0, none⟩)] 29)) wr)) (fun i _ => ns.length - (intOf i).toNat)
  case atStart => exact ⟨0, Nat.zero_le _, rfl, H0⟩
  case round =>
    clear H0
    obtain ⟨k, hk, rfl, H⟩ := hrel
    by_cases hlt : k < ns.length
    · have i2 : (k : Int) < (ns.length : Int) := by omega
      have i3 : (0 : Int) ≤ (k : Int) := by omega
      obtain ⟨x, hx⟩ : ∃ x, ns[k]? = some x := ⟨ns[k], by simp [hlt]⟩
      obtain ⟨xs, ho1, hxs, ho2, hB⟩ := H.out
      obtain ⟨b0, b1, hP, hsz, hBw⟩ := HC.out _ hB
      rcases ho1.2 with ⟨_, hz⟩ | ⟨g1, cap1, cur1, hg1, _⟩
      · omega
      cases hg1
      rcases ho2.2 with ⟨_, hz⟩ | ⟨g2, cap2, cur2, hg2, _⟩
      · omega
      cases hg2
      have c1x : wr.cell? ⟨g1, k, none⟩ = some (.string ⟨x.toArray⟩) := by rw [ho1.cellAt k (by omega), hxs k (Nat.le_refl _)]; simp [hx, encStr]
      have c2x : wr.cell? ⟨g2, k, none⟩ = some (.string ⟨x.toArray⟩) := by rw [ho2.cellAt k (by omega)]; simp [hx, encStr]
      have HS : Hid (∀ W, Below wr.heap.size wr W → (W.cell? ⟨w.heap.size, 0, none⟩ = some (.pointer (some ⟨p, 0, none⟩)) ∧ W.cell? ⟨w.heap.size, 1, none⟩ = some (.pointer (some ⟨q, 0, none⟩)) ∧ W.cell? ⟨g1, k, none⟩ = some (.string ⟨x.toArray⟩) ∧ W.cell? ⟨g2, k, none⟩ = some (.string ⟨x.toArray⟩)) ∧
          W.frozen? ⟨g1, k, none⟩ = false ∧ (∃ xs, (W.setCell ⟨g1, k, none⟩ (.string ⟨#[33]⟩)).ownsRow (w.heap.size + 1) 9 1 (.slice (some ⟨g1, 0, none⟩) ns.length c1) ns.length xs ∧ (∀ j, k + 1 ≤ j → xs[j]? = (ns.map encStr)[j]?) ∧ (W.setCell ⟨g1, k, none⟩ (.string ⟨#[33]⟩)).ownsRow (w.heap.size + 1) 9 1 (.slice (some ⟨g2, 0, none⟩) ns.length c2) ns.length (ns.map encStr) ∧ Below (w.heap.size + 1) (w.alloc (.cells #[.pointer (some ⟨p, 0, none⟩), .pointer (some ⟨q, 0, none⟩)] 29)) (W.setCell ⟨g1, k, none⟩ (.string ⟨#[33]⟩)))) := by
        show ∀ W, _ → _
        intro W hW
        have o1 := ownsRow_moveS ho1 (fun g hg => hW.block g (ho1.lt g hg).2)
        have o2 := ownsRow_moveS ho2 (fun g hg => hW.block g (ho2.lt g hg).2)
        have hBW := hB.trans (hW.mono hsz)
        have hst := o1.stored k (.string ⟨#[33]⟩)
        refine ⟨⟨(HC.out _ hBW).1, (HC.out _ hBW).2.1, by rw [hW.cell (World.block_lt_of_cell? _ _ c1x)]; exact c1x, by rw [hW.cell (World.block_lt_of_cell? _ _ c2x)]; exact c2x⟩, o1.frozenAt k, _, hst.1, fun j hj => ?_, ?_, ?_⟩
        · rw [List.getElem?_set_ne (by omega)]
          exact hxs j (by omega)
        · exact ownsRow_moveS o2 (fun g hg => Below.heap_setCell _ _ _ _ (fun e => HG.out g1 g rfl hg e.symm))
        · exact hBW.setCell (p := ⟨g1, k, none⟩) (o1.lt g1 rfl).1 _
      have HF : Hid (∀ W, Below wr.heap.size wr W → Calls Tryd.prog 18 #[.agg #[.pointer (some ⟨p, 0, none⟩), .pointer (some ⟨q, 0, none⟩)], .string ⟨x.toArray⟩] W fun e w' => e = .returned (.bool true) ∧ Below W.heap.size W w') := fun W hW =>
        HFi.out W ns HL.out (HC.out _ (hB.trans (hW.mono hsz))).2.2.1 x (List.mem_of_getElem? hx)
      have T0 : wr.drew.cell? ⟨w.heap.size, 0, none⟩ = some (.pointer (some ⟨p, 0, none⟩)) ∧ wr.drew.cell? ⟨w.heap.size, 1, none⟩ = some (.pointer (some ⟨q, 0, none⟩)) ∧ wr.drew.cell? ⟨g1, k, none⟩ = some (.string ⟨x.toArray⟩) ∧ wr.drew.cell? ⟨g2, k, none⟩ = some (.string ⟨x.toArray⟩) := ⟨b0, b1, c1x, c2x⟩
      clear H hxs ho1 ho2 hB hP hsz hBw hx b0 b1 c1x c2x
      go_upto_region 8 with fail
      refine wp_region_G (S := SB 1000 (fun _ => True) (fun W => W.cell? ⟨w.heap.size, 0, none⟩ = some (.pointer (some ⟨p, 0, none⟩)) ∧ W.cell? ⟨w.heap.size, 1, none⟩ = some (.pointer (some ⟨q, 0, none⟩)) ∧ W.cell? ⟨g1, k, none⟩ = some (.string ⟨x.toArray⟩) ∧ W.cell? ⟨g2, k, none⟩ = some (.string ⟨x.toArray⟩))) hmx ?_
      have hSB : SB 1000 (fun _ => True) (fun W : World => W.cell? ⟨w.heap.size, 0, none⟩ = some (.pointer (some ⟨p, 0, none⟩)) ∧ W.cell? ⟨w.heap.size, 1, none⟩ = some (.pointer (some ⟨q, 0, none⟩)) ∧ W.cell? ⟨g1, k, none⟩ = some (.string ⟨x.toArray⟩) ∧ W.cell? ⟨g2, k, none⟩ = some (.string ⟨x.toArray⟩)) (Array.replicate 18 false) wr.drew := SB.on trivial T0
      refine wpAnyG_takeP (i := 0) (v := ?_) rfl (by kernel_rfl) (by kernel_rfl) (by kernel_rfl) (fun _ _ _ h => h) rfl (Or.inl ⟨by rfl, ?_⟩) (by assumption) ?_
      rotate_left
      · intro Y hY; obtain ⟨y0, y1, y2, y3⟩ := hY; go_simp; try with_reducible rfl
      intro hSB0
      try simp only [Act.put, List.getElem_toArray, List.getElem_cons_zero, List.setIfInBounds_toArray, List.set_cons_zero, List.set_cons_succ]
      refine wpAnyG_takeP (i := 1) (v := ?_) rfl (by kernel_rfl) (by kernel_rfl) (by kernel_rfl) (fun _ _ _ h => h) rfl (Or.inl ⟨by rfl, ?_⟩) (by assumption) ?_
      rotate_left
      · intro Y hY; obtain ⟨y0, y1, y2, y3⟩ := hY; go_simp; try with_reducible rfl
      intro hSB1
      try simp only [Act.put, List.getElem_toArray, List.getElem_cons_zero, List.getElem_cons_succ, List.setIfInBounds_toArray, List.set_cons_zero, List.set_cons_succ]
      refine wpAnyG_takeP (i := 2) (v := ?_) rfl (by kernel_rfl) (by kernel_rfl) (by kernel_rfl) (fun _ _ _ h => h) rfl (Or.inl ⟨by rfl, ?_⟩) (by assumption) ?_
      rotate_left
      · intro Y hY; obtain ⟨y0, y1, y2, y3⟩ := hY; go_simp; try with_reducible rfl
      intro hSB2
      try simp only [Act.put, List.getElem_toArray, List.getElem_cons_zero, List.getElem_cons_succ, List.setIfInBounds_toArray, List.set_cons_zero, List.set_cons_succ]
      refine wpAnyG_takeP (i := 3) (v := ?_) rfl (by kernel_rfl) (by kernel_rfl) (by kernel_rfl) (fun _ _ _ h => h) rfl (Or.inl ⟨by rfl, ?_⟩) (by assumption) ?_
      rotate_left
      · intro Y hY; obtain ⟨y0, y1, y2, y3⟩ := hY; go_simp; try with_reducible rfl
      intro hSB3
      try simp only [Act.put, List.getElem_toArray, List.getElem_cons_zero, List.getElem_cons_succ, List.setIfInBounds_toArray, List.set_cons_zero, List.set_cons_succ]
      refine wpAnyG_takeP (i := 4) (v := ?_) rfl (by kernel_rfl) (by kernel_rfl) (by kernel_rfl) (fun _ _ _ h => h) rfl (Or.inl ⟨by rfl, ?_⟩) (by assumption) ?_
      rotate_left
      · intro Y hY; obtain ⟨y0, y1, y2, y3⟩ := hY; go_simp; try with_reducible rfl
      intro hSB4
      try simp only [Act.put, List.getElem_toArray, List.getElem_cons_zero, List.getElem_cons_succ, List.setIfInBounds_toArray, List.set_cons_zero, List.set_cons_succ]
      refine wpAnyG_takeP (i := 5) (v := ?_) rfl (by kernel_rfl) (by kernel_rfl) (by kernel_rfl) (fun _ _ _ h => h) rfl (Or.inl ⟨by rfl, ?_⟩) (by assumption) ?_
      rotate_left
      · intro Y hY; obtain ⟨y0, y1, y2, y3⟩ := hY; go_simp; try with_reducible rfl
      intro hSB5
      try simp only [Act.put, List.getElem_toArray, List.getElem_cons_zero, List.getElem_cons_succ, List.setIfInBounds_toArray, List.set_cons_zero, List.set_cons_succ]
      refine wpAnyG_takeP (i := 6) (v := ?_) rfl (by kernel_rfl) (by kernel_rfl) (by kernel_rfl) (fun _ _ _ h => h) rfl (Or.inl ⟨by rfl, ?_⟩) (by assumption) ?_
      rotate_left
      · intro Y hY; obtain ⟨y0, y1, y2, y3⟩ := hY; go_simp; try with_reducible rfl
      intro hSB6
      try simp only [Act.put, List.getElem_toArray, List.getElem_cons_zero, List.getElem_cons_succ, List.setIfInBounds_toArray, List.set_cons_zero, List.set_cons_succ]
      refine wpAnyG_takeP (i := 7) (v := ?_) rfl (by kernel_rfl) (by kernel_rfl) (by kernel_rfl) (fun _ _ _ h => h) rfl (Or.inl ⟨by rfl, ?_⟩) (by assumption) ?_
      rotate_left
      · intro Y hY; obtain ⟨y0, y1, y2, y3⟩ := hY; go_simp; try with_reducible rfl
      intro hSB7
      try simp only [Act.put, List.getElem_toArray, List.getElem_cons_zero, List.getElem_cons_succ, List.setIfInBounds_toArray, List.set_cons_zero, List.set_cons_succ]
      refine wpAnyG_takeP (i := 8) (v := ?_) rfl (by kernel_rfl) (by kernel_rfl) (by kernel_rfl) (fun _ _ _ h => h) rfl (Or.inl ⟨by rfl, ?_⟩) (by assumption) ?_
      rotate_left
      · intro Y hY; obtain ⟨y0, y1, y2, y3⟩ := hY; go_simp; try with_reducible rfl
      intro hSB8
      try simp only [Act.put, List.getElem_toArray, List.getElem_cons_zero, List.getElem_cons_succ, List.setIfInBounds_toArray, List.set_cons_zero, List.set_cons_succ]
      refine wpAnyG_takeP (i := 9) (v := ?_) rfl (by kernel_rfl) (by kernel_rfl) (by kernel_rfl) (fun _ _ _ h => h) rfl (Or.inl ⟨by rfl, ?_⟩) (by assumption) ?_
      rotate_left
      · intro Y hY; obtain ⟨y0, y1, y2, y3⟩ := hY; go_simp; try with_reducible rfl
      intro hSB9
      try simp only [Act.put, List.getElem_toArray, List.getElem_cons_zero, List.getElem_cons_succ, List.setIfInBounds_toArray, List.set_cons_zero, List.set_cons_succ]
      refine wpAnyG_takeP (i := 10) (v := ?_) rfl (by kernel_rfl) (by kernel_rfl) (by kernel_rfl) (fun _ _ _ h => h) rfl (Or.inl ⟨by rfl, ?_⟩) (by assumption) ?_
      rotate_left
      · intro Y hY; obtain ⟨y0, y1, y2, y3⟩ := hY; go_simp; try with_reducible rfl
      intro hSB10
      try simp only [Act.put, List.getElem_toArray, List.getElem_cons_zero, List.getElem_cons_succ, List.setIfInBounds_toArray, List.set_cons_zero, List.set_cons_succ]
      refine wpAnyG_takeP (i := 11) (v := ?_) rfl (by kernel_rfl) (by kernel_rfl) (by kernel_rfl) (fun _ _ _ h => h) rfl (Or.inl ⟨by rfl, ?_⟩) (by assumption) ?_
      rotate_left
      · intro Y hY; obtain ⟨y0, y1, y2, y3⟩ := hY; go_simp; try with_reducible rfl
      intro hSB11
      try simp only [Act.put, List.getElem_toArray, List.getElem_cons_zero, List.getElem_cons_succ, List.setIfInBounds_toArray, List.set_cons_zero, List.set_cons_succ]
      refine wpAnyG_takeP (i := 12) (v := ?_) rfl (by kernel_rfl) (by kernel_rfl) (by kernel_rfl) (fun _ _ _ h => h) rfl (Or.inl ⟨by rfl, ?_⟩) (by assumption) ?_
      rotate_left
      · intro Y hY; obtain ⟨y0, y1, y2, y3⟩ := hY; go_simp; try with_reducible rfl
      intro hSB12
      try simp only [Act.put, List.getElem_toArray, List.getElem_cons_zero, List.getElem_cons_succ, List.setIfInBounds_toArray, List.set_cons_zero, List.set_cons_succ]
      refine wpAnyG_takeP (i := 13) (v := ?_) rfl (by kernel_rfl) (by kernel_rfl) (by kernel_rfl) (fun _ _ _ h => h) rfl (Or.inl ⟨by rfl, ?_⟩) (by assumption) ?_
      rotate_left
      · intro Y hY; obtain ⟨y0, y1, y2, y3⟩ := hY; go_simp; try with_reducible rfl
      intro hSB13
      try simp only [Act.put, List.getElem_toArray, List.getElem_cons_zero, List.getElem_cons_succ, List.setIfInBounds_toArray, List.set_cons_zero, List.set_cons_succ]
      refine wpAnyG_takeP (i := 14) (v := ?_) rfl (by kernel_rfl) (by kernel_rfl) (by kernel_rfl) (fun _ _ _ h => h) rfl (Or.inl ⟨by rfl, ?_⟩) (by assumption) ?_
      rotate_left
      · intro Y hY; obtain ⟨y0, y1, y2, y3⟩ := hY; go_simp; try with_reducible rfl
      intro hSB14
      try simp only [Act.put, List.getElem_toArray, List.getElem_cons_zero, List.getElem_cons_succ, List.setIfInBounds_toArray, List.set_cons_zero, List.set_cons_succ]
      refine wpAnyG_one (i := 15) (by kernel_rfl) rfl (fun K hK => ?_)
      refine step_wfile _ (by rfl) _ _ _ _ (by rfl) _ _ (by rfl) (by rfl) (fun v W => v = .bool true ∧ Below wr.heap.size wr W) ((HF.out wr.drew ⟨rfl, rfl, rfl, Nat.le_refl _, fun _ _ => rfl⟩).mono (fun e w' h => ⟨_, h.1, rfl, (show Below wr.heap.size wr wr.drew from ⟨rfl, rfl, rfl, Nat.le_refl _, fun _ _ => rfl⟩).trans h.2⟩)) ?_
      rintro v w9 ⟨rfl, hB9⟩
      have H9 : Hid (Below wr.heap.size wr w9) := hB9
      clear hB9
      refine hK.out _ _ (SB.on trivial (HS.out _ H9.out).1) (fun hSB15 => ?_)
      clear hK K
      try simp only [Act.put, List.getElem_toArray, List.getElem_cons_zero, List.getElem_cons_succ, List.setIfInBounds_toArray, List.set_cons_zero, List.set_cons_succ]
      refine wpAnyG_takeP (i := 16) (v := ?_) rfl (by kernel_rfl) (by kernel_rfl) (by kernel_rfl) (fun _ _ _ h => h) rfl (Or.inl ⟨by rfl, ?_⟩) (by assumption) ?_
      rotate_left
      · intro Y hY; obtain ⟨y0, y1, y2, y3⟩ := hY; go_simp; try with_reducible rfl
      intro hSB16
      try simp only [Act.put, List.getElem_toArray, List.getElem_cons_zero, List.getElem_cons_succ, List.setIfInBounds_toArray, List.set_cons_zero, List.set_cons_succ]
      refine wpAnyG_takeP (i := 17) (v := ?_) rfl (by kernel_rfl) (by kernel_rfl) (by kernel_rfl) (fun _ _ _ h => h) rfl (Or.inl ⟨by rfl, ?_⟩) (by assumption) ?_
      rotate_left
      · intro Y hY; obtain ⟨y0, y1, y2, y3⟩ := hY; go_simp; try with_reducible rfl
      intro hSB17
      try simp only [Act.put, List.getElem_toArray, List.getElem_cons_zero, List.getElem_cons_succ, List.setIfInBounds_toArray, List.set_cons_zero, List.set_cons_succ]
      refine wpAnyG_done (by kernel_rfl) ?_ _
      clear hSB hSB0 hSB1 hSB2 hSB3 hSB4 hSB5 hSB6 hSB7 hSB8 hSB9 hSB10 hSB11 hSB12 hSB13 hSB14 hSB15 hSB16 hSB17
      obtain ⟨⟨b0, b1, c1x, c2x⟩, fz, HN0⟩ := HS.out _ H9.out
      have HN : Hid _ := HN0
      clear HN0 HS HF T0 H9
      go_wp2
      exact ⟨⟨k + 1, by omega, by simp, HN⟩, by simp [intOf]; omega⟩
    · have i2 : ¬ (k : Int) < (ns.length : Int) := by omega
      obtain rfl : k = ns.length := by omega
      obtain ⟨_, _, _, _, hB⟩ := H.out
      obtain ⟨b0, b1, hP, hsz, hBw⟩ := HC.out _ hB
      have H3 : Hid (Below (w.heap.size + 1) (w.alloc (.cells #[.pointer (some ⟨p, 0, none⟩), .pointer (some ⟨q, 0, none⟩)] 29)) wr) := hB
      have HWr : Hid (∀ W, Below (w.heap.size + 1) (w.alloc (.cells #[.pointer (some ⟨p, 0, none⟩), .pointer (some ⟨q, 0, none⟩)] 29)) W → Calls Tryd.prog 14 #[.pointer (some ⟨p, 0, none⟩)] W fun e w' => e = .returned (.int .i64 S.wr) ∧ w' = W) := fun W hW => writes_any p S Fp W (HC.out W hW).2.2.1.d
      have HCu : Hid (∀ W, Below (w.heap.size + 1) (w.alloc (.cells #[.pointer (some ⟨p, 0, none⟩), .pointer (some ⟨q, 0, none⟩)] 29)) W → Calls Tryd.prog 19 #[.pointer (some ⟨p, 0, none⟩)] W fun e w' => e = .returned (.tuple #[.int .i64 S.left, .bool S.cut]) ∧ Below W.heap.size W w') := fun W hW => cutting_any p S Fp W (HC.out W hW).2.2.1.d
      obtain ⟨fs, is, left, hR, hM⟩ := hP.r
      have HQ : Hid (∀ W, Below wr.heap.size wr W → W.cell? ⟨q, 1, none⟩ = some (.int .i64 S.wr) ∧ W.cell? ⟨q, 2, none⟩ = some (.int .i64 left)) := fun W hW => ⟨(hR.below hW).c1, (hR.below hW).c2⟩
      have hfl := HFt.out.left
      rcases hM.left with ⟨hc, hl⟩ | ⟨hc, hl⟩
      · subst hl
        rw [hfl hc, hc] at HCu
        have i5 : max (-1 : Int) 0 = 0 := by decide
        clear hR hM hP hc hfl hB hBw HFi HNm HRn H
        go_upto_region 15 with first
          | (go_at_call 19; go_loud (refine (HCu.out _ H3.out).mono ?_; rintro e w4 ⟨rfl, hB4⟩; have H4 : Hid (Below (w.heap.size + 1) (w.alloc (.cells #[.pointer (some ⟨p, 0, none⟩), .pointer (some ⟨q, 0, none⟩)] 29)) w4) := H3.out.trans (hB4.mono (HC.out _ H3.out).2.2.2.1); obtain ⟨b0, b1, _⟩ := HC.out _ H4.out; obtain ⟨d1, d2⟩ := HQ.out _ hB4; clear hB4))
        refine wp_region_G (S := SB 1000 (fun _ => True) (fun W => W.cell? ⟨w.heap.size, 0, none⟩ = some (.pointer (some ⟨p, 0, none⟩)) ∧ W.cell? ⟨w.heap.size, 1, none⟩ = some (.pointer (some ⟨q, 0, none⟩)) ∧ W.cell? ⟨q, 1, none⟩ = some (.int .i64 (S.wr : Int)))) hmx ?_
        have T0 : (fun W : World => W.cell? ⟨w.heap.size, 0, none⟩ = some (.pointer (some ⟨p, 0, none⟩)) ∧ W.cell? ⟨w.heap.size, 1, none⟩ = some (.pointer (some ⟨q, 0, none⟩)) ∧ W.cell? ⟨q, 1, none⟩ = some (.int .i64 (S.wr : Int))) w4.drew := ⟨b0, b1, d1⟩
        have hSB : SB 1000 (fun _ => True) (fun W : World => W.cell? ⟨w.heap.size, 0, none⟩ = some (.pointer (some ⟨p, 0, none⟩)) ∧ W.cell? ⟨w.heap.size, 1, none⟩ = some (.pointer (some ⟨q, 0, none⟩)) ∧ W.cell? ⟨q, 1, none⟩ = some (.int .i64 (S.wr : Int))) (Array.replicate 10 false) w4.drew := SB.on trivial T0
        refine wpAnyG_takeP (i := 0) (v := ?_) rfl (by kernel_rfl) (by kernel_rfl) (by kernel_rfl) (fun _ _ _ h => h) rfl (Or.inl ⟨by rfl, ?_⟩) (by assumption) ?_
        rotate_left
        · intro Y hY; obtain ⟨y0, y1, y2⟩ := hY; go_simp; try with_reducible rfl
        intro hSB0
        try simp only [Act.put, List.getElem_toArray, List.getElem_cons_zero, List.setIfInBounds_toArray, List.set_cons_zero, List.set_cons_succ]
        refine wpAnyG_takeP (i := 1) (v := ?_) rfl (by kernel_rfl) (by kernel_rfl) (by kernel_rfl) (fun _ _ _ h => h) rfl (Or.inl ⟨by rfl, ?_⟩) (by assumption) ?_
        rotate_left
        · intro Y hY; obtain ⟨y0, y1, y2⟩ := hY; go_simp; try with_reducible rfl
        intro hSB1
        try simp only [Act.put, List.getElem_toArray, List.getElem_cons_zero, List.getElem_cons_succ, List.setIfInBounds_toArray, List.set_cons_zero, List.set_cons_succ]
        refine wpAnyG_takeP (i := 3) (v := ?_) rfl (by kernel_rfl) (by kernel_rfl) (by kernel_rfl) (fun _ _ _ h => h) rfl (Or.inl ⟨by rfl, ?_⟩) (by assumption) ?_
        rotate_left
        · intro Y hY; obtain ⟨y0, y1, y2⟩ := hY; go_simp; try with_reducible rfl
        intro hSB3
        try simp only [Act.put, List.getElem_toArray, List.getElem_cons_zero, List.getElem_cons_succ, List.setIfInBounds_toArray, List.set_cons_zero, List.set_cons_succ]
        refine wpAnyG_takeP (i := 4) (v := ?_) rfl (by kernel_rfl) (by kernel_rfl) (by kernel_rfl) (fun _ _ _ h => h) rfl (Or.inl ⟨by rfl, ?_⟩) (by assumption) ?_
        rotate_left
        · intro Y hY; obtain ⟨y0, y1, y2⟩ := hY; go_simp; try with_reducible rfl
        intro hSB4
        try simp only [Act.put, List.getElem_toArray, List.getElem_cons_zero, List.getElem_cons_succ, List.setIfInBounds_toArray, List.set_cons_zero, List.set_cons_succ]
        refine wpAnyG_takeP (i := 5) (v := ?_) rfl (by kernel_rfl) (by kernel_rfl) (by kernel_rfl) (fun _ _ _ h => h) rfl (Or.inl ⟨by rfl, ?_⟩) (by assumption) ?_
        rotate_left
        · intro Y hY; obtain ⟨y0, y1, y2⟩ := hY; go_simp; try with_reducible rfl
        intro hSB5
        try simp only [Act.put, List.getElem_toArray, List.getElem_cons_zero, List.getElem_cons_succ, List.setIfInBounds_toArray, List.set_cons_zero, List.set_cons_succ]
        refine wpAnyG_takeP (i := 6) (v := ?_) rfl (by kernel_rfl) (by kernel_rfl) (by kernel_rfl) (fun _ _ _ h => h) rfl (Or.inl ⟨by rfl, ?_⟩) (by assumption) ?_
        rotate_left
        · intro Y hY; obtain ⟨y0, y1, y2⟩ := hY; go_simp; try with_reducible rfl
        intro hSB6
        try simp only [Act.put, List.getElem_toArray, List.getElem_cons_zero, List.getElem_cons_succ, List.setIfInBounds_toArray, List.set_cons_zero, List.set_cons_succ]
        refine wpAnyG_takeP (i := 7) (v := ?_) rfl (by kernel_rfl) (by kernel_rfl) (by kernel_rfl) (fun _ _ _ h => h) rfl (Or.inl ⟨by rfl, ?_⟩) (by assumption) ?_
        rotate_left
        · intro Y hY; obtain ⟨y0, y1, y2⟩ := hY; go_simp; try with_reducible rfl
        intro hSB7
        try simp only [Act.put, List.getElem_toArray, List.getElem_cons_zero, List.getElem_cons_succ, List.setIfInBounds_toArray, List.set_cons_zero, List.set_cons_succ]
        refine wpAnyG_one (i := 2) (by kernel_rfl) rfl (fun K hK => ?_)
        refine step_writes _ (by rfl) _ _ (by rfl) _ (by rfl) (fun v W => v = .int .i64 (S.wr : Int) ∧ W = w4.drew) ((HWr.out w4.drew (H4.out.trans ⟨rfl, rfl, rfl, Nat.le_refl _, fun _ _ => rfl⟩)).mono (fun e u h => ⟨_, h.1, rfl, h.2⟩)) ?_
        rintro v w5 ⟨rfl, hw5⟩
        subst hw5
        refine hK.out _ _ (SB.on trivial T0) (fun hSB2 => ?_)
        clear hK K
        try simp only [Act.put, List.getElem_toArray, List.getElem_cons_zero, List.getElem_cons_succ, List.setIfInBounds_toArray, List.set_cons_zero, List.set_cons_succ]
        refine wpAnyG_takeP (i := 8) (v := ?_) rfl (by kernel_rfl) (by kernel_rfl) (by kernel_rfl) (fun _ _ _ h => h) rfl (Or.inl ⟨by rfl, ?_⟩) (by assumption) ?_
        rotate_left
        · intro Y hY; obtain ⟨y0, y1, y2⟩ := hY; go_simp; try with_reducible rfl
        intro hSB8
        try simp only [Act.put, List.getElem_toArray, List.getElem_cons_zero, List.getElem_cons_succ, List.setIfInBounds_toArray, List.set_cons_zero, List.set_cons_succ]
        try simp only [beq_self_eq_true]
        refine wpAnyG_one (i := 9) (by kernel_rfl) rfl (fun K hK => ?_)
        go_simp
        refine hK.out _ _ (SB.on trivial T0) (fun hSB9 => ?_)
        clear hK K
        try simp only [Act.put, List.getElem_toArray, List.getElem_cons_zero, List.getElem_cons_succ, List.setIfInBounds_toArray, List.set_cons_zero, List.set_cons_succ]
        refine wpAnyG_done (by kernel_rfl) ?_ _
        clear hSB hSB0 hSB1 hSB2 hSB3 hSB4 hSB5 hSB6 hSB7 hSB8 hSB9
        go_wp2
        exact bodyPost_ret (v := .bool true) (by simp [results, Tryd.results10, go_sem]) rfl ⟨rfl, (HC.out _ H4.out).2.2.2.2.trans ⟨rfl, rfl, rfl, Nat.le_refl _, fun _ _ => rfl⟩⟩
      · subst hl
        rw [hc] at HCu
        have i4 : (0 : Int) ≤ (S.left : Int) := by omega
        have i5 : max (S.left : Int) 0 = (S.left : Int) := by omega
        clear hR hM hP hc hfl hB hBw HFi HNm HRn H
        go_upto_region 15 with first
          | (go_at_call 19; go_loud (refine (HCu.out _ H3.out).mono ?_; rintro e w4 ⟨rfl, hB4⟩; have H4 : Hid (Below (w.heap.size + 1) (w.alloc (.cells #[.pointer (some ⟨p, 0, none⟩), .pointer (some ⟨q, 0, none⟩)] 29)) w4) := H3.out.trans (hB4.mono (HC.out _ H3.out).2.2.2.1); obtain ⟨b0, b1, _⟩ := HC.out _ H4.out; obtain ⟨d1, d2⟩ := HQ.out _ hB4; clear hB4))
        refine wp_region_G (S := SB 1000 (fun _ => True) (fun W => W.cell? ⟨w.heap.size, 0, none⟩ = some (.pointer (some ⟨p, 0, none⟩)) ∧ W.cell? ⟨w.heap.size, 1, none⟩ = some (.pointer (some ⟨q, 0, none⟩)) ∧ W.cell? ⟨q, 1, none⟩ = some (.int .i64 (S.wr : Int)))) hmx ?_
        have T0 : (fun W : World => W.cell? ⟨w.heap.size, 0, none⟩ = some (.pointer (some ⟨p, 0, none⟩)) ∧ W.cell? ⟨w.heap.size, 1, none⟩ = some (.pointer (some ⟨q, 0, none⟩)) ∧ W.cell? ⟨q, 1, none⟩ = some (.int .i64 (S.wr : Int))) w4.drew := ⟨b0, b1, d1⟩
        have hSB : SB 1000 (fun _ => True) (fun W : World => W.cell? ⟨w.heap.size, 0, none⟩ = some (.pointer (some ⟨p, 0, none⟩)) ∧ W.cell? ⟨w.heap.size, 1, none⟩ = some (.pointer (some ⟨q, 0, none⟩)) ∧ W.cell? ⟨q, 1, none⟩ = some (.int .i64 (S.wr : Int))) (Array.replicate 10 false) w4.drew := SB.on trivial T0
        refine wpAnyG_takeP (i := 0) (v := ?_) rfl (by kernel_rfl) (by kernel_rfl) (by kernel_rfl) (fun _ _ _ h => h) rfl (Or.inl ⟨by rfl, ?_⟩) (by assumption) ?_
        rotate_left
        · intro Y hY; obtain ⟨y0, y1, y2⟩ := hY; go_simp; try with_reducible rfl
        intro hSB0
        try simp only [Act.put, List.getElem_toArray, List.getElem_cons_zero, List.setIfInBounds_toArray, List.set_cons_zero, List.set_cons_succ]
        refine wpAnyG_takeP (i := 1) (v := ?_) rfl (by kernel_rfl) (by kernel_rfl) (by kernel_rfl) (fun _ _ _ h => h) rfl (Or.inl ⟨by rfl, ?_⟩) (by assumption) ?_
        rotate_left
        · intro Y hY; obtain ⟨y0, y1, y2⟩ := hY; go_simp; try with_reducible rfl
        intro hSB1
        try simp only [Act.put, List.getElem_toArray, List.getElem_cons_zero, List.getElem_cons_succ, List.setIfInBounds_toArray, List.set_cons_zero, List.set_cons_succ]
        refine wpAnyG_takeP (i := 3) (v := ?_) rfl (by kernel_rfl) (by kernel_rfl) (by kernel_rfl) (fun _ _ _ h => h) rfl (Or.inl ⟨by rfl, ?_⟩) (by assumption) ?_
        rotate_left
        · intro Y hY; obtain ⟨y0, y1, y2⟩ := hY; go_simp; try with_reducible rfl
        intro hSB3
        try simp only [Act.put, List.getElem_toArray, List.getElem_cons_zero, List.getElem_cons_succ, List.setIfInBounds_toArray, List.set_cons_zero, List.set_cons_succ]
        refine wpAnyG_takeP (i := 4) (v := ?_) rfl (by kernel_rfl) (by kernel_rfl) (by kernel_rfl) (fun _ _ _ h => h) rfl (Or.inl ⟨by rfl, ?_⟩) (by assumption) ?_
        rotate_left
        · intro Y hY; obtain ⟨y0, y1, y2⟩ := hY; go_simp; try with_reducible rfl
        intro hSB4
        try simp only [Act.put, List.getElem_toArray, List.getElem_cons_zero, List.getElem_cons_succ, List.setIfInBounds_toArray, List.set_cons_zero, List.set_cons_succ]
        refine wpAnyG_takeP (i := 5) (v := ?_) rfl (by kernel_rfl) (by kernel_rfl) (by kernel_rfl) (fun _ _ _ h => h) rfl (Or.inl ⟨by rfl, ?_⟩) (by assumption) ?_
        rotate_left
        · intro Y hY; obtain ⟨y0, y1, y2⟩ := hY; go_simp; try with_reducible rfl
        intro hSB5
        try simp only [Act.put, List.getElem_toArray, List.getElem_cons_zero, List.getElem_cons_succ, List.setIfInBounds_toArray, List.set_cons_zero, List.set_cons_succ]
        refine wpAnyG_takeP (i := 6) (v := ?_) rfl (by kernel_rfl) (by kernel_rfl) (by kernel_rfl) (fun _ _ _ h => h) rfl (Or.inl ⟨by rfl, ?_⟩) (by assumption) ?_
        rotate_left
        · intro Y hY; obtain ⟨y0, y1, y2⟩ := hY; go_simp; try with_reducible rfl
        intro hSB6
        try simp only [Act.put, List.getElem_toArray, List.getElem_cons_zero, List.getElem_cons_succ, List.setIfInBounds_toArray, List.set_cons_zero, List.set_cons_succ]
        refine wpAnyG_takeP (i := 7) (v := ?_) rfl (by kernel_rfl) (by kernel_rfl) (by kernel_rfl) (fun _ _ _ h => h) rfl (Or.inl ⟨by rfl, ?_⟩) (by assumption) ?_
        rotate_left
        · intro Y hY; obtain ⟨y0, y1, y2⟩ := hY; go_simp; try with_reducible rfl
        intro hSB7
        try simp only [Act.put, List.getElem_toArray, List.getElem_cons_zero, List.getElem_cons_succ, List.setIfInBounds_toArray, List.set_cons_zero, List.set_cons_succ]
        refine wpAnyG_one (i := 2) (by kernel_rfl) rfl (fun K hK => ?_)
        refine step_writes _ (by rfl) _ _ (by rfl) _ (by rfl) (fun v W => v = .int .i64 (S.wr : Int) ∧ W = w4.drew) ((HWr.out w4.drew (H4.out.trans ⟨rfl, rfl, rfl, Nat.le_refl _, fun _ _ => rfl⟩)).mono (fun e u h => ⟨_, h.1, rfl, h.2⟩)) ?_
        rintro v w5 ⟨rfl, hw5⟩
        subst hw5
        refine hK.out _ _ (SB.on trivial T0) (fun hSB2 => ?_)
        clear hK K
        try simp only [Act.put, List.getElem_toArray, List.getElem_cons_zero, List.getElem_cons_succ, List.setIfInBounds_toArray, List.set_cons_zero, List.set_cons_succ]
        refine wpAnyG_takeP (i := 8) (v := ?_) rfl (by kernel_rfl) (by kernel_rfl) (by kernel_rfl) (fun _ _ _ h => h) rfl (Or.inl ⟨by rfl, ?_⟩) (by assumption) ?_
        rotate_left
        · intro Y hY; obtain ⟨y0, y1, y2⟩ := hY; go_simp; try with_reducible rfl
        intro hSB8
        try simp only [Act.put, List.getElem_toArray, List.getElem_cons_zero, List.getElem_cons_succ, List.setIfInBounds_toArray, List.set_cons_zero, List.set_cons_succ]
        try simp only [beq_self_eq_true]
        refine wpAnyG_one (i := 9) (by kernel_rfl) rfl (fun K hK => ?_)
        go_simp
        refine hK.out _ _ (SB.on trivial T0) (fun hSB9 => ?_)
        clear hK K
        try simp only [Act.put, List.getElem_toArray, List.getElem_cons_zero, List.getElem_cons_succ, List.setIfInBounds_toArray, List.set_cons_zero, List.set_cons_succ]
        refine wpAnyG_done (by kernel_rfl) ?_ _
        clear hSB hSB0 hSB1 hSB2 hSB3 hSB4 hSB5 hSB6 hSB7 hSB8 hSB9
        go_wp2
        exact bodyPost_ret (v := .bool true) (by simp [results, Tryd.results10, go_sem]) rfl ⟨rfl, (HC.out _ H4.out).2.2.2.2.trans ⟨rfl, rfl, rfl, Nat.le_refl _, fun _ _ => rfl⟩⟩

end Go.Proofs.YtcbmofapnjdmgaaDoor
