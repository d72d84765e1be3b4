import Derived.Test.YtdchmmdndgbllaaDoorW27
import Derived.Test.YtdchmmdndgbllaaDoorW41
import Derived.Test.YtdchmmdndgbllaaDoorW36
/- The walk of the law RuleMany. -/
namespace Go.Proofs.YtdchmmdndgbllaaDoor
open Go.RowKit Go.Shelf

attribute [local go_sem] Oper.semAt_some

theorem step_wakes {o : Oper} {a : Act} {K : Act → World → Prop} {Q : Exit → Act → World → Prop} {w wx : World} (ho : o.op = .call { callee := .value (.func 8), args := #[], argTypes := #[] })
    (hc : Calls Tryd.prog 8 #[] w fun e w' => e = .returned (.bool true) ∧ Below wx.heap.size wx w')
    (h : ∀ w', Below wx.heap.size wx w' → K (a.put o.dst (.bool true)) w') : Oper.wp Tryd.prog o a w K Q := by
  unfold Oper.wp execOp
  simp [ho, resolve, invoke, go_sem]
  refine hc.mono ?_
  rintro e w' ⟨rfl, hB⟩
  have := h w' hB
  simpa [go_sem] using this

theorem rep_snoc (r : Ru) (j : Nat) : textR (List.replicate (j + 1) r) = textR (List.replicate j r) ++ (lineR r ++ [10]) := by
  rw [List.replicate_succ', textR_snoc]
theorem rep_ok {r : Ru} (h : okR r = true) (j : Nat) : ∀ x ∈ List.replicate j r, okR x = true := fun x hx => by rw [(List.mem_replicate.1 hx).2]; exact h

set_option maxRecDepth 100000 in
set_option maxHeartbeats 8000000 in
theorem ruleMany_walk (k : Int) (f t : ByteArray) (w : World) (hf : f.size ≤ maxLen) (ht : t.size ≤ maxLen) (hT : Tabs w) :
    Calls Tryd.prog 7 #[rv k f t] w fun e w' => e = .returned (.bool true) ∧ Below w.heap.size w w' := by
  have hmx : Tryd.prog.follows .mixedOrders = true := by kernel_rfl
  have hwk := fun W (h : Below w.heap.size w W) => uwakes_any W (hT.below h)
  have HLn : Hid (∀ W, Below w.heap.size w W → Calls Tryd.prog 9 #[rv k f t] W fun e w' => e = .returned (.tuple #[.string (mk (if okR (k, bs f, bs t) = true then lineR (k, bs f, bs t) else [])), .int .i64 (chkE (k, bs f, bs t))]) ∧ Below W.heap.size W w') := fun W h => uline_any k f t W (hT.below h) hf ht
  obtain ⟨W0, hW0⟩ : ∃ W, w.alloc (.cells #[.int .i64 k, .string f, .string t] 26) = W := ⟨_, rfl⟩
  obtain ⟨g1, hg1⟩ : ∃ g, w.heap.size = g := ⟨_, rfl⟩
  have HB0 : Hid (Below w.heap.size w W0) := by rw [← hW0]; exact (Below.refl _ w).alloc (Nat.le_refl _) _
  have HX0 : Hid (BoxR W0 g1 k f t) := by rw [← hW0, ← hg1]; exact BoxR.new w k f t
  have heq := eqR
  have hes := eqS
  by_cases ho : okR (k, bs f, bs t) = true
  rotate_left
  · rw [if_neg ho, chkE_no ho] at HLn
    clear heq hes
    go_enter Tryd.func7, Tryd.ntmps7
    go_wp2_with fail
    refine (hwk _ HB0.out).mono ?_
    clear hW0 hg1
    rintro e w1 ⟨rfl, hB1⟩
    obtain ⟨x0, x1, x2⟩ := (HX0.out.below hB1 HX0.out.lt).cell
    have H1 : Hid (Below w.heap.size w w1) := HB0.out.trans (hB1.mono HB0.out.size)
    clear hB1
    go_wp2_with fail
    refine (HLn.out _ H1.out).mono ?_
    rintro e w2 ⟨rfl, hB2⟩
    have H2 : Hid (Below w.heap.size w w2) := H1.out.trans (hB2.mono H1.out.size)
    clear hB2 x0 x1 x2
    go_wp2_with (go_at_call 8; refine (hwk _ H2.out).mono ?_; rintro e w3 ⟨rfl, hB3⟩)
    go_ret
    exact ⟨rfl, H2.out.trans (hB3.mono H2.out.size)⟩
  · rw [if_pos ho, chkE_ok ho] at HLn
    obtain ⟨r, hr⟩ : ∃ r : Ru, (k, bs f, bs t) = r := ⟨_, rfl⟩
    rw [hr] at ho HLn
    obtain ⟨sb, hsb⟩ : ∃ s, mk (lineR r) = s := ⟨_, rfl⟩
    have HS : Hid (bs sb = lineR r) := by rw [← hsb]; exact bs_mk _
    have hsl : sb.size ≤ 1625 := by have := lineR_len ho; rw [← bs_len, HS.out]; exact this
    rw [hsb] at HLn
    clear hsb
    have HR : Hid (∀ (W : World) (tb : ByteArray), Below w.heap.size w W → bs tb = textR (List.replicate 64 r) → Calls Tryd.prog 14 #[.string tb] W fun e W' => ∃ b o cp, e = .returned (.tuple #[.slice (some ⟨b, o, none⟩) 64 cp, .agg #[.int .i64 0, .int .i64 0]]) ∧ W'.cell? ⟨b, o, none⟩ = some (.int .i64 k) ∧ W'.cell? ⟨b, o + 1, none⟩ = some (.string f) ∧ W'.cell? ⟨b, o + 2, none⟩ = some (.string t) ∧ Below W.heap.size W W') := fun W tb hW htb => by
      have hlen := textR_len _ (rep_ok ho 64)
      rw [List.length_replicate] at hlen
      refine (uread_any tb W (hT.below hW) (by rw [← bs_len, htb]; unfold maxLen; omega)).mono fun e W' hp => ?_
      obtain ⟨ad, cp, h1, h2, _, _, h5⟩ := read_ok (by rw [htb]; exact readT_text _ (rep_ok ho 64) (by simp)) hp
      rw [List.length_replicate] at h1 h2
      obtain ⟨b, o, rfl, hc⟩ := h2.2 (by decide)
      obtain ⟨t1, t2, t3⟩ := hc 0 r (by simp)
      rw [← hr] at t1 t2 t3
      simp only [mk_bs, Nat.zero_mul, Nat.add_zero] at t1 t2 t3
      exact ⟨b, o, cp, h1, t1, t2, t3, h5⟩
    have HM : Hid (∀ (W : World) (tb : ByteArray), Below w.heap.size w W → bs tb = textR (List.replicate 64 r) → Calls Tryd.prog 14 #[.string (tb ++ sb)] W fun e W' => e = .returned (.tuple #[.slice none 0 0, .agg #[.int .i64 3, .int .i64 (tb.size : Int)]]) ∧ Below W.heap.size W W') := fun W tb hW htb => by
      have hlen := textR_len _ (rep_ok ho 64)
      rw [List.length_replicate] at hlen
      have hz : tb.size = (textR (List.replicate 64 r)).length := by rw [← bs_len, htb]
      refine (uread_any (tb ++ sb) W (hT.below hW) (by rw [ByteArray.size_append]; unfold maxLen; omega)).mono fun e W' hp => ?_
      have := read_bad (er := 3) (p := (textR (List.replicate 64 r)).length) (by rw [bs_append, htb, HS.out]; exact readT_more _ _ (rep_ok ho 64) (by simp) ho) hp
      rw [← hz] at this
      exact this
    have HO : Hid (okR r = true) := ho
    clear ho hr
    go_enter Tryd.func7, Tryd.ntmps7
    go_wp2_with fail
    refine (hwk _ HB0.out).mono ?_
    clear hW0 hg1
    rintro e w1 ⟨rfl, hB1⟩
    have HX1 : Hid (BoxR w1 g1 k f t) := HX0.out.below hB1 HX0.out.lt
    obtain ⟨x0, x1, x2⟩ := HX1.out.cell
    have H1 : Hid (Below w.heap.size w w1) := HB0.out.trans (hB1.mono HB0.out.size)
    clear hB1
    go_wp2_with fail
    refine (HLn.out _ H1.out).mono ?_
    clear x0 x1 x2
    rintro e w2 ⟨rfl, hB2⟩
    have H2 : Hid (Below w.heap.size w w2) := H1.out.trans (hB2.mono H1.out.size)
    have HX2 : Hid (BoxR w2 g1 k f t) := HX1.out.below hB2 HX1.out.lt
    clear hB2
    go_wp2_with fail
    go_loopw [5, 20] (fun v i wr => ∃ (j : Nat) (tb : ByteArray), j ≤ 64 ∧ i = .int .i64 j ∧ v = .string tb ∧ Hid (bs tb = textR (List.replicate j r)) ∧ Hid (Below w2.heap.size w2 wr)) (fun _ i _ => 64 - (intOf i).toNat)
    case atStart => exact ⟨0, ⟨#[]⟩, by omega, rfl, rfl, rfl, Below.refl _ _⟩
    case round =>
      obtain ⟨j, tb, hj, rfl, rfl, HT0, HBr⟩ := hrel
      by_cases hlt : j < 64
      · have i2 : (j : Int) < 64 := by omega
        have hts : tb.size ≤ 104064 := by
          have h1 := textR_len _ (rep_ok HO.out j)
          rw [List.length_replicate] at h1
          rw [← bs_len, HT0.out]; omega
        have HT1 : Hid (bs (tb ++ (sb ++ ⟨#[10]⟩)) = textR (List.replicate (j + 1) r)) := by
          show _ = _
          rw [bs_append, bs_append, HT0.out, HS.out, rep_snoc]; rfl
        go_wp2_with fail
        go_roundw
        case rel => exact ⟨j + 1, _, by omega, by go_num, rfl, HT1, HBr⟩
        case measure => simp [intOf]; omega
      · obtain rfl : j = 64 := by omega
        have HW2 : Hid (Below w.heap.size w wr) := H2.out.trans (HBr.out.mono H2.out.size)
        have HX3 : Hid (BoxR wr g1 k f t) := HX2.out.below HBr.out HX2.out.lt
        have hts : tb.size ≤ 104064 := by
          have h1 := textR_len _ (rep_ok HO.out 64)
          rw [List.length_replicate] at h1
          rw [← bs_len, HT0.out]; omega
        clear HBr
        go_wp2_with fail
        refine (HR.out _ _ HW2.out HT0.out).mono ?_
        rintro e w4 ⟨b4, o4, c4, rfl, t1, t2, t3, hB4⟩
        have HC4 : Hid (w4.cell? ⟨b4, o4, none⟩ = some (.int .i64 k) ∧ w4.cell? ⟨b4, o4 + 1, none⟩ = some (.string f) ∧ w4.cell? ⟨b4, o4 + 2, none⟩ = some (.string t)) := ⟨t1, t2, t3⟩
        have H45 : Hid (Below w4.heap.size w4 (w4.alloc (.cells #[.int .i64 0, .int .i64 0] 35))) := (Below.refl _ _).alloc (Nat.le_refl _) _
        have HX5 : Hid (Box2 (w4.alloc (.cells #[.int .i64 0, .int .i64 0] 35)) w4.heap.size (.int .i64 0) (.int .i64 0)) := Box2.new w4 _ _
        have H4 : Hid (Below wr.heap.size wr w4) := hB4
        have H5 : Hid (Below w.heap.size w (w4.alloc (.cells #[.int .i64 0, .int .i64 0] 35))) := HW2.out.trans ((H4.out.trans (H45.out.mono H4.out.size)).mono HW2.out.size)
        clear hB4 t1 t2 t3
        go_wp2_with fail
        refine (HM.out _ _ H5.out HT0.out).mono ?_
        rintro e w6 ⟨rfl, hB6⟩
        have H6 : Hid (Below w.heap.size w w6) := H5.out.trans (hB6.mono H5.out.size)
        have HE6 : Hid (Below ((w4.alloc (.cells #[.int .i64 0, .int .i64 0] 35))).heap.size (w4.alloc (.cells #[.int .i64 0, .int .i64 0] 35)) w6) := hB6
        have H6x : Hid (Below w6.heap.size w6 (w6.alloc (.cells #[.int .i64 3, .int .i64 (tb.size : Int)] 35))) := (Below.refl _ _).alloc (Nat.le_refl _) _
        have HX9 : Hid (Box2 (w6.alloc (.cells #[.int .i64 3, .int .i64 (tb.size : Int)] 35)) w6.heap.size (.int .i64 3) (.int .i64 (tb.size : Int))) := Box2.new w6 _ _
        clear hB6
        go_wp2_with fail
        generalize hwx : w6.alloc (.cells #[.int .i64 3, .int .i64 (tb.size : Int)] 35) = wx at *
        clear hwx
        have HW : Hid (∀ W, Below wx.heap.size wx W → Calls Tryd.prog 8 #[] W fun e w' => e = .returned (.bool true) ∧ Below wx.heap.size wx w') := fun W hW => (hwk W (H6.out.trans ((H6x.out.trans (hW.mono H6x.out.size)).mono H6.out.size))).mono fun e W' ⟨h1, h2⟩ => ⟨h1, hW.trans (h2.mono hW.size)⟩
        have HT : Hid (∀ W, Below wx.heap.size wx W → (fun W => W.cell? ⟨w4.heap.size, 0, none⟩ = some (.int .i64 0) ∧ W.cell? ⟨w4.heap.size, 1, none⟩ = some (.int .i64 0) ∧ W.cell? ⟨b4, o4, none⟩ = some (.int .i64 k) ∧ W.cell? ⟨b4, o4 + 1, none⟩ = some (.string f) ∧ W.cell? ⟨b4, o4 + 2, none⟩ = some (.string t) ∧ W.cell? ⟨g1, 0, none⟩ = some (.int .i64 k) ∧ W.cell? ⟨g1, 1, none⟩ = some (.string f) ∧ W.cell? ⟨g1, 2, none⟩ = some (.string t) ∧ W.cell? ⟨w6.heap.size, 0, none⟩ = some (.int .i64 3) ∧ W.cell? ⟨w6.heap.size, 1, none⟩ = some (.int .i64 (tb.size : Int))) W) := fun W hW => by
          have h6W : Below w6.heap.size w6 W := H6x.out.trans (hW.mono H6x.out.size)
          have h5W : Below ((w4.alloc (.cells #[.int .i64 0, .int .i64 0] 35))).heap.size (w4.alloc (.cells #[.int .i64 0, .int .i64 0] 35)) W := HE6.out.trans (h6W.mono HE6.out.size)
          have h4W : Below w4.heap.size w4 W := H45.out.trans (h5W.mono H45.out.size)
          have hrW : Below wr.heap.size wr W := H4.out.trans (h4W.mono H4.out.size)
          obtain ⟨y1, y2⟩ := Box2.cell (show Box2 W w4.heap.size (.int .i64 0) (.int .i64 0) from (h5W.block _ (Box2.lt HX5.out)).trans HX5.out)
          obtain ⟨y3, y4, y5⟩ := (HX3.out.below hrW HX3.out.lt).cell
          obtain ⟨y6, y7⟩ := Box2.cell (show Box2 W w6.heap.size (.int .i64 3) (.int .i64 (tb.size : Int)) from (hW.block _ (Box2.lt HX9.out)).trans HX9.out)
          exact ⟨y1, y2, (h4W.cell (p := ⟨b4, o4, none⟩) (World.block_lt_of_cell? w4 _ HC4.out.1)).trans HC4.out.1, (h4W.cell (p := ⟨b4, o4 + 1, none⟩) (World.block_lt_of_cell? w4 _ HC4.out.2.1)).trans HC4.out.2.1, (h4W.cell (p := ⟨b4, o4 + 2, none⟩) (World.block_lt_of_cell? w4 _ HC4.out.2.2)).trans HC4.out.2.2, y3, y4, y5, y6, y7⟩
        have HZ : Hid (Below w.heap.size w wx) := H6.out.trans (H6x.out.mono H6.out.size)
        clear HE6 H6 H6x HX9 HX5 H45 H4 H5 HC4 HX3 hwk
        refine wp_region_G (S := SB 1000 (fun _ => True) (fun W => W.cell? ⟨w4.heap.size, 0, none⟩ = some (.int .i64 0) ∧ W.cell? ⟨w4.heap.size, 1, none⟩ = some (.int .i64 0) ∧ W.cell? ⟨b4, o4, none⟩ = some (.int .i64 k) ∧ W.cell? ⟨b4, o4 + 1, none⟩ = some (.string f) ∧ W.cell? ⟨b4, o4 + 2, none⟩ = some (.string t) ∧ W.cell? ⟨g1, 0, none⟩ = some (.int .i64 k) ∧ W.cell? ⟨g1, 1, none⟩ = some (.string f) ∧ W.cell? ⟨g1, 2, none⟩ = some (.string t) ∧ W.cell? ⟨w6.heap.size, 0, none⟩ = some (.int .i64 3) ∧ W.cell? ⟨w6.heap.size, 1, none⟩ = some (.int .i64 (tb.size : Int)))) hmx ?_
        refine wpAnyG_takeP (i := 0) (v := ?_) rfl (by kernel_rfl) (by kernel_rfl) (by kernel_rfl) (fun _ _ _ h => h) rfl (Or.inl ⟨by rfl, ?_⟩) (SB.off (by kernel_rfl) (HT.out _ (below_drewN (Below.refl _ _) 1))) ?_
        rotate_left
        · intro Y hY; obtain ⟨f1, f2, f3, f4, f5, f6, f7, f8, f9, f10⟩ := hY; go_simp; try with_reducible rfl
        intro hSB0
        simp only [Act.put, List.getElem_toArray, List.getElem_cons_zero, List.setIfInBounds_toArray, List.set_cons_zero, List.set_cons_succ]
        refine wpAnyG_takeP (i := 1) (v := ?_) rfl (by kernel_rfl) (by kernel_rfl) (by kernel_rfl) (fun _ _ _ h => h) rfl (Or.inl ⟨by rfl, ?_⟩) (by assumption) ?_
        rotate_left
        · intro Y hY; go_simp; try with_reducible rfl
        intro hSB1
        simp only [Act.put, List.getElem_toArray, List.getElem_cons_zero, List.getElem_cons_succ, List.setIfInBounds_toArray, List.set_cons_zero, List.set_cons_succ]
        refine wpAnyG_takeP (i := 2) (v := ?_) rfl (by kernel_rfl) (by kernel_rfl) (by kernel_rfl) (fun _ _ _ h => h) rfl (Or.inl ⟨by rfl, ?_⟩) (by assumption) ?_
        rotate_left
        · intro Y hY; go_simp; try with_reducible rfl
        intro hSB2
        simp only [Act.put, List.getElem_toArray, List.getElem_cons_zero, List.getElem_cons_succ, List.setIfInBounds_toArray, List.set_cons_zero, List.set_cons_succ]
        refine wpAnyG_takeP (i := 3) (v := ?_) rfl (by kernel_rfl) (by kernel_rfl) (by kernel_rfl) (fun _ _ _ h => h) rfl (Or.inl ⟨by rfl, ?_⟩) (by assumption) ?_
        rotate_left
        · intro Y hY; go_simp; try with_reducible rfl
        intro hSB3
        simp only [Act.put, List.getElem_toArray, List.getElem_cons_zero, List.getElem_cons_succ, List.setIfInBounds_toArray, List.set_cons_zero, List.set_cons_succ]
        refine wpAnyG_takeP (i := 4) (v := ?_) rfl (by kernel_rfl) (by kernel_rfl) (by kernel_rfl) (fun _ _ _ h => h) rfl (Or.inl ⟨by rfl, ?_⟩) (by assumption) ?_
        rotate_left
        · intro Y hY; go_simp; try with_reducible rfl
        intro hSB4
        simp only [Act.put, List.getElem_toArray, List.getElem_cons_zero, List.getElem_cons_succ, List.setIfInBounds_toArray, List.set_cons_zero, List.set_cons_succ]
        refine wpAnyG_takeP (i := 5) (v := ?_) rfl (by kernel_rfl) (by kernel_rfl) (by kernel_rfl) (fun _ _ _ h => h) rfl (Or.inl ⟨by rfl, ?_⟩) (by assumption) ?_
        rotate_left
        · intro Y hY; go_simp; try with_reducible rfl
        intro hSB5
        simp only [Act.put, List.getElem_toArray, List.getElem_cons_zero, List.getElem_cons_succ, List.setIfInBounds_toArray, List.set_cons_zero, List.set_cons_succ]
        refine wpAnyG_takeP (i := 6) (v := ?_) rfl (by kernel_rfl) (by kernel_rfl) (by kernel_rfl) (fun _ _ _ h => h) rfl (Or.inl ⟨by rfl, ?_⟩) (by assumption) ?_
        rotate_left
        · intro Y hY; go_simp; try with_reducible rfl
        intro hSB6
        simp only [Act.put, List.getElem_toArray, List.getElem_cons_zero, List.getElem_cons_succ, List.setIfInBounds_toArray, List.set_cons_zero, List.set_cons_succ]
        refine wpAnyG_takeP (i := 7) (v := ?_) rfl (by kernel_rfl) (by kernel_rfl) (by kernel_rfl) (fun _ _ _ h => h) rfl (Or.inl ⟨by rfl, ?_⟩) (by assumption) ?_
        rotate_left
        · intro Y hY; go_simp; try with_reducible rfl
        intro hSB7
        simp only [Act.put, List.getElem_toArray, List.getElem_cons_zero, List.getElem_cons_succ, List.setIfInBounds_toArray, List.set_cons_zero, List.set_cons_succ]
        refine wpAnyG_takeP (i := 8) (v := ?_) rfl (by kernel_rfl) (by kernel_rfl) (by kernel_rfl) (fun _ _ _ h => h) rfl (Or.inl ⟨by rfl, ?_⟩) (by assumption) ?_
        rotate_left
        · intro Y hY; go_simp; try with_reducible rfl
        intro hSB8
        simp only [Act.put, List.getElem_toArray, List.getElem_cons_zero, List.getElem_cons_succ, List.setIfInBounds_toArray, List.set_cons_zero, List.set_cons_succ]
        refine wpAnyG_takeP (i := 9) (v := ?_) rfl (by kernel_rfl) (by kernel_rfl) (by kernel_rfl) (fun _ _ _ h => h) rfl (Or.inl ⟨by rfl, ?_⟩) (by assumption) ?_
        rotate_left
        · intro Y hY; go_simp; try with_reducible rfl
        intro hSB9
        simp only [Act.put, List.getElem_toArray, List.getElem_cons_zero, List.getElem_cons_succ, List.setIfInBounds_toArray, List.set_cons_zero, List.set_cons_succ]
        refine wpAnyG_takeP (i := 10) (v := ?_) rfl (by kernel_rfl) (by kernel_rfl) (by kernel_rfl) (fun _ _ _ h => h) rfl (Or.inl ⟨by rfl, ?_⟩) (by assumption) ?_
        rotate_left
        · intro Y hY; obtain ⟨f1, f2, f3, f4, f5, f6, f7, f8, f9, f10⟩ := hY; go_simp; try with_reducible rfl
        intro hSB10
        simp only [Act.put, List.getElem_toArray, List.getElem_cons_zero, List.getElem_cons_succ, List.setIfInBounds_toArray, List.set_cons_zero, List.set_cons_succ]
        refine wpAnyG_takeP (i := 11) (v := ?_) rfl (by kernel_rfl) (by kernel_rfl) (by kernel_rfl) (fun _ _ _ h => h) rfl (Or.inl ⟨by rfl, ?_⟩) (by assumption) ?_
        rotate_left
        · intro Y hY; obtain ⟨f1, f2, f3, f4, f5, f6, f7, f8, f9, f10⟩ := hY; go_simp; try with_reducible rfl
        intro hSB11
        simp only [Act.put, List.getElem_toArray, List.getElem_cons_zero, List.getElem_cons_succ, List.setIfInBounds_toArray, List.set_cons_zero, List.set_cons_succ]
        refine wpAnyG_takeP (i := 12) (v := ?_) rfl (by kernel_rfl) (by kernel_rfl) (by kernel_rfl) (fun _ _ _ h => h) rfl (Or.inl ⟨by rfl, ?_⟩) (by assumption) ?_
        rotate_left
        · intro Y hY; obtain ⟨f1, f2, f3, f4, f5, f6, f7, f8, f9, f10⟩ := hY; go_simp; try with_reducible rfl
        intro hSB12
        simp only [Act.put, List.getElem_toArray, List.getElem_cons_zero, List.getElem_cons_succ, List.setIfInBounds_toArray, List.set_cons_zero, List.set_cons_succ]
        refine wpAnyG_takeP (i := 13) (v := ?_) rfl (by kernel_rfl) (by kernel_rfl) (by kernel_rfl) (fun _ _ _ h => h) rfl (Or.inl ⟨by rfl, ?_⟩) (by assumption) ?_
        rotate_left
        · intro Y hY; go_simp; try with_reducible rfl
        intro hSB13
        simp only [Act.put, List.getElem_toArray, List.getElem_cons_zero, List.getElem_cons_succ, List.setIfInBounds_toArray, List.set_cons_zero, List.set_cons_succ]
        refine wpAnyG_takeP (i := 14) (v := ?_) rfl (by kernel_rfl) (by kernel_rfl) (by kernel_rfl) (fun _ _ _ h => h) rfl (Or.inl ⟨by rfl, ?_⟩) (by assumption) ?_
        rotate_left
        · intro Y hY; go_simp; try with_reducible rfl
        intro hSB14
        simp only [Act.put, List.getElem_toArray, List.getElem_cons_zero, List.getElem_cons_succ, List.setIfInBounds_toArray, List.set_cons_zero, List.set_cons_succ]
        refine wpAnyG_takeP (i := 15) (v := ?_) rfl (by kernel_rfl) (by kernel_rfl) (by kernel_rfl) (fun _ _ _ h => h) rfl (Or.inl ⟨by rfl, ?_⟩) (by assumption) ?_
        rotate_left
        · intro Y hY; go_simp; try with_reducible rfl
        intro hSB15
        simp only [Act.put, List.getElem_toArray, List.getElem_cons_zero, List.getElem_cons_succ, List.setIfInBounds_toArray, List.set_cons_zero, List.set_cons_succ]
        refine wpAnyG_takeP (i := 16) (v := ?_) rfl (by kernel_rfl) (by kernel_rfl) (by kernel_rfl) (fun _ _ _ h => h) rfl (Or.inl ⟨by rfl, ?_⟩) (by assumption) ?_
        rotate_left
        · intro Y hY; go_simp; try with_reducible rfl
        intro hSB16
        simp only [Act.put, List.getElem_toArray, List.getElem_cons_zero, List.getElem_cons_succ, List.setIfInBounds_toArray, List.set_cons_zero, List.set_cons_succ]
        refine wpAnyG_takeP (i := 17) (v := ?_) rfl (by kernel_rfl) (by kernel_rfl) (by kernel_rfl) (fun _ _ _ h => h) rfl (Or.inl ⟨by rfl, ?_⟩) (by assumption) ?_
        rotate_left
        · intro Y hY; go_simp; try with_reducible rfl
        intro hSB17
        simp only [Act.put, List.getElem_toArray, List.getElem_cons_zero, List.getElem_cons_succ, List.setIfInBounds_toArray, List.set_cons_zero, List.set_cons_succ]
        refine wpAnyG_takeP (i := 18) (v := ?_) rfl (by kernel_rfl) (by kernel_rfl) (by kernel_rfl) (fun _ _ _ h => h) rfl (Or.inl ⟨by rfl, ?_⟩) (by assumption) ?_
        rotate_left
        · intro Y hY; go_simp; try with_reducible rfl
        intro hSB18
        simp only [Act.put, List.getElem_toArray, List.getElem_cons_zero, List.getElem_cons_succ, List.setIfInBounds_toArray, List.set_cons_zero, List.set_cons_succ]
        refine wpAnyG_takeP (i := 19) (v := ?_) rfl (by kernel_rfl) (by kernel_rfl) (by kernel_rfl) (fun _ _ _ h => h) rfl (Or.inl ⟨by rfl, ?_⟩) (by assumption) ?_
        rotate_left
        · intro Y hY; go_simp; try with_reducible rfl
        intro hSB19
        simp only [Act.put, List.getElem_toArray, List.getElem_cons_zero, List.getElem_cons_succ, List.setIfInBounds_toArray, List.set_cons_zero, List.set_cons_succ]
        refine wpAnyG_takeP (i := 20) (v := ?_) rfl (by kernel_rfl) (by kernel_rfl) (by kernel_rfl) (fun _ _ _ h => h) rfl (Or.inl ⟨by rfl, ?_⟩) (by assumption) ?_
        rotate_left
        · intro Y hY; go_simp; try with_reducible rfl
        intro hSB20
        simp only [Act.put, List.getElem_toArray, List.getElem_cons_zero, List.getElem_cons_succ, List.setIfInBounds_toArray, List.set_cons_zero, List.set_cons_succ]
        refine wpAnyG_takeP (i := 21) (v := ?_) rfl (by kernel_rfl) (by kernel_rfl) (by kernel_rfl) (fun _ _ _ h => h) rfl (Or.inl ⟨by rfl, ?_⟩) (by assumption) ?_
        rotate_left
        · intro Y hY; obtain ⟨f1, f2, f3, f4, f5, f6, f7, f8, f9, f10⟩ := hY; go_simp; try with_reducible rfl
        intro hSB21
        simp only [Act.put, List.getElem_toArray, List.getElem_cons_zero, List.getElem_cons_succ, List.setIfInBounds_toArray, List.set_cons_zero, List.set_cons_succ]
        refine wpAnyG_takeP (i := 22) (v := ?_) rfl (by kernel_rfl) (by kernel_rfl) (by kernel_rfl) (fun _ _ _ h => h) rfl (Or.inl ⟨by rfl, ?_⟩) (by assumption) ?_
        rotate_left
        · intro Y hY; go_simp; try with_reducible rfl
        intro hSB22
        simp only [Act.put, List.getElem_toArray, List.getElem_cons_zero, List.getElem_cons_succ, List.setIfInBounds_toArray, List.set_cons_zero, List.set_cons_succ]
        refine wpAnyG_takeP (i := 23) (v := ?_) rfl (by kernel_rfl) (by kernel_rfl) (by kernel_rfl) (fun _ _ _ h => h) rfl (Or.inl ⟨by rfl, ?_⟩) (by assumption) ?_
        rotate_left
        · intro Y hY; go_simp; try with_reducible rfl
        intro hSB23
        simp only [Act.put, List.getElem_toArray, List.getElem_cons_zero, List.getElem_cons_succ, List.setIfInBounds_toArray, List.set_cons_zero, List.set_cons_succ]
        refine wpAnyG_takeP (i := 24) (v := ?_) rfl (by kernel_rfl) (by kernel_rfl) (by kernel_rfl) (fun _ _ _ h => h) rfl (Or.inl ⟨by rfl, ?_⟩) (by assumption) ?_
        rotate_left
        · intro Y hY; go_simp; try with_reducible rfl
        intro hSB24
        simp only [Act.put, List.getElem_toArray, List.getElem_cons_zero, List.getElem_cons_succ, List.setIfInBounds_toArray, List.set_cons_zero, List.set_cons_succ]
        refine wpAnyG_takeP (i := 25) (v := ?_) rfl (by kernel_rfl) (by kernel_rfl) (by kernel_rfl) (fun _ _ _ h => h) rfl (Or.inl ⟨by rfl, ?_⟩) (by assumption) ?_
        rotate_left
        · intro Y hY; go_simp; try with_reducible rfl
        intro hSB25
        simp only [Act.put, List.getElem_toArray, List.getElem_cons_zero, List.getElem_cons_succ, List.setIfInBounds_toArray, List.set_cons_zero, List.set_cons_succ]
        refine wpAnyG_takeP (i := 26) (v := ?_) rfl (by kernel_rfl) (by kernel_rfl) (by kernel_rfl) (fun _ _ _ h => h) rfl (Or.inl ⟨by rfl, ?_⟩) (by assumption) ?_
        rotate_left
        · intro Y hY; go_simp; try with_reducible rfl
        intro hSB26
        simp only [Act.put, List.getElem_toArray, List.getElem_cons_zero, List.getElem_cons_succ, List.setIfInBounds_toArray, List.set_cons_zero, List.set_cons_succ]
        refine wpAnyG_takeP (i := 27) (v := ?_) rfl (by kernel_rfl) (by kernel_rfl) (by kernel_rfl) (fun _ _ _ h => h) rfl (Or.inl ⟨by rfl, ?_⟩) (by assumption) ?_
        rotate_left
        · intro Y hY; go_simp; try with_reducible rfl
        intro hSB27
        simp only [Act.put, List.getElem_toArray, List.getElem_cons_zero, List.getElem_cons_succ, List.setIfInBounds_toArray, List.set_cons_zero, List.set_cons_succ]
        refine wpAnyG_one (i := 28) (by kernel_rfl) rfl (fun K hK => ?_)
        rw [if_pos (by rfl)]
        refine step_wakes (by rfl) (HW.out _ (below_drewN (Below.refl _ _) 1)) ?_
        intro w8 hB8
        have H8 : Hid (Below wx.heap.size wx w8) := hB8
        refine hK.out _ _ (SB.off (by kernel_rfl) (HT.out w8 hB8)) (fun hSB28 => ?_)
        clear hK K hB8
        simp only [Act.put, List.getElem_toArray, List.getElem_cons_zero, List.getElem_cons_succ, List.setIfInBounds_toArray, List.set_cons_zero, List.set_cons_succ]
        refine wpAnyG_takeP (i := 29) (v := ?_) rfl (by kernel_rfl) (by kernel_rfl) (by kernel_rfl) (fun _ _ _ h => h) rfl (Or.inl ⟨by rfl, ?_⟩) (by assumption) ?_
        rotate_left
        · intro Y hY; go_simp; try with_reducible rfl
        intro hSB29
        simp only [Act.put, List.getElem_toArray, List.getElem_cons_zero, List.getElem_cons_succ, List.setIfInBounds_toArray, List.set_cons_zero, List.set_cons_succ]
        refine wpAnyG_takeP (i := 30) (v := ?_) rfl (by kernel_rfl) (by kernel_rfl) (by kernel_rfl) (fun _ _ _ h => h) rfl (Or.inl ⟨by rfl, ?_⟩) (by assumption) ?_
        rotate_left
        · intro Y hY; go_simp; try with_reducible rfl
        intro hSB30
        simp only [Act.put, List.getElem_toArray, List.getElem_cons_zero, List.getElem_cons_succ, List.setIfInBounds_toArray, List.set_cons_zero, List.set_cons_succ]
        refine wpAnyG_done (by kernel_rfl) ?_ _
        clear hSB0 hSB1 hSB2 hSB3 hSB4 hSB5 hSB6 hSB7 hSB8 hSB9 hSB10 hSB11 hSB12 hSB13 hSB14 hSB15 hSB16 hSB17 hSB18 hSB19 hSB20 hSB21 hSB22 hSB23 hSB24 hSB25 hSB26 hSB27 hSB28 hSB29 hSB30
        go_wp2_with fail
        go_ret
        exact ⟨rfl, HZ.out.trans (H8.out.mono HZ.out.size)⟩
end Go.Proofs.YtdchmmdndgbllaaDoor
