import Derived.BigQuiet
import Derived.Test.YtdchmmdndgbllaaDoorX29
import Derived.Test.YtdchmmdndgbllaaDoorX30
import Derived.Test.YtdchmmdndgbllaaDoorX34
import Derived.Test.YtdchmmdndgbllaaDoorX32
/- The document's answer for rules: Right, Word, Line. -/
namespace Go.Proofs.YtdchmmdndgbllaaDoor
open Go.RowKit Go.Shelf

attribute [local go_sem] Oper.semAt_some

theorem wordL_root : wordL [47] = [47] := wl_root
/-- the document's word of a path -/
theorem rword13_any (s : ByteArray) (w : World) (hs : s.size ≤ 4000000) :
    Calls Tryd.prog 24 #[.string s] w fun e w' => e = .returned (.string (mk (wordL (wdP (bs s))))) ∧ Below w.heap.size w w' := by
  by_cases h0 : bs s = []
  · obtain rfl : s = ⟨#[]⟩ := bs_inj h0
    rw [show mk (wordL (wdP (bs ⟨#[]⟩))) = ⟨#[47]⟩ by rw [show wdP (bs ⟨#[]⟩) = [47] from rfl, wl_root]; rfl]
    go_enter Tryd.func24, Tryd.ntmps24
    go_wp2
    go_ret
    exact ⟨rfl, Below.refl _ _⟩
  · have hw : wdP (bs s) = bs s := by unfold wdP; rw [if_neg h0]
    rw [hw]
    have b0 : s.toList.isEmpty = false := by rw [str_empty]; simpa using h0
    have c1 := fun W => rplain_any s W (by unfold maxLen; omega)
    have c2 := fun W => rquote_any s W (by omega)
    cases hp : plainL (bs s) with
    | true =>
      rw [hp] at c1
      rw [show mk (wordL (bs s)) = s by unfold wordL; rw [if_pos hp, mk_bs]]
      clear hp h0 hw c2
      go_enter Tryd.func24, Tryd.ntmps24
      go_wp2_with (go_at_call 44; refine (c1 _).mono ?_; rintro e w1 ⟨rfl, hB1⟩)
      go_ret
      exact ⟨rfl, hB1⟩
    | false =>
      rw [hp] at c1
      rw [show wordL (bs s) = quoteL (bs s) by unfold wordL; rw [if_neg (by rw [hp]; decide)]]
      generalize mk (quoteL (bs s)) = Z at *
      clear hp h0 hw
      go_enter Tryd.func24, Tryd.ntmps24
      go_wp2_with first
        | (go_at_call 44; refine (c1 _).mono ?_; rintro e w1 ⟨rfl, hB1⟩; have H1 : Hid (Below w.heap.size w w1) := hB1; clear hB1)
        | (go_at_call 45; refine (c2 _).mono ?_; rintro e w2 ⟨rfl, hB2⟩)
      go_ret
      exact ⟨rfl, H1.out.trans (hB2.mono H1.out.size)⟩

theorem okR_kind {k : Int} {f t : List UInt8} (h : k < 1 ∨ 3 < k) : okR (k, f, t) = false := by
  have h1 : ¬ k = 1 := by omega
  have h2 : ¬ k = 2 := by omega
  have h3 : ¬ k = 3 := by omega
  simp [okR, h1, h2, h3]
theorem okR_from {k : Int} {f t : List UInt8} (h : isP f = false) : okR (k, f, t) = false := by simp [okR, h]
theorem okR_to {k : Int} {f t : List UInt8} (h : isP t = false) : okR (k, f, t) = false := by simp [okR, h]
theorem okR_three {f t : List UInt8} (h1 : isP f = true) (h2 : isP t = true) : okR (3, f, t) = true := by simp [okR, h1, h2]
theorem okR_two {k : Int} {f t : List UInt8} (hk : 1 ≤ k) (hk2 : k ≤ 3) (hk3 : ¬ k = 3) (h1 : isP f = true) (h2 : isP t = true) : okR (k, f, t) = decide (t = []) := by
  have : k = 1 ∨ k = 2 := by omega
  rcases this with rfl | rfl <;> simp [okR, h1, h2]

set_option maxRecDepth 100000 in
set_option maxHeartbeats 4000000 in
/-- the document's Right -/
theorem rright13_any (k : Int) (f t : ByteArray) (w : World) (hf : f.size ≤ 4000000) (ht : t.size ≤ 4000000) :
    Calls Tryd.prog 10 #[rv k f t] w fun e w' => e = .returned (.bool (okR (k, bs f, bs t))) ∧ Below w.heap.size w w' := by
  have c1 := fun W => urefWrong_any f W hf
  have c2 := fun W => urefWrong_any t W ht
  have b1 : BoxR (w.alloc (.cells #[.int .i64 k, .string f, .string t] 26)) w.heap.size k f t := BoxR.new w k f t
  have hB0 : Below w.heap.size w (w.alloc (.cells #[.int .i64 k, .string f, .string t] 26)) := (Below.refl _ w).alloc (Nat.le_refl _) _
  by_cases hk1 : k < 1
  · rw [okR_kind (.inl hk1)]
    clear c1 c2 b1
    go_enter Tryd.func10, Tryd.ntmps10
    go_wp2
    go_ret
    exact ⟨rfl, hB0⟩
  by_cases hk2 : 3 < k
  · rw [okR_kind (.inr hk2)]
    clear c1 c2 b1
    go_enter Tryd.func10, Tryd.ntmps10
    go_wp2
    go_ret
    exact ⟨rfl, hB0⟩
  have HK : Hid (1 ≤ k ∧ k ≤ 3) := ⟨by omega, by omega⟩
  cases h1 : isP (bs f) with
  | false =>
    rw [okR_from h1]
    rw [h1] at c1
    clear c2 b1 h1
    go_enter Tryd.func10, Tryd.ntmps10
    go_wp2_with (go_at_call 22; refine (c1 _).mono ?_; clear c1; rintro e w2 ⟨rfl, hB2⟩; have H2 : Hid (Below w.heap.size w w2) := hB0.trans (hB2.mono hB0.size); clear hB2)
    go_ret
    exact ⟨rfl, H2.out⟩
  | true =>
    rw [h1] at c1
    cases h2 : isP (bs t) with
    | false =>
      rw [okR_to h2]
      rw [h2] at c2
      have HX : Hid (BoxR (w.alloc (.cells #[.int .i64 k, .string f, .string t] 26)) w.heap.size k f t) := b1
      clear h1 h2 b1
      go_enter Tryd.func10, Tryd.ntmps10
      go_wp2_with fail
      refine (c1 _).mono ?_
      clear c1
      rintro e w2 ⟨rfl, hB2⟩
      have H2 : Hid (Below w.heap.size w w2) := hB0.trans (hB2.mono hB0.size)
      obtain ⟨q0, q1, q2⟩ := (HX.out.below hB2 HX.out.lt).cell
      clear hB2
      go_wp2_with (go_at_call 22; refine (c2 _).mono ?_; clear c2; rintro e w3 ⟨rfl, hB3⟩; have H3 : Hid (Below w.heap.size w w3) := H2.out.trans (hB3.mono H2.out.size); clear hB3)
      go_ret
      exact ⟨rfl, H3.out⟩
    | true =>
      rw [h2] at c2
      have HX : Hid (BoxR (w.alloc (.cells #[.int .i64 k, .string f, .string t] 26)) w.heap.size k f t) := b1
      have HE : Hid (okR (k, bs f, bs t) = (if k = 3 then true else decide (bs t = []))) := by
        show _ = _
        by_cases h3 : k = 3
        · rw [if_pos h3, h3]; exact okR_three h1 h2
        · rw [if_neg h3]; exact okR_two HK.out.1 HK.out.2 h3 h1 h2
      clear h1 h2 b1
      go_enter Tryd.func10, Tryd.ntmps10
      go_wp2_with fail
      refine (c1 _).mono ?_
      clear c1
      rintro e w2 ⟨rfl, hB2⟩
      have H2 : Hid (Below w.heap.size w w2) := hB0.trans (hB2.mono hB0.size)
      have HX2 : Hid (BoxR w2 w.heap.size k f t) := HX.out.below hB2 HX.out.lt
      obtain ⟨q0, q1, q2⟩ := HX2.out.cell
      clear hB2
      go_wp2_with fail
      refine (c2 _).mono ?_
      clear c2 q0 q1 q2
      rintro e w3 ⟨rfl, hB3⟩
      have H3 : Hid (Below w.heap.size w w3) := H2.out.trans (hB3.mono H2.out.size)
      obtain ⟨q0, q1, q2⟩ := (HX2.out.below hB3 HX2.out.lt).cell
      clear hB3
      have hse := str_empty t
      by_cases h3 : k = 3
      · subst h3
        go_wp2
        go_ret
        exact ⟨by rw [HE.out]; rfl, H3.out⟩
      · have b3 : (k == 3) = false := by simpa using h3
        go_wp2
        go_ret
        exact ⟨by rw [HE.out, if_neg h3, ← hse]; rfl, H3.out⟩

theorem step_word13 {o : Oper} {a : Act} {K : Act → World → Prop} {Q : Exit → Act → World → Prop} {w : World} {R : World → Prop} (x : Nat) (s : ByteArray) (v : Value) (ho : o.op = .call { callee := .value (.func 24), args := #[.tmp x], argTypes := #[9] }) (hx : a.tmps[x]?.getD undef = .string s)
    (hc : Calls Tryd.prog 24 #[.string s] w fun e w' => e = .returned v ∧ R w')
    (h : ∀ w', R w' → K (a.put o.dst v) w') : Oper.wp Tryd.prog o a w K Q := by
  unfold Oper.wp execOp
  simp [ho, resolve, invoke, go_sem, hx]
  refine hc.mono ?_
  rintro e w' ⟨rfl, hB⟩
  have := h w' hB
  simpa [go_sem] using this
theorem line_three (f t : List UInt8) : lineR (3, f, t) = [109, 111, 118, 101, 32] ++ wordL (wdP f) ++ [32] ++ wordL (wdP t) := by
  show wordL [109, 111, 118, 101] ++ (32 :: wordL (wdP f) ++ (32 :: wordL (wdP t) ++ [])) = _
  rw [wl_move]; simp
theorem line_one (f t : List UInt8) : lineR (1, f, t) = [107, 101, 101, 112, 32] ++ wordL (wdP f) := by
  show wordL [107, 101, 101, 112] ++ (32 :: wordL (wdP f) ++ []) = _
  rw [wl_keep]; simp
theorem line_two (f t : List UInt8) : lineR (2, f, t) = [100, 114, 111, 112, 32] ++ wordL (wdP f) := by
  show wordL [100, 114, 111, 112] ++ (32 :: wordL (wdP f) ++ []) = _
  rw [wl_drop]; simp

set_option maxRecDepth 100000 in
set_option maxHeartbeats 4000000 in
/-- the document's Line of a rule that may be -/
theorem rline13_any (k : Int) (f t : ByteArray) (w : World) (ho : okR (k, bs f, bs t) = true) :
    Calls Tryd.prog 12 #[rv k f t] w fun e w' => e = .returned (.string (mk (lineR (k, bs f, bs t)))) ∧ Below w.heap.size w w' := by
  have hmx : Tryd.prog.follows .mixedOrders = true := by kernel_rfl
  have hok := ho
  unfold okR at hok
  simp only [Bool.and_eq_true, Bool.or_eq_true, decide_eq_true_eq] at hok
  obtain ⟨⟨hpf, hpt⟩, hk⟩ := hok
  have hfs : f.size ≤ 200 := by have := ((isP_iff _).1 hpf).1; rw [bs_len] at this; exact this
  have hts : t.size ≤ 200 := by have := ((isP_iff _).1 hpt).1; rw [bs_len] at this; exact this
  have hwf : (mk (wordL (wdP (bs f)))).size ≤ 100000 := by
    rw [← bs_len, bs_mk]
    have h1 := lineR_len ho
    have h2 : (wordL (wdP (bs f))).length ≤ (lineR (k, bs f, bs t)).length := by
      rcases hk with h3 | ⟨h3 | h3, _⟩
      · rw [h3, line_three]; simp; omega
      · rw [h3, line_one]; simp; omega
      · rw [h3, line_two]; simp; omega
    omega
  have c1 : Hid (∀ W, Calls Tryd.prog 24 #[.string f] W fun e w' => e = .returned (.string (mk (wordL (wdP (bs f))))) ∧ Below W.heap.size W w') := fun W => rword13_any f W (by omega)
  have b1 : BoxR (w.alloc (.cells #[.int .i64 k, .string f, .string t] 26)) w.heap.size k f t := BoxR.new w k f t
  have hB0 : Below w.heap.size w (w.alloc (.cells #[.int .i64 k, .string f, .string t] 26)) := (Below.refl _ w).alloc (Nat.le_refl _) _
  rcases hk with h3 | ⟨h3 | h3, _⟩
  rotate_left
  · subst h3
    have HL : Hid (mk (lineR (1, bs f, bs t)) = (⟨#[107, 101, 101, 112, 32]⟩ : ByteArray) ++ mk (wordL (wdP (bs f)))) := bs_inj (by rw [bs_mk, bs_append, bs_mk, line_one]; rfl)
    clear b1 ho hpf hpt hfs hts
    generalize mk (wordL (wdP (bs f))) = Z at *
    go_enter Tryd.func12, Tryd.ntmps12
    go_wp2_with (go_at_call 24; refine (c1.out _).mono ?_; clear c1; rintro e w2 ⟨rfl, hB2⟩; have H2 : Hid (Below w.heap.size w w2) := hB0.trans (hB2.mono hB0.size); clear hB2)
    go_ret
    exact ⟨by rw [HL.out]; rfl, H2.out⟩
  · subst h3
    have HL : Hid (mk (lineR (2, bs f, bs t)) = (⟨#[100, 114, 111, 112, 32]⟩ : ByteArray) ++ mk (wordL (wdP (bs f)))) := bs_inj (by rw [bs_mk, bs_append, bs_mk, line_two]; rfl)
    clear b1 ho hpf hpt hfs hts
    generalize mk (wordL (wdP (bs f))) = Z at *
    go_enter Tryd.func12, Tryd.ntmps12
    go_wp2_with (go_at_call 24; refine (c1.out _).mono ?_; clear c1; rintro e w2 ⟨rfl, hB2⟩; have H2 : Hid (Below w.heap.size w w2) := hB0.trans (hB2.mono hB0.size); clear hB2)
    go_ret
    exact ⟨by rw [HL.out]; rfl, H2.out⟩
  · subst h3
    have hwt : (mk (wordL (wdP (bs t)))).size ≤ 100000 := by
      rw [← bs_len, bs_mk]
      have h1 := lineR_len ho
      rw [line_three] at h1
      simp at h1; omega
    have HL : Hid (mk (lineR (3, bs f, bs t)) = (⟨#[109, 111, 118, 101, 32]⟩ : ByteArray) ++ mk (wordL (wdP (bs f))) ++ (⟨#[32]⟩ : ByteArray) ++ mk (wordL (wdP (bs t)))) := bs_inj (by rw [bs_mk, bs_append, bs_append, bs_append, bs_mk, bs_mk, line_three]; rfl)
    have c2 : Hid (∀ W, Calls Tryd.prog 24 #[.string t] W fun e w' => e = .returned (.string (mk (wordL (wdP (bs t))))) ∧ Below W.heap.size W w') := fun W => rword13_any t W (by omega)
    have HX : Hid (BoxR (w.alloc (.cells #[.int .i64 3, .string f, .string t] 26)) w.heap.size 3 f t) := b1
    have HB0 : Hid (Below w.heap.size w (w.alloc (.cells #[.int .i64 3, .string f, .string t] 26))) := hB0
    clear b1 ho hpf hpt hfs hts hB0
    generalize mk (wordL (wdP (bs f))) = Z1 at *
    generalize mk (wordL (wdP (bs t))) = Z2 at *
    go_enter Tryd.func12, Tryd.ntmps12
    go_wp2_with fail
    generalize w.alloc (.cells #[.int .i64 3, .string f, .string t] 26) = wx at *
    have HT : Hid (∀ W, Below wx.heap.size wx W → W.cell? ⟨w.heap.size, 1, none⟩ = some (.string f) ∧ W.cell? ⟨w.heap.size, 2, none⟩ = some (.string t)) := fun W hW => by
      obtain ⟨_, y1, y2⟩ := (HX.out.below hW HX.out.lt).cell
      exact ⟨y1, y2⟩
    clear HX
    refine wp_region_G (S := SB 1000 (fun _ => True) (fun W => W.cell? ⟨w.heap.size, 1, none⟩ = some (.string f) ∧ W.cell? ⟨w.heap.size, 2, none⟩ = some (.string t))) hmx ?_
    refine wpAnyG_takeP (i := 0) (v := ?_) rfl (by kernel_rfl) (by kernel_rfl) (by kernel_rfl) (fun _ _ _ h => h) rfl (Or.inl ⟨by rfl, ?_⟩) (SB.off (by kernel_rfl) (HT.out _ (below_drewN (Below.refl _ _) 1))) ?_
    rotate_left
    · intro Y hY; go_simp; try with_reducible rfl
    intro hSB0
    simp only [Act.put, List.getElem_toArray, List.getElem_cons_zero, List.setIfInBounds_toArray, List.set_cons_zero, List.set_cons_succ]
    refine wpAnyG_takeP (i := 1) (v := ?_) rfl (by kernel_rfl) (by kernel_rfl) (by kernel_rfl) (fun _ _ _ h => h) rfl (Or.inl ⟨by rfl, ?_⟩) (by assumption) ?_
    rotate_left
    · intro Y hY; obtain ⟨f1, f2⟩ := hY; go_simp; try with_reducible rfl
    intro hSB1
    simp only [Act.put, List.getElem_toArray, List.getElem_cons_zero, List.getElem_cons_succ, List.setIfInBounds_toArray, List.set_cons_zero, List.set_cons_succ]
    refine wpAnyG_takeP (i := 5) (v := ?_) rfl (by kernel_rfl) (by kernel_rfl) (by kernel_rfl) (fun _ _ _ h => h) rfl (Or.inl ⟨by rfl, ?_⟩) (by assumption) ?_
    rotate_left
    · intro Y hY; go_simp; try with_reducible rfl
    intro hSB5
    simp only [Act.put, List.getElem_toArray, List.getElem_cons_zero, List.getElem_cons_succ, List.setIfInBounds_toArray, List.set_cons_zero, List.set_cons_succ]
    refine wpAnyG_takeP (i := 6) (v := ?_) rfl (by kernel_rfl) (by kernel_rfl) (by kernel_rfl) (fun _ _ _ h => h) rfl (Or.inl ⟨by rfl, ?_⟩) (by assumption) ?_
    rotate_left
    · intro Y hY; obtain ⟨f1, f2⟩ := hY; go_simp; try with_reducible rfl
    intro hSB6
    simp only [Act.put, List.getElem_toArray, List.getElem_cons_zero, List.getElem_cons_succ, List.setIfInBounds_toArray, List.set_cons_zero, List.set_cons_succ]
    refine wpAnyG_one (i := 2) (by kernel_rfl) rfl (fun K hK => ?_)
    rw [if_pos (by rfl)]
    refine step_word13 (R := fun W => Below wx.heap.size wx W) _ f _ (by rfl) (by rfl) ((c1.out _).mono fun e W' hp => ⟨hp.1, (below_drewN (Below.refl _ _) 1).trans (hp.2.mono (Nat.le_refl _))⟩) ?_
    intro w7 hBw7
    have H7 : Hid (Below wx.heap.size wx w7) := hBw7
    refine hK.out _ _ (SB.off (by kernel_rfl) (HT.out w7 hBw7)) (fun hSB2 => ?_)
    clear hK K hBw7
    simp only [Act.put, List.getElem_toArray, List.getElem_cons_zero, List.getElem_cons_succ, List.setIfInBounds_toArray, List.set_cons_zero, List.set_cons_succ]
    refine wpAnyG_takeP (i := 3) (v := ?_) rfl (by kernel_rfl) (by kernel_rfl) (by kernel_rfl) (fun _ _ _ h => h) rfl (Or.inl ⟨by rfl, ?_⟩) (by assumption) ?_
    rotate_left
    · intro Y hY; go_simp; rw [if_neg (by simp; omega)]
    intro hSB3
    simp only [Act.put, List.getElem_toArray, List.getElem_cons_zero, List.getElem_cons_succ, List.setIfInBounds_toArray, List.set_cons_zero, List.set_cons_succ]
    refine wpAnyG_takeP (i := 4) (v := ?_) rfl (by kernel_rfl) (by kernel_rfl) (by kernel_rfl) (fun _ _ _ h => h) rfl (Or.inl ⟨by rfl, ?_⟩) (by assumption) ?_
    rotate_left
    · intro Y hY; go_simp; rw [if_neg (by simp; omega)]
    intro hSB4
    simp only [Act.put, List.getElem_toArray, List.getElem_cons_zero, List.getElem_cons_succ, List.setIfInBounds_toArray, List.set_cons_zero, List.set_cons_succ]
    refine wpAnyG_one (i := 7) (by kernel_rfl) rfl (fun K hK => ?_)
    rw [if_pos (by rfl)]
    refine step_word13 (R := fun W => Below wx.heap.size wx W) _ t _ (by rfl) (by rfl) ((c2.out _).mono fun e W' hp => ⟨hp.1, H7.out.trans (hp.2.mono H7.out.size)⟩) ?_
    intro w8 hBw8
    have H8 : Hid (Below wx.heap.size wx w8) := hBw8
    refine hK.out _ _ (SB.off (by kernel_rfl) (HT.out w8 hBw8)) (fun hSB7 => ?_)
    clear hK K hBw8
    simp only [Act.put, List.getElem_toArray, List.getElem_cons_zero, List.getElem_cons_succ, List.setIfInBounds_toArray, List.set_cons_zero, List.set_cons_succ]
    refine wpAnyG_takeP (i := 8) (v := ?_) rfl (by kernel_rfl) (by kernel_rfl) (by kernel_rfl) (fun _ _ _ h => h) rfl (Or.inl ⟨by rfl, ?_⟩) (by assumption) ?_
    rotate_left
    · intro Y hY; go_simp; rw [if_neg (by simp; omega)]
    intro hSB8
    simp only [Act.put, List.getElem_toArray, List.getElem_cons_zero, List.getElem_cons_succ, List.setIfInBounds_toArray, List.set_cons_zero, List.set_cons_succ]
    refine wpAnyG_takeP (i := 9) (v := ?_) rfl (by kernel_rfl) (by kernel_rfl) (by kernel_rfl) (fun _ _ _ h => h) rfl (Or.inl ⟨by rfl, ?_⟩) (by assumption) ?_
    rotate_left
    · intro Y hY; go_simp; try with_reducible rfl
    intro hSB9
    simp only [Act.put, List.getElem_toArray, List.getElem_cons_zero, List.getElem_cons_succ, List.setIfInBounds_toArray, List.set_cons_zero, List.set_cons_succ]
    refine wpAnyG_done (by kernel_rfl) ?_ _
    clear hSB0 hSB1 hSB2 hSB3 hSB4 hSB5 hSB6 hSB7 hSB8 hSB9
    go_wp2_with fail
    go_ret
    exact ⟨by rw [HL.out]; rfl, HB0.out.trans (H8.out.mono HB0.out.size)⟩
end Go.Proofs.YtdchmmdndgbllaaDoor
