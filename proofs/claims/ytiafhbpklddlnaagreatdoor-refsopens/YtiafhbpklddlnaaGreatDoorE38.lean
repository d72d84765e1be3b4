import Derived.Test.YtiafhbpklddlnaaGreatDoorE35
import Derived.Maps.AppendAt
import Derived.Laws.Cover1
import Derived.Sort.Walk0
/- The document's refs: With. -/
namespace Go.Proofs.YtiafhbpklddlnaaGreatDoor
open Go.RowKit Go.Shelf Go.Maps

attribute [local go_sem] Oper.semAt_some

theorem two_new_b (w : World) (x y : Ch) : ∀ j u, (chCells [y])[j]? = some u → ((w.alloc (.cells #[.string x.1, .int .u64 x.2] 38)).alloc (.cells #[.string y.1, .int .u64 y.2] 38)).cell? ((⟨w.heap.size + 1, 0, none⟩ : Addr).add j) = some u := by
  have := cells_two_new (w.alloc (.cells #[.string x.1, .int .u64 x.2] 38)) y
  rw [World.size_alloc] at this
  exact this
theorem cell_al (w : World) (o : Obj) {p : Addr} {v : Value} (h : w.cell? p = some v) : (w.alloc o).cell? p = some v := (((Below.refl _ w).alloc (Nat.le_refl _) o).cell (World.block_lt_of_cell? w _ h)).trans h
theorem two_new_c (w : World) (x : Ch) : ∀ j u, (chCells [x])[j]? = some u → ((w.alloc (.cells #[.string x.1, .int .u64 x.2] 38)).alloc (.cells #[.string x.1, .int .u64 x.2] 38)).cell? ((⟨w.heap.size + 1, 0, none⟩ : Addr).add j) = some u := by
  have := cells_two_new (w.alloc (.cells #[.string x.1, .int .u64 x.2] 38)) x
  rw [World.size_alloc] at this
  exact this
set_option maxRecDepth 100000 in
set_option maxHeartbeats 4000000 in
theorem dwith_any (w : World) (a : Option Addr) (n cp0 : Nat) (L : List Ch) (hl : Chs w a n L) (hn : n ≤ 1000000) (s : ByteArray) (i : Int) :
    Calls Tryz.prog 31 #[.agg #[.slice a n cp0], .agg #[.string s, .int .u64 i]] w fun e w' => ∃ ad cp, e = .returned (.agg #[.slice ad (withR L (s, i)).length cp]) ∧ w'.ownsRow w.heap.size 38 2 (.slice ad (withR L (s, i)).length cp) (withR L (s, i)).length (chCells (withR L (s, i))) ∧ Below w.heap.size w w' := by
  have hll := hl.1
  obtain ⟨i0, hi, hz0, hz1, hz2⟩ := info_parts infoRef
  obtain ⟨R, hR⟩ : ∃ R, R = withR L (s, i) := ⟨_, rfl⟩
  rw [← hR]
  go_enter Tryz.func31, Tryz.ntmps31
  go_wp2
  obtain ⟨w0, hw0⟩ : ∃ w0, w0 = ((w.alloc (.cells #[.slice a n cp0] 32)).alloc (.cells #[.string s, .int .u64 i] 38)).alloc (.cells #[.slice none 0 0] 32) := ⟨_, rfl⟩
  have hs0 : w0.heap.size = w.heap.size + 3 := by rw [hw0]; simp
  have hB0 : Below w.heap.size w w0 := by rw [hw0]; exact (((Below.refl _ w).alloc (Nat.le_refl _) _).alloc (by simp) _).alloc (by simp only [World.size_alloc]; omega) _
  have bR : Boxed w0 (w.heap.size + 2) 32 (.slice none 0 0) := by
    have := Boxed.new ((w.alloc (.cells #[.slice a n cp0] 32)).alloc (.cells #[.string s, .int .u64 i] 38)) 32 (.slice none 0 0)
    rw [World.size_alloc, World.size_alloc] at this
    rw [hw0]; exact this
  have c0 : w0.cell? ⟨w.heap.size + 1, 0, none⟩ = some (.string s) ∧ w0.cell? ⟨w.heap.size + 1, 1, none⟩ = some (.int .u64 i) := by
    have e := cells_two_new (w.alloc (.cells #[.slice a n cp0] 32)) (s, i)
    rw [World.size_alloc] at e
    have hb : Below ((w.alloc (.cells #[.slice a n cp0] 32)).alloc (.cells #[.string s, .int .u64 i] 38)).heap.size ((w.alloc (.cells #[.slice a n cp0] 32)).alloc (.cells #[.string s, .int .u64 i] 38)) w0 := by rw [hw0]; exact (Below.refl _ _).alloc (Nat.le_refl _) _
    exact ⟨(hb.cell (p := ⟨w.heap.size + 1, 0, none⟩) (by simp)).trans (e 0 _ rfl), (hb.cell (p := ⟨w.heap.size + 1, 1, none⟩) (by simp)).trans (e 1 _ rfl)⟩
  rw [← hw0]
  clear hw0
  have hlw := hl.kept hB0
  have HW0 : Hid (Boxed w0 (w.heap.size + 2) 32 (.slice none 0 0) ∧ (w0.cell? ⟨w.heap.size + 1, 0, none⟩ = some (.string s) ∧ w0.cell? ⟨w.heap.size + 1, 1, none⟩ = some (.int .u64 i)) ∧ Below w.heap.size w w0) := ⟨bR, c0, hB0⟩
  clear bR c0 hB0 hl
  go_loopw [5, 6, 15] (fun v ld q wr => ∃ (k : Nat) (ad : Option Addr) (p cp : Nat) (laid : Bool) (O : List Ch), k ≤ n ∧ q = .int .i64 (k : Int) ∧ v = .slice ad p cp ∧ ld = .bool laid ∧ p ≤ 2 * k ∧ Hid (p = O.length ∧ R = O ++ withFrom (s, i) laid (L.drop k) ∧ wr.ownsRow w0.heap.size 38 2 (.slice ad p cp) p (chCells O) ∧ Below w0.heap.size w0 wr)) (fun _ _ q _ => n - (intOf q).toNat)
  case atStart => exact ⟨0, none, 0, 0, (i == 0), [], Nat.zero_le _, rfl, rfl, rfl, Nat.zero_le _, rfl, hR, World.ownsRow_nil _ _ _ _, Below.refl _ _⟩
  case round =>
    clear hR
    obtain ⟨k, ad, p, cp, laid, O, hk, rfl, rfl, rfl, hpk, H⟩ := hrel
    by_cases hlt : k < n
    · obtain ⟨x, hx⟩ : ∃ x, L[k]? = some x := ⟨_, List.getElem?_eq_getElem (by omega)⟩
      obtain ⟨b1, o1, rfl, hc1⟩ := hlw.2 (by omega)
      obtain ⟨t1, t2⟩ := hc1 k x hx
      obtain ⟨hpO, hRO, hrow, hB⟩ := H.out
      have q1 := (hB.cell (p := ⟨b1, o1 + k * 2, none⟩) (World.block_lt_of_cell? w0 _ t1)).trans t1
      have q2 := (hB.cell (p := ⟨b1, o1 + k * 2 + 1, none⟩) (World.block_lt_of_cell? w0 _ t2)).trans t2
      have q3 := (hB.cell (p := ⟨w.heap.size + 1, 0, none⟩) (by simp only; omega)).trans HW0.out.2.1.1
      have q4 := (hB.cell (p := ⟨w.heap.size + 1, 1, none⟩) (by simp only; omega)).trans HW0.out.2.1.2
      have i2 : (k : Int) < (n : Int) := by omega
      have i3 : ¬ n ≤ k := by omega
      have hdr : L.drop k = x :: L.drop (k + 1) := by
        have hk' := (List.getElem?_eq_some_iff.1 hx).1
        rw [List.drop_eq_getElem_cons hk', (List.getElem?_eq_some_iff.1 hx).2]
      rw [hdr] at hRO
      unfold withFrom at hRO
      clear hc1 hx t1 t2 hdr
      obtain ⟨nm, iv⟩ := x
      simp only at q1 q2 hRO
      have hwr : w.heap.size + 1 < wr.heap.size := by have := hB.size; omega
      have hws : w0.heap.size ≤ wr.heap.size := hB.size
      obtain ⟨wa, hwa⟩ : ∃ wa, wa = wr.alloc (.cells #[.string nm, .int .u64 iv] 38) := ⟨_, rfl⟩
      have has : wa.heap.size = wr.heap.size + 1 := by rw [hwa]; simp
      have rowa : wa.ownsRow w0.heap.size 38 2 (.slice ad p cp) p (chCells O) := by rw [hwa]; exact hrow.alloc _
      have hBa : Below w0.heap.size w0 wa := by rw [hwa]; exact hB.alloc hB.size _
      have HPL : Hid (p = O.length ∧ Below w0.heap.size w0 wa ∧ wa.ownsRow w0.heap.size 38 2 (.slice ad p cp) p (chCells O)) := ⟨hpO, hBa, rowa⟩
      have d0 : wa.cell? ⟨wr.heap.size, 0, none⟩ = some (.string nm) := by rw [hwa]; exact cells_two_new wr (nm, iv) 0 _ rfl
      have d1 : wa.cell? ⟨wr.heap.size, 1, none⟩ = some (.int .u64 iv) := by rw [hwa]; exact cells_two_new wr (nm, iv) 1 _ rfl
      have d3 : wa.cell? ⟨w.heap.size + 1, 0, none⟩ = some (.string s) := (hBa.cell (p := ⟨w.heap.size + 1, 0, none⟩) (by simp only; omega)).trans HW0.out.2.1.1
      have d4 : wa.cell? ⟨w.heap.size + 1, 1, none⟩ = some (.int .u64 i) := (hBa.cell (p := ⟨w.heap.size + 1, 1, none⟩) (by simp only; omega)).trans HW0.out.2.1.2
      have hbl : Op.bytesLess nm.toList s.toList = decide (bs nm < bs s) := by rw [bytesLess_eq, ByteArray.toList_eq, ByteArray.toList_eq]; rfl
      have HRO : Hid (R = _) := hRO
      have HAP : Hid (∀ (v' : Value) (w5 : World), w5.ownsRow w0.heap.size 38 2 v' (p + 1) (chCells O ++ chCells [(nm, iv)]) → (wa.alloc (.cells #[.string nm, .int .u64 iv] 38)).grownBy w5 (Value.slice ad p cp).ownBlock → w5.ownsRow w0.heap.size 38 2 v' (p + 1) (chCells (O ++ [(nm, iv)])) ∧ Below w0.heap.size w0 w5) := fun v' w5 h1 h2 => ⟨by rw [chCells_append]; exact h1, (hBa.alloc hBa.size _).trans (below_grC (rowa.alloc _) (by simp; omega) h2)⟩
      have HDN : Hid (∀ laid', R = O ++ withFrom (s, i) laid' (L.drop (k + 1)) → ∃ (k' : Nat) (ad' : Option Addr) (p' cp' : Nat) (laid : Bool) (O' : List Ch), k' ≤ n ∧ Value.int .i64 ((k : Int) + 1) = .int .i64 (k' : Int) ∧ Value.slice ad p cp = .slice ad' p' cp' ∧ Value.bool laid' = .bool laid ∧ p' ≤ 2 * k' ∧ Hid (p' = O'.length ∧ R = O' ++ withFrom (s, i) laid (L.drop k') ∧ wa.ownsRow w0.heap.size 38 2 (.slice ad' p' cp') p' (chCells O') ∧ Below w0.heap.size w0 wa)) := fun laid' h => ⟨k + 1, ad, p, cp, laid', O, by omega, by simp, rfl, rfl, by omega, hpO, h, rowa, hBa⟩
      have HEX : Hid (∀ laid' ad5 cp5 w5, R = (O ++ [(nm, iv)]) ++ withFrom (s, i) laid' (L.drop (k + 1)) → w5.ownsRow w0.heap.size 38 2 (.slice ad5 (p + 1) cp5) (p + 1) (chCells (O ++ [(nm, iv)])) ∧ Below w0.heap.size w0 w5 → ∃ (k' : Nat) (ad' : Option Addr) (p' cp' : Nat) (laid : Bool) (O' : List Ch), k' ≤ n ∧ Value.int .i64 ((k : Int) + 1) = .int .i64 (k' : Int) ∧ Value.slice ad5 (p + 1) cp5 = .slice ad' p' cp' ∧ Value.bool laid' = .bool laid ∧ p' ≤ 2 * k' ∧ Hid (p' = O'.length ∧ R = O' ++ withFrom (s, i) laid (L.drop k') ∧ w5.ownsRow w0.heap.size 38 2 (.slice ad' p' cp') p' (chCells O') ∧ Below w0.heap.size w0 w5)) := fun laid' ad5 cp5 w5 h h5 => ⟨k + 1, ad5, p + 1, cp5, laid', O ++ [(nm, iv)], by omega, by simp, rfl, rfl, by omega, by rw [List.length_append, ← hpO]; rfl, h, h5.1, h5.2⟩
      have HOB : Hid (∀ g, (Value.slice ad p cp).ownBlock = some g → w0.heap.size ≤ g ∧ g < wr.heap.size) := fun g hg => row_blockC hrow g hg
      have HEX2 : Hid (∀ v' w6 w5 ad5 cp5, w5.ownsRow w0.heap.size 38 2 (.slice ad5 (p + 1) cp5) (p + 1) (chCells (O ++ [(s, i)])) → Below w0.heap.size w0 w5 → w6.ownsRow w0.heap.size 38 2 v' (p + 1 + 1) (chCells (O ++ [(s, i)]) ++ chCells [(nm, iv)]) → (w5.alloc (.cells #[.string nm, .int .u64 iv] 38)).grownBy w6 (Value.slice ad5 (p + 1) cp5).ownBlock → R = (O ++ [(s, i)] ++ [(nm, iv)]) ++ withFrom (s, i) true (L.drop (k + 1)) → ∃ (k' : Nat) (ad' : Option Addr) (p' cp' : Nat) (laid : Bool) (O' : List Ch), k' ≤ n ∧ Value.int .i64 ((k : Int) + 1) = .int .i64 (k' : Int) ∧ v' = .slice ad' p' cp' ∧ Value.bool true = .bool laid ∧ p' ≤ 2 * k' ∧ Hid (p' = O'.length ∧ R = O' ++ withFrom (s, i) laid (L.drop k') ∧ w6.ownsRow w0.heap.size 38 2 (.slice ad' p' cp') p' (chCells O') ∧ Below w0.heap.size w0 w6)) := fun v' w6 w5 ad5 cp5 h1 hb h2 h3 hr => by
        obtain ⟨ad6, cp6, rfl, _⟩ := row_shapeC h2
        have hs5 := hb.size
        exact ⟨k + 1, ad6, p + 1 + 1, cp6, true, O ++ [(s, i)] ++ [(nm, iv)], by omega, by simp, rfl, rfl, by omega, by rw [List.length_append, List.length_append, ← hpO]; rfl, hr, by rw [chCells_append]; exact h2, (hb.alloc hb.size _).trans (below_grC (h1.alloc _) (by simp; omega) h3)⟩
      have hmeas : n - (intOf (Value.int .i64 ((k : Int) + 1))).toNat < n - (intOf (Value.int .i64 (k : Int))).toNat := by simp [intOf]; omega
      have HM : Hid (n - (intOf (Value.int .i64 ((k : Int) + 1))).toNat < n - (intOf (Value.int .i64 (k : Int))).toNat) := hmeas
      subst hwa
      clear H hpO hrow hB hRO hBa hmeas
      by_cases he : bs nm = bs s
      · obtain rfl : nm = s := by rw [← arr_bs nm, he, arr_bs]
        have hirr : ¬ bs nm < bs nm := List.lt_irrefl _
        rw [if_neg (fun h => hirr h.2), if_pos rfl, List.nil_append, List.nil_append, decide_eq_false hirr, Bool.or_false] at HRO
        rw [decide_eq_false hirr] at hbl
        have hfin := HDN.out laid HRO.out
        have HF : Hid _ := hfin
        clear he hirr hfin
        cases laid with
        | true =>
          go_wp2
          exact ⟨HF.out, HM.out⟩
        | false =>
          go_wp2
          exact ⟨HF.out, HM.out⟩
      · have hne : (nm.toList == s.toList) = false := beq_eq_false_iff_ne.2 (fun e => he (by rw [ByteArray.toList_eq, ByteArray.toList_eq] at e; exact e))
        rw [if_neg he] at HRO
        cases laid with
        | true =>
          rw [if_neg (fun h => by cases h.1), Bool.true_or, List.nil_append] at HRO
          go_wp2_with (at_builtin; (refine wpList_append_own_at _ rfl _ _ 30 rfl w0.heap.size 38 i0 _ 2 24 Tryz.underlying30 hi hz0 hz1 hz2 rfl (by decide) _ _ _ rfl (rowa.alloc _) ⟨wr.heap.size + 1, 0, none⟩ 1 1 (chCells [(nm, iv)]) rfl rfl (two_new_c wr (nm, iv)) (chCells_one _) (by unfold maxLen; omega) (by omega) (by simp; omega) ?_; intro v' w5 hown5 hgr5 _ _; have H5 := HAP.out v' w5 hown5 hgr5; obtain ⟨ad5, cp5, hv5, _⟩ := row_shapeC hown5; subst hv5; have HF : Hid _ := HEX.out true ad5 cp5 w5 (by rw [HRO.out, List.append_assoc]) H5; clear hown5 hgr5 H5))
          exact ⟨HF.out, HM.out⟩
        | false =>
          by_cases hlt2 : bs s < bs nm
          · have hlt3 : ¬ bs nm < bs s := fun h => List.lt_irrefl _ (List.lt_trans h hlt2)
            rw [if_pos ⟨rfl, hlt2⟩, decide_eq_true hlt2, Bool.or_true] at HRO
            rw [decide_eq_false hlt3] at hbl
            clear hlt2 hlt3 he
            go_wp2_with first
              | (at_builtin; (refine wpList_append_own_at _ rfl _ _ 30 rfl w0.heap.size 38 i0 _ 2 24 Tryz.underlying30 hi hz0 hz1 hz2 rfl (by decide) _ _ _ rfl (rowa.alloc _) ⟨wr.heap.size + 1, 0, none⟩ 1 1 (chCells [(s, i)]) rfl rfl (two_new_b wr (nm, iv) (s, i)) (chCells_one _) (by unfold maxLen; omega) (by omega) (by simp; omega) ?_; intro v' w5 hown5 hgr5 _ _; obtain ⟨ad5, cp5, hv5, _⟩ := row_shapeC hown5; subst hv5; have hb5 : Below w0.heap.size w0 w5 := (HPL.out.2.1.alloc HPL.out.2.1.size _).trans (below_grC (HPL.out.2.2.alloc _) (by simp; omega) hgr5); have hs5 : wr.heap.size + 2 ≤ w5.heap.size := (by have := hgr5.size; simpa using this); have hn1 : some wr.heap.size ≠ (Value.slice ad p cp).ownBlock := (fun e => by have := (HOB.out _ e.symm).2; omega); have hn2 : some (w.heap.size + 1) ≠ (Value.slice ad p cp).ownBlock := (fun e => by have := (HOB.out _ e.symm).1; omega); have e0 := hgr5.cell ((cell_al _ (.cells #[.string s, .int .u64 i] 38) d0)) hn1; have e1 := hgr5.cell ((cell_al _ (.cells #[.string s, .int .u64 i] 38) d1)) hn1; have e3 := hgr5.cell ((cell_al _ (.cells #[.string s, .int .u64 i] 38) d3)) hn2; have e4 := hgr5.cell ((cell_al _ (.cells #[.string s, .int .u64 i] 38) d4)) hn2; have hrow5 : w5.ownsRow w0.heap.size 38 2 (.slice ad5 (p + 1) cp5) (p + 1) (chCells (O ++ [(s, i)])) := (by rw [chCells_append]; exact hown5); have HB5 : Hid (Below w0.heap.size w0 w5) := hb5; clear hown5 hgr5 hb5 d0 d1 d3 d4 hn1 hn2 rowa))
              | (at_builtin; (refine wpList_append_own_at _ rfl _ _ 30 rfl w0.heap.size 38 i0 _ 2 24 Tryz.underlying30 hi hz0 hz1 hz2 rfl (by decide) _ _ _ rfl (hrow5.alloc _) ⟨w5.heap.size, 0, none⟩ 1 1 (chCells [(nm, iv)]) rfl rfl (cells_two_new w5 (nm, iv)) (chCells_one _) (by unfold maxLen; omega) (by omega) (by simp; omega) ?_; intro v' w6 hown6 hgr6 _ _; have HF : Hid _ := HEX2.out v' w6 w5 ad5 cp5 hrow5 HB5.out hown6 hgr6 (by rw [HRO.out]; simp); obtain ⟨ad6, cp6, hv6, _⟩ := row_shapeC hown6; subst hv6; clear hown6 hgr6))
            exact ⟨HF.out, HM.out⟩
          · have hlt3 : bs nm < bs s := lt_of_le_ne (List.not_lt.1 hlt2) he
            rw [if_neg (fun h => hlt2 h.2), List.nil_append, decide_eq_false hlt2, Bool.false_or] at HRO
            rw [decide_eq_true hlt3] at hbl
            clear hlt2 hlt3 he
            go_wp2_with (at_builtin; (refine wpList_append_own_at _ rfl _ _ 30 rfl w0.heap.size 38 i0 _ 2 24 Tryz.underlying30 hi hz0 hz1 hz2 rfl (by decide) _ _ _ rfl (rowa.alloc _) ⟨wr.heap.size + 1, 0, none⟩ 1 1 (chCells [(nm, iv)]) rfl rfl (two_new_c wr (nm, iv)) (chCells_one _) (by unfold maxLen; omega) (by omega) (by simp; omega) ?_; intro v' w5 hown5 hgr5 _ _; have H5 := HAP.out v' w5 hown5 hgr5; obtain ⟨ad5, cp5, hv5, _⟩ := row_shapeC hown5; subst hv5; have HF : Hid _ := HEX.out false ad5 cp5 w5 (by rw [HRO.out, List.append_assoc]) H5; clear hown5 hgr5 H5))
            exact ⟨HF.out, HM.out⟩
    · obtain rfl : k = n := by omega
      have i2 : ¬ (k : Int) < (k : Int) := by omega
      obtain ⟨hpO, hRO, hrow, hB⟩ := H.out
      rw [← hll, List.drop_length] at hRO
      unfold withFrom at hRO
      have q3 := (hB.cell (p := ⟨w.heap.size + 1, 0, none⟩) (by simp only; omega)).trans HW0.out.2.1.1
      have q4 := (hB.cell (p := ⟨w.heap.size + 1, 1, none⟩) (by simp only; omega)).trans HW0.out.2.1.2
      have hws : w0.heap.size ≤ wr.heap.size := hB.size
      have hwr : w.heap.size + 1 < wr.heap.size := by omega
      have bW : Boxed wr (w.heap.size + 2) 32 (.slice none 0 0) := (hB.block _ (by omega)).trans HW0.out.1
      have HEND : Hid (∀ (W : World) (ad5 : Option Addr) (p5 cp5 : Nat), W.ownsRow w0.heap.size 38 2 (.slice ad5 p5 cp5) p5 (chCells R) → p5 = R.length → Below w0.heap.size w0 W → Boxed W (w.heap.size + 2) 32 (.slice none 0 0) → (W.setCell ⟨w.heap.size + 2, 0, none⟩ (.slice ad5 p5 cp5)).cell? ⟨w.heap.size + 2, 0, none⟩ = some (.slice ad5 p5 cp5) ∧ ∃ ad cp, Value.agg #[.slice ad5 p5 cp5] = Value.agg #[.slice ad R.length cp] ∧ (W.setCell ⟨w.heap.size + 2, 0, none⟩ (.slice ad5 p5 cp5)).ownsRow w.heap.size 38 2 (.slice ad R.length cp) R.length (chCells R) ∧ Below w.heap.size w (W.setCell ⟨w.heap.size + 2, 0, none⟩ (.slice ad5 p5 cp5))) := fun W ad5 p5 cp5 h1 h2 h3 h4 => by
        subst h2
        refine ⟨(h4.set _).cell, ad5, cp5, rfl, ?_, (HW0.out.2.2.trans (h3.mono (by omega))).setCell (p := ⟨w.heap.size + 2, 0, none⟩) (by simp) _⟩
        refine row_movedC ⟨h1.1, ?_⟩ (fun g e => Below.heap_setCell _ _ _ _ (fun e' => by have := (row_blockC h1 g e).1; simp only at e'; omega))
        rcases h1.2 with h | ⟨g, cap, cur, e, hg, rest⟩
        · exact .inl h
        · exact .inr ⟨g, cap, cur, e, by omega, rest⟩
      have cR := bW.cell
      have fR := bW.frozen
      cases laid with
      | true =>
        simp only [if_true, List.append_nil] at hRO
        have HE : Hid _ := HEND.out wr ad p cp (by rw [hRO]; exact hrow) (by rw [hRO]; exact hpO) hB bW
        have cE := HE.out.1
        clear hRO hrow hB bW hpO H
        go_wp2
        obtain ⟨_, ad', cp', he, hr', hb'⟩ := HE.out
        refine bodyPost_ret (v := .agg #[.slice ad p cp]) (by simp [results, Tryz.results31, go_sem, cE]) rfl ?_
        exact ⟨ad', cp', by rw [he], hr', hb'⟩
      | false =>
        simp only [Bool.false_eq_true, if_false] at hRO
        have HX : Hid (R = O ++ [(s, i)] ∧ p = O.length ∧ Below w0.heap.size w0 wr ∧ Boxed wr (w.heap.size + 2) 32 (.slice none 0 0)) := ⟨hRO, hpO, hB, bW⟩
        clear hRO hB bW hpO H
        go_wp2_with (at_builtin; (refine wpList_append_own_at _ rfl _ _ 30 rfl w0.heap.size 38 i0 _ 2 24 Tryz.underlying30 hi hz0 hz1 hz2 rfl (by decide) _ _ _ rfl (hrow.alloc _) ⟨wr.heap.size, 0, none⟩ 1 1 (chCells [(s, i)]) rfl rfl (cells_two_new wr (s, i)) (chCells_one _) (by unfold maxLen; omega) (by omega) (by simp; omega) ?_; intro v' w5 hown5 hgr5 _ _; obtain ⟨ad5, cp5, hv5, _⟩ := row_shapeC hown5; subst hv5; obtain ⟨hRO, hpO, hB, bW⟩ := HX.out; have hb5 : Below w0.heap.size w0 w5 := (hB.alloc hB.size _).trans (below_grC (hrow.alloc _) (by simp; omega) hgr5); have bW5 : Boxed w5 (w.heap.size + 2) 32 (.slice none 0 0) := (hb5.block _ (by omega)).trans HW0.out.1; have HE : Hid _ := HEND.out w5 ad5 (p + 1) cp5 (by rw [hRO, chCells_append]; exact hown5) (by rw [hRO, List.length_append, ← hpO]; rfl) hb5 bW5; have cE := HE.out.1; have cR5 := bW5.cell; have fR5 := bW5.frozen; clear hown5 hgr5 hb5 bW5 hRO hpO hB bW))
        obtain ⟨_, ad', cp', he, hr', hb'⟩ := HE.out
        refine bodyPost_ret (v := .agg #[.slice ad5 (p + 1) cp5]) (by simp [results, Tryz.results31, go_sem, cE]) rfl ?_
        exact ⟨ad', cp', by rw [he], hr', hb'⟩
end Go.Proofs.YtiafhbpklddlnaaGreatDoor

/- The document's refs: does a name stand ahead? -/
namespace Go.Proofs.YtiafhbpklddlnaaGreatDoor
open Go.RowKit Go.Shelf Go.Maps

attribute [local go_sem] Oper.semAt_some

/-- does that name stand among these? -/
def ahR (l : List Ch) (s : ByteArray) : Bool := l.any fun x => decide (bs x.1 = bs s)
theorem ahR_take (l : List Ch) (s : ByteArray) (k : Nat) (x : Ch) (h : l[k]? = some x) : ahR (l.take (k + 1)) s = (ahR (l.take k) s || decide (bs x.1 = bs s)) := by
  unfold ahR
  rw [List.take_add_one, h]
  simp

set_option maxRecDepth 100000 in
set_option maxHeartbeats 4000000 in
theorem dtwice_any (w : World) (a : Option Addr) (n c : Nat) (L : List Ch) (hl : Chs w a n L) (hnc : n ≤ c) (hn : n ≤ 1000000) (j : Nat) (y : Ch) (hy : L[j]? = some y) :
    Calls Tryz.prog 29 #[.slice a n c, .int .i64 (j : Int)] w fun e w' => e = .returned (.bool (ahR (L.take j) y.1)) ∧ Below w.heap.size w w' := by
  have hll := hl.1
  have hjn : j < n := by rw [← hll]; exact (List.getElem?_eq_some_iff.1 hy).1
  obtain ⟨b1, o1, rfl, hc1⟩ := hl.2 (by omega)
  obtain ⟨y1, y2⟩ := hc1 j y hy
  obtain ⟨R, hR⟩ : ∃ R, R = ahR (L.take j) y.1 := ⟨_, rfl⟩
  rw [← hR]
  have i1 : (j : Int) ≤ (c : Int) := by omega
  have i6 : ¬ n ≤ j := by omega
  have i7 : ¬ c < j := by omega
  have HR : Hid (R = ahR (L.take j) y.1) := hR
  clear hR
  go_enter Tryz.func29, Tryz.ntmps29
  go_wp2
  go_loopw [11] (fun q wr => ∃ (k : Nat), k ≤ j ∧ q = .int .i64 (k : Int) ∧ Hid (ahR (L.take k) y.1 = false ∧ Below w.heap.size w wr)) (fun q _ => j - (intOf q).toNat)
  case atStart => exact ⟨0, Nat.zero_le _, rfl, rfl, Below.refl _ _⟩
  case round =>
    obtain ⟨k, hk, rfl, H⟩ := hrel
    by_cases hlt : k < j
    · obtain ⟨x, hx⟩ : ∃ x, L[k]? = some x := ⟨_, List.getElem?_eq_getElem (by omega)⟩
      obtain ⟨t1, t2⟩ := hc1 k x hx
      have hB := H.out.2
      have hBa : Below w.heap.size w (wr.alloc (.cells #[.string x.1, .int .u64 x.2] 38)) := hB.alloc hB.size _
      have q1 := (hB.cell (p := ⟨b1, o1 + k * 2, none⟩) (World.block_lt_of_cell? w _ t1)).trans t1
      have q2 := (hB.cell (p := ⟨b1, o1 + k * 2 + 1, none⟩) (World.block_lt_of_cell? w _ t2)).trans t2
      have q3 := (hBa.cell (p := ⟨b1, o1 + j * 2, none⟩) (World.block_lt_of_cell? w _ y1)).trans y1
      have d0 : (wr.alloc (.cells #[.string x.1, .int .u64 x.2] 38)).cell? ⟨wr.heap.size, 0, none⟩ = some (.string x.1) := cells_two_new wr x 0 _ rfl
      have i2 : (k : Int) < (j : Int) := by omega
      have i3 : ¬ j ≤ k := by omega
      have HB : Hid (Below w.heap.size w (wr.alloc (.cells #[.string x.1, .int .u64 x.2] 38))) := hBa
      have HT : Hid (ahR (L.take (k + 1)) y.1 = decide (bs x.1 = bs y.1)) := (by rw [ahR_take L y.1 k x hx, H.out.1, Bool.false_or] : ahR (L.take (k + 1)) y.1 = decide (bs x.1 = bs y.1))
      have HX : Hid (ahR (L.take (k + 1)) y.1 = true → ahR (L.take j) y.1 = true) := fun h => by
        unfold ahR at h ⊢
        rw [List.any_eq_true] at h ⊢
        obtain ⟨z, hz, hz'⟩ := h
        refine ⟨z, ?_, hz'⟩
        rw [show k + 1 = min (k + 1) j by omega, ← List.take_take] at hz
        exact List.mem_of_mem_take hz
      clear hx t1 t2 hB hBa H
      obtain ⟨nm, iv⟩ := x
      obtain ⟨sy, yv⟩ := y
      simp only at q1 q2 q3 d0 HT HX HR
      by_cases he : bs nm = bs sy
      · have he' : nm = sy := by rw [← arr_bs nm, he, arr_bs]
        subst he'
        have hRt : R = true := by rw [HR.out]; exact HX.out (by rw [HT.out]; simp)
        subst hRt
        clear he HR HX HT
        go_wp2_with fail
        go_quiet (fail)
        go_wp2_with fail
        go_ret
        exact ⟨rfl, ⟨HB.out.os, HB.out.tape, HB.out.output, HB.out.size, HB.out.block⟩⟩
      · rw [decide_eq_false he] at HT
        have he' : (nm.toList == sy.toList) = false := beq_eq_false_iff_ne.2 (fun e => he (by rw [ByteArray.toList_eq, ByteArray.toList_eq] at e; exact e))
        clear he
        go_wp2_with fail
        go_quiet (fail)
        go_wp2_with fail
        go_roundw
        case rel => exact ⟨k + 1, by omega, by simp, HT.out, ⟨HB.out.os, HB.out.tape, HB.out.output, HB.out.size, HB.out.block⟩⟩
        case measure => simp [intOf]; omega
    · obtain rfl : k = j := by omega
      have i2 : ¬ (k : Int) < (k : Int) := by omega
      have e0 : R = false := by rw [HR.out, H.out.1]
      subst e0
      go_wp2
      go_ret
      exact ⟨rfl, H.out.2⟩
end Go.Proofs.YtiafhbpklddlnaaGreatDoor
