import Derived.Test.YthalpnpnbclipaaGreatC17
/- The document's check of a commit. -/
namespace Go.Proofs.YthalpnpnbclipaaGreat
open Go.RowKit

attribute [local go_sem] Oper.semAt_some

theorem idx0 (a b : Value) (w : World) : (Instr.index 155 (.agg #[a, b]) (.int .i64 0)).run Tryz.prog w = .ok a w := by
  kernel_rfl
theorem idx1 (a b : Value) (w : World) : (Instr.index 155 (.agg #[a, b]) (.int .i64 1)).run Tryz.prog w = .ok b w := by
  kernel_rfl

set_option maxRecDepth 20000 in
set_option maxHeartbeats 4000000 in
theorem refCheckCom_any (t : Int) (pa : Option Addr) (pn pc : Nat) (ps : List Int) (au : ByteArray) (d : Int) (tx : ByteArray) (w : World) (h : Com w t pa pn pc ps au d tx) :
    Calls Tryz.prog 68 #[cmt t pa pn pc au d tx] w fun e w' => e = .returned (.int .i64 (comErr t ps au tx)) ∧ Below w.heap.size w w' := by
  have hll := h.par.1
  have hB0 : Below w.heap.size w (w.alloc (.cells #[.int .u64 t, .slice pa pn pc, .string au, .int .i64 d, .string tx] 39)) := (Below.refl _ w).alloc (Nat.le_refl _) _
  have b0 := Box5.new w (.int .u64 t) (.slice pa pn pc) (.string au) (.int .i64 d) (.string tx)
  have h8n := h.len.2.1
  by_cases h0 : t = 0
  · subst h0
    have e0 : comErr 0 ps au tx = 2 := by unfold comErr; rw [if_pos rfl]
    rw [e0]
    go_enter Tryz.func68, Tryz.ntmps68
    go_wp2
    go_ret
    exact ⟨rfl, hB0⟩
  · have h0' : (t == 0) = false := beq_eq_false_iff_ne.2 h0
    by_cases h8 : 8 < pn
    · have i1 : (8 : Int) < pn := by omega
      have e0 : comErr t ps au tx = 3 := by
        have e1 : parErr ps = 3 := by unfold parErr; rw [if_pos (by omega)]
        unfold comErr; rw [if_neg h0, e1, if_pos (by omega)]
      rw [e0]
      go_enter Tryz.func68, Tryz.ntmps68
      go_wp2
      go_ret
      exact ⟨rfl, hB0⟩
    · have i1 : ¬ (8 : Int) < pn := by omega
      have e1 : parErr ps = parL ps := by unfold parErr; rw [if_neg (by omega)]
      obtain ⟨E, hE⟩ : ∃ E, E = comErr t ps au tx := ⟨_, rfl⟩
      have HE : Hid (E = if parL ps ≠ 0 then parL ps else if txtErr au 64 ≠ 0 then txtErr au 64 else txtErr tx 1024) := by
        show _ = _
        rw [hE]; unfold comErr; rw [if_neg h0, e1]
      rw [← hE]
      clear hE e1
      have HC : Hid (Com w t pa pn pc ps au d tx) := h
      clear h
      go_enter Tryz.func68, Tryz.ntmps68
      go_wp2
      go_loopw [17] (fun i wr => ∃ k : Nat, k ≤ pn ∧ i = .int .i64 (k : Int) ∧ Hid (parL ps = parL (ps.drop k) ∧ wr = w.alloc (.cells #[.int .u64 t, .slice pa pn pc, .string au, .int .i64 d, .string tx] 39))) (fun i _ => pn - (intOf i).toNat)
      case atStart => exact ⟨0, Nat.zero_le _, rfl, rfl, rfl⟩
      case round =>
        obtain ⟨k, hk, rfl, H⟩ := hrel
        have hwr := H.out.2
        subst hwr
        by_cases hlt : k < pn
        · obtain ⟨x, hx⟩ : ∃ x, ps[k]? = some x := ⟨_, List.getElem?_eq_getElem (by omega)⟩
          obtain ⟨b1, o1, hpa, hc1⟩ := (HC.out.par.below hB0).2 (by omega)
          subst hpa
          have q := hc1 k x hx
          have HD : Hid (parL (ps.drop k) = if x = 0 then 2 else parL (ps.drop (k + 1))) := parL_drop ps k x hx
          have i2 : (k : Int) < (pn : Int) := by omega
          have i3 : ¬ pn ≤ k := by omega
          clear hc1 hx
          by_cases hx0 : x = 0
          · subst hx0
            have e2 : parL ps = 2 := H.out.1.trans (by rw [HD.out, if_pos rfl])
            have e0 : E = 2 := by rw [HE.out, e2, if_pos (by omega)]
            subst e0
            clear H HD e2 HE
            go_wp2
            go_ret
            exact ⟨rfl, hB0⟩
          · have hx0' : (x == 0) = false := beq_eq_false_iff_ne.2 hx0
            have HP : Hid (parL ps = parL (ps.drop (k + 1))) := H.out.1.trans (by rw [HD.out, if_neg hx0])
            clear H HD
            go_wp2
            go_roundw
            case rel => exact ⟨k + 1, by omega, by simp, HP.out, by trivial⟩
            case measure => simp [intOf]; omega
        · obtain rfl : k = pn := by omega
          have i2 : ¬ (k : Int) < (k : Int) := by omega
          have e2 : parL ps = 0 := by rw [H.out.1, ← hll]; exact parL_end _
          have HE2 : Hid (E = if txtErr au 64 ≠ 0 then txtErr au 64 else txtErr tx 1024) := by
            show _ = _
            rw [HE.out, e2, if_neg (by simp)]
          have ha := fun w => refText2_any au w HC.out.author
          have hx := fun w => refText2_any tx w HC.out.text
          clear H e2 HE
          obtain ⟨c0, c1, c2, c3, c4⟩ := b0.cell
          have hi0 := idx0 (.string au) (.string tx)
          have hi1 := idx1 (.string au) (.string tx)
          go_wp2_with fail
          have HB0 : Hid (Below w.heap.size w (w.alloc (.cells #[.int .u64 t, .slice pa k pc, .string au, .int .i64 d, .string tx] 39))) := hB0
          go_loopw [29] (fun i wr => ∃ k : Nat, k ≤ 2 ∧ i = .int .i64 (k : Int) ∧ Hid ((k = 0 → E = if txtErr au 64 ≠ 0 then txtErr au 64 else txtErr tx 1024) ∧ (k = 1 → E = txtErr tx 1024) ∧ (k = 2 → E = 0) ∧ Below w.heap.size w wr)) (fun i _ => 2 - (intOf i).toNat)
          case atStart => exact ⟨0, by omega, rfl, fun _ => HE2.out, fun h => by omega, fun h => by omega, HB0.out⟩
          case round =>
            clear HE2 HB0 c0 c1 c2 c3 c4 b0 hB0
            obtain ⟨j, hj, rfl, H⟩ := hrel
            rcases (show j = 0 ∨ j = 1 ∨ j = 2 by omega) with hk0 | hk1 | hk2
            · subst hk0
              simp only [show ((0 : Nat) : Int) = 0 from rfl]
              have HEk : Hid ((64 < au.size → E = 3) ∧ (¬ 64 < au.size → rightL (bs au) = false → E = 162) ∧ (¬ 64 < au.size → rightL (bs au) = true → E = txtErr tx 1024)) := by
                have := H.out.1 rfl
                unfold txtErr at this
                refine ⟨fun h1 => ?_, fun h1 h2 => ?_, fun h1 h2 => ?_⟩
                · rw [this]; simp [h1]
                · rw [this]; simp [h1, h2]
                · rw [this]; simp [h1, h2, txtErr]
              by_cases hL : 64 < au.size
              · have iL : (64 : Int) < au.size := by omega
                have e3 : E = 3 := HEk.out.1 hL
                subst e3
                have HB : Hid (Below w.heap.size w wr) := H.out.2.2.2
                clear HEk H
                go_wp2_with fail
                go_ret
                exact ⟨rfl, HB.out⟩
              · have iL : ¬ (64 : Int) < au.size := by omega
                have iL2 : ¬ (1024 : Int) < au.size := by omega
                cases hR : rightL (bs au) with
                | false =>
                  have e3 : E = 162 := HEk.out.2.1 hL hR
                  subst e3
                  have hcc := ha wr
                  rw [hR] at hcc
                  have HB : Hid (Below w.heap.size w wr) := H.out.2.2.2
                  clear HEk H
                  go_wp2_with (go_at_call 95; refine hcc.mono ?_; clear hcc; rintro e w3 ⟨rfl, hB3⟩)
                  go_ret
                  exact ⟨rfl, HB.out.trans (hB3.mono HB.out.size)⟩
                | true =>
                  have HN : Hid (E = txtErr tx 1024) := HEk.out.2.2 hL hR
                  have hcc := ha wr
                  rw [hR] at hcc
                  have HB : Hid (Below w.heap.size w wr) := H.out.2.2.2
                  clear HEk H
                  go_wp2_with (go_at_call 95; refine hcc.mono ?_; clear hcc; rintro e w3 ⟨rfl, hB3⟩)
                  go_roundw
                  case rel => exact ⟨1, by omega, by simp, fun h => by omega, fun _ => HN.out, fun h => by omega, HB.out.trans (hB3.mono HB.out.size)⟩
                  case measure => simp [intOf]
            · subst hk1
              simp only [show ((1 : Nat) : Int) = 1 from rfl]
              have HEk : Hid ((1024 < tx.size → E = 3) ∧ (¬ 1024 < tx.size → rightL (bs tx) = false → E = 162) ∧ (¬ 1024 < tx.size → rightL (bs tx) = true → E = 0)) := by
                have := H.out.2.1 rfl
                unfold txtErr at this
                refine ⟨fun h1 => ?_, fun h1 h2 => ?_, fun h1 h2 => ?_⟩
                · rw [this]; simp [h1]
                · rw [this]; simp [h1, h2]
                · rw [this]; simp [h1, h2]
              by_cases hL : 1024 < tx.size
              · have iL : (1024 : Int) < tx.size := by omega
                have e3 : E = 3 := HEk.out.1 hL
                subst e3
                have HB : Hid (Below w.heap.size w wr) := H.out.2.2.2
                clear HEk H
                go_wp2_with fail
                go_ret
                exact ⟨rfl, HB.out⟩
              · have iL : ¬ (1024 : Int) < tx.size := by omega
                have iL2 : ¬ (1024 : Int) < tx.size := by omega
                cases hR : rightL (bs tx) with
                | false =>
                  have e3 : E = 162 := HEk.out.2.1 hL hR
                  subst e3
                  have hcc := hx wr
                  rw [hR] at hcc
                  have HB : Hid (Below w.heap.size w wr) := H.out.2.2.2
                  clear HEk H
                  go_wp2_with (go_at_call 95; refine hcc.mono ?_; clear hcc; rintro e w3 ⟨rfl, hB3⟩)
                  go_ret
                  exact ⟨rfl, HB.out.trans (hB3.mono HB.out.size)⟩
                | true =>
                  have HN : Hid (E = 0) := HEk.out.2.2 hL hR
                  have hcc := hx wr
                  rw [hR] at hcc
                  have HB : Hid (Below w.heap.size w wr) := H.out.2.2.2
                  clear HEk H
                  go_wp2_with (go_at_call 95; refine hcc.mono ?_; clear hcc; rintro e w3 ⟨rfl, hB3⟩)
                  go_roundw
                  case rel => exact ⟨2, by omega, by simp, fun h => by omega, fun h => by omega, fun _ => HN.out, HB.out.trans (hB3.mono HB.out.size)⟩
                  case measure => simp [intOf]
            · subst hk2
              simp only [show ((2 : Nat) : Int) = 2 from rfl]
              have e3 : E = 0 := H.out.2.2.1 rfl
              subst e3
              have HB : Hid (Below w.heap.size w wr) := H.out.2.2.2
              clear H
              go_wp2_with fail
              go_ret
              exact ⟨rfl, HB.out⟩
theorem Keeps'.box5 {W W' : World} {g : Nat} {a b c d e : Value} (h : Keeps' W W') (hb : Box5 W g a b c d e) : Box5 W' g a b c d e := h g _ _ hb (by decide)

set_option maxRecDepth 100000 in
set_option maxHeartbeats 8000000 in
theorem refCom_any (t : Int) (pa : Option Addr) (pn pc : Nat) (ps : List Int) (au : ByteArray) (d : Int) (tx : ByteArray) (w : World) (h : Com w t pa pn pc ps au d tx) :
    Calls Tryz.prog 34 #[cmt t pa pn pc au d tx] w fun e w' => ∃ v, e = .returned (.tuple #[v, .int .i64 (comErr t ps au tx)]) ∧ OwnB w.heap.size (comT t ps au d tx) v w' ∧ Below w.heap.size w w' := by
  have hB0 : Below w.heap.size w (w.alloc (.cells #[.int .u64 t, .slice pa pn pc, .string au, .int .i64 d, .string tx] 39)) := (Below.refl _ w).alloc (Nat.le_refl _) _
  have b0 := Box5.new w (.int .u64 t) (.slice pa pn pc) (.string au) (.int .i64 d) (.string tx)
  have q0 := b0.cell
  have hck := refCheckCom_any t pa pn pc ps au d tx _ (h.below hB0)
  have hll := h.par.1
  unfold comT
  by_cases h0 : comErr t ps au tx = 0
  · obtain ⟨_, hn, hau, htx⟩ := com_fits h0
    rw [if_pos h0]
    rw [h0] at hck ⊢
    obtain ⟨y, rfl⟩ := Int.eq_ofNat_of_zero_le h.tree.1
    have hyl := h.tree.2
    obtain ⟨hdu, hdl⟩ := du_eq d
    have hsn := short_len pn
    have hsa := short_len au.size
    have hsx := short_len tx.size
    have hal : au.data.toList.length = au.size := by simp
    have hpl := parsB_len ps pn (by omega)
    have hpl' : (parsB ps).length = pn * 8 := by rw [← hpl, List.take_of_length_le (by omega)]
    have hwl := owide_len
    have HF : Hid (comB y ps au d tx = [99] ++ wide y ++ short pn ++ parsB ps ++ (short au.size ++ au.data.toList) ++ wide (du d) ++ (short tx.size ++ tx.data.toList)) := by
      show _ = _
      unfold comB
      rw [hll]
      rfl
    have HC : Hid (Com w y pa pn pc ps au d tx) := h
    have hru := fun w => refUint_any pn w (by omega)
    have hra := fun w => refText_any au w (by omega)
    have hrx := fun w => refText_any tx w (by omega)
    generalize du d = D at *
    clear h hpl h0
    obtain ⟨q00, q01, q02, q03, q04⟩ := q0
    go_enter Tryz.func34, Tryz.ntmps34
    go_wp2_with first
      | (go_at_call 68; refine hck.mono ?_; clear hck; rintro e w1 ⟨rfl, hB1⟩; have b1 := (b0.kept hB1).kept ((Below.refl _ _).alloc (Nat.le_refl _) (.cells #[.int .u8 99] 5)); obtain ⟨c0, c1, c2, c3, c4⟩ := b1.cell; have hB01 : Below w.heap.size w w1 := hB0.trans (hB1.mono hB0.size); have hR1 : RO w [99] (.slice (some ⟨w1.heap.size, 0, none⟩) 1 1) (w1.alloc (.cells #[.int .u8 99] 5)) := ⟨⟨World.ownsRow_lit w1 #[.int .u8 99] 1 hB01.size (by unfold maxLen; omega) rfl⟩, hB01.alloc hB01.size _⟩; clear hB1 b0 hB0 hB01 q00 q01 q02 q03 q04)
      | (go_at_call 51; refine (refWord_any y _ (by omega)).mono ?_; rintro e w2 ⟨rfl, hy2, hB2⟩; rw [World.size_alloc] at hy2; have hR2 := hR1.below hB2; have b2 := b1.kept hB2; clear hR1 hB2 b1 c0 c1 c2 c3 c4)
      | (at_builtin; refine wpList_ro w _ rfl _ _ rfl _ [99] rfl hR2 (some ⟨_, 0, none⟩) 8 8 (wide y) rfl hy2 (fun h => by cases h) (by simp only [List.length_singleton]; omega) ?_; intro v3 w3 hR3 hK3; have b3 := hK3.box5 b2; obtain ⟨c0, c1, c2, c3, c4⟩ := b3.cell; clear hR2 hy2 hK3 b2)
      | (go_at_call 67; refine (hru _).mono ?_; clear hru; rintro e w4 ⟨v4, rfl, ho4, hB4⟩; obtain ⟨ua, uc, hv4, hun⟩ := row_shape ho4; subst hv4; have hy4 := row_bytes ho4; have hR4 := hR3.below hB4; have b4 := b3.kept hB4; clear ho4 hR3 hB4 b3 c0 c1 c2 c3 c4)
      | (at_builtin; refine wpList_ro w _ rfl _ _ rfl _ ([99] ++ wide y) rfl hR4 ua _ uc (short pn) rfl hy4 hun.2 (by simp only [List.length_append, List.length_singleton, hwl]; omega) ?_; intro v5 w5 hR5 hK5; have b5 := hK5.box5 b4; obtain ⟨c0, c1, c2, c3, c4⟩ := b5.cell; have H5 : Hid (RO w ([99] ++ wide y ++ short pn ++ parsB (ps.take 0)) v5 w5 ∧ Box5 w5 w.heap.size (.int .u64 y) (.slice pa pn pc) (.string au) (.int .i64 d) (.string tx)) := ⟨(by have e : parsB (ps.take 0) = [] := rfl; rw [e, List.append_nil]; exact hR5), b5⟩; clear hR4 hy4 hK5 hR5 b4 b5)
    go_loopw [5, 28] (fun v i wr => ∃ k : Nat, k ≤ pn ∧ i = .int .i64 (k : Int) ∧ Hid (RO w ([99] ++ wide y ++ short pn ++ parsB (ps.take k)) v wr ∧ Box5 wr w.heap.size (.int .u64 y) (.slice pa pn pc) (.string au) (.int .i64 d) (.string tx))) (fun _ i _ => pn - (intOf i).toNat)
    case atStart => exact ⟨0, Nat.zero_le _, rfl, H5.out⟩
    case round =>
      clear H5 c0 c1 c2 c3 c4
      obtain ⟨k, hk, rfl, H⟩ := hrel
      by_cases hlt : k < pn
      · obtain ⟨x, hx'⟩ : ∃ x, ps[k]? = some x := ⟨_, List.getElem?_eq_getElem (by omega)⟩
        obtain ⟨b1, o1, hpa, hc1⟩ := (HC.out.par.below H.out.1.bel).2 (by omega)
        subst hpa
        have q := hc1 k x hx'
        have hxr := HC.out.pars x (List.mem_of_getElem? hx')
        obtain ⟨z, rfl⟩ := Int.eq_ofNat_of_zero_le hxr.1
        have HT : Hid ([99] ++ wide y ++ short pn ++ parsB (ps.take (k + 1)) = [99] ++ wide y ++ short pn ++ parsB (ps.take k) ++ wide z) := by
          show _ = _
          rw [parsB_take ps k _ hx', ← List.append_assoc]
          rfl
        have hpk := parsB_len ps k (by omega)
        have i2 : (k : Int) < (pn : Int) := by omega
        have i3 : ¬ pn ≤ k := by omega
        have hR := H.out.1
        have bb := H.out.2
        clear hc1 hx' H
        go_wp2_with first
          | (go_at_call 51; refine (refWord_any z _ (by omega)).mono ?_; rintro e x6 ⟨rfl, hy6, hB6⟩; have hR6 := hR.below hB6; have b6 := bb.kept hB6; clear hR hB6 bb)
          | (at_builtin; refine wpList_ro w _ rfl _ _ rfl _ _ rfl hR6 (some ⟨_, 0, none⟩) 8 8 (wide z) rfl hy6 (fun h => by cases h) (by simp only [List.length_append, List.length_singleton, hwl]; omega) ?_; intro v7 x7 hR7 hK7; have H7 : Hid (RO w ([99] ++ wide y ++ short pn ++ parsB (ps.take (k + 1))) v7 x7 ∧ Box5 x7 w.heap.size (.int .u64 y) (.slice (some ⟨b1, o1, none⟩) pn pc) (.string au) (.int .i64 d) (.string tx)) := ⟨(by rw [HT.out]; exact hR7), hK7.box5 b6⟩; clear hR6 hy6 hR7 hK7 b6)
        go_roundw
        case rel => exact ⟨k + 1, by omega, by simp, H7.out⟩
        case measure => simp [intOf]; omega
      · obtain rfl : k = pn := by omega
        have i2 : ¬ (k : Int) < (k : Int) := by omega
        have hR := H.out.1
        rw [List.take_of_length_le (by omega)] at hR
        have bb := H.out.2
        obtain ⟨c0, c1, c2, c3, c4⟩ := bb.cell
        clear H
        go_wp2_with first
          | (go_at_call 50; refine (hra _).mono ?_; clear hra; rintro e x3 ⟨v3, rfl, ho3, hB3⟩; obtain ⟨ta, tc, hv3, htn⟩ := row_shape ho3; subst hv3; have hy3 := row_bytes ho3; have hR3 := hR.below hB3; have b3 := bb.kept hB3; clear ho3 hR bb hB3 c0 c1 c2 c3 c4)
          | (at_builtin; refine wpList_ro w _ rfl _ _ rfl _ ([99] ++ wide y ++ short k ++ parsB ps) rfl hR3 ta _ tc (short au.size ++ au.data.toList) rfl hy3 htn.2 (by simp only [List.length_append, List.length_singleton, hwl, hpl']; omega) ?_; intro v4 x4 hR4 hK4; have b4 := hK4.box5 b3; obtain ⟨c0, c1, c2, c3, c4⟩ := b4.cell; clear hR3 hy3 hK4 b3)
          | (go_at_call 51; refine (refWord_any D _ hdl).mono ?_; rintro e x6 ⟨rfl, hy6, hB6⟩; have hR6 := hR4.below hB6; have b6 := b4.kept hB6; clear hR4 hB6 b4 c0 c1 c2 c3 c4)
          | (at_builtin; refine wpList_ro w _ rfl _ _ rfl _ _ rfl hR6 (some ⟨_, 0, none⟩) 8 8 (wide D) rfl hy6 (fun h => by cases h) (by simp only [List.length_append, List.length_singleton, hwl, hpl', hal]; omega) ?_; intro v7 x7 hR7 hK7; have b7 := hK7.box5 b6; obtain ⟨d0, d1, d2, d3, d4⟩ := b7.cell; clear hR6 hy6 hK7 b6)
          | (go_at_call 50; refine (hrx _).mono ?_; clear hrx; rintro e x8 ⟨v8, rfl, ho8, hB8⟩; obtain ⟨ta8, tc8, hv8, htn8⟩ := row_shape ho8; subst hv8; have hy8 := row_bytes ho8; have hR8 := hR7.below hB8; clear ho8 hR7 hB8 b7 d0 d1 d2 d3 d4)
          | (at_builtin; refine wpList_ro w _ rfl _ _ rfl _ _ rfl hR8 ta8 _ tc8 (short tx.size ++ tx.data.toList) rfl hy8 htn8.2 (by simp only [List.length_append, List.length_singleton, hwl, hpl', hal]; omega) ?_; intro v9 x9 hR9 _; clear hR8 hy8)
        go_ret2
        exact ⟨_, rfl, by rw [HF.out]; exact hR9.own, hR9.bel⟩
  · rw [if_neg h0]
    have h0' : (comErr t ps au tx == 0) = false := beq_eq_false_iff_ne.2 h0
    generalize comErr t ps au tx = E at *
    obtain ⟨q00, q01, q02, q03, q04⟩ := q0
    go_enter Tryz.func34, Tryz.ntmps34
    go_wp2_with (go_at_call 68; refine hck.mono ?_; clear hck; rintro e w1 ⟨rfl, hB1⟩)
    go_ret2
    exact ⟨_, rfl, ⟨World.ownsRow_nil _ _ _ _⟩, hB0.trans (hB1.mono hB0.size)⟩
end Go.Proofs.YthalpnpnbclipaaGreat

/- A commit's copy, its type, the law's comparison of two commits. -/
namespace Go.Proofs.YthalpnpnbclipaaGreat
open Go.RowKit

attribute [local go_sem] Oper.semAt_some

set_option maxHeartbeats 1000000 in
theorem clone_ids (a : Option Addr) (n c : Nat) (l : List Int) (w : World) (hb : Ids w a n l) (hnil : a = none → n = 0 ∧ c = 0) (hbig : n ≤ 1099511627776) :
    Calls Tryz.prog 103 #[.slice a n c] w fun e w' => ∃ v, e = .returned v ∧ w'.ownsRow w.heap.size 24 1 v n (l.map (Value.int .u64)) ∧ Below w.heap.size w w' := by
  have q22 : ∀ (w : World) (a : Option Addr) (n c n' c' : Nat), (binOp .eql 32 (.slice a n c) (.slice none n' c')).run Tryz.prog w = .ok (.bool a.isNone) w := fun w a n c n' c' => Lib.run_eql_slice_nil w _ _ a n c n' c' Tryz.underlying32
  cases a with
  | none =>
    obtain ⟨rfl, rfl⟩ := hnil rfl
    have hl : l = [] := List.eq_nil_of_length_eq_zero hb.1
    subst hl
    go_enter Tryz.func103, Tryz.ntmps103
    go_wp2
    go_ret
    exact ⟨_, rfl, World.ownsRow_nil _ _ _ _, Below.refl _ _⟩
  | some a =>
    have hB0 : Below w.heap.size w (w.alloc (.cells #[] 24)) := (Below.refl _ _).alloc (Nat.le_refl _) _
    have hb0 : Ids (w.alloc (.cells #[] 24)) (some a) n l := hb.below hB0
    have hr0 : (w.alloc (.cells #[] 24)).ownsRow w.heap.size 24 1 (.slice (some ⟨w.heap.size, 0, none⟩) 0 0) 0 (([] : List Int).map (Value.int .u64)) := World.ownsRow_made w #[] 0 (Nat.le_refl _) (by unfold maxLen; omega) rfl
    go_enter Tryz.func103, Tryz.ntmps103
    go_wp2_with (at_builtin; refine wpList_appI _ w.heap.size (by simp) rfl _ _ rfl (.slice (some ⟨w.heap.size, 0, none⟩) 0 0) 0 [] rfl hr0 (some a) n c l rfl hb0 hnil (by omega) ?_; intro v' w1 hown hgrow; obtain ⟨a', c', rfl, hnc, hnn⟩ := row_shape hown)
    go_ret
    simp only [Nat.zero_add, List.nil_append] at *
    refine ⟨_, rfl, hown, hB0.grown hgrow (by simp) (by intro k hk; cases hk; exact Nat.le_refl _)⟩
theorem Box5.set1 {W : World} {B : Nat} {a b c d e : Value} (h : Box5 W B a b c d e) (b' : Value) : Box5 (W.setCell ⟨B, 1, none⟩ b') B a b' c d e := by
  have h' : W.heap[B]? = _ := h
  have hl := h.lt
  unfold Box5
  simp [World.setCell, Array.getElem?_modify, h']
set_option maxRecDepth 20000 in
set_option maxHeartbeats 2000000 in
theorem fresh_com (t : Int) (pa : Option Addr) (pn pc : Nat) (ps : List Int) (au : ByteArray) (d : Int) (tx : ByteArray) (w : World) (hb : Ids w pa pn ps) (hnil : pa = none → pn = 0 ∧ pc = 0) (hn : pn ≤ 1099511627776) :
    Calls Tryz.prog 73 #[coV t pa pn pc au d tx] w fun e w' => ∃ ad cp, e = .returned (coV t ad pn cp au d tx) ∧ w'.ownsRow w.heap.size 24 1 (.slice ad pn cp) pn (ps.map (Value.int .u64)) ∧ Below w.heap.size w w' := by
  have h1 := no_blob_com (cmt t pa pn pc au d tx)
  have h2 := no_tree_com (cmt t pa pn pc au d tx)
  have h3 := as_commit (cmt t pa pn pc au d tx)
  have hB0 : Below w.heap.size w (w.alloc (.cells #[.int .u64 t, .slice pa pn pc, .string au, .int .i64 d, .string tx] 39)) := (Below.refl _ w).alloc (Nat.le_refl _) _
  have b0 := Box5.new w (.int .u64 t) (.slice pa pn pc) (.string au) (.int .i64 d) (.string tx)
  have hcl : Calls Tryz.prog 103 #[.slice pa pn pc] (w.alloc (.cells #[.int .u64 t, .slice pa pn pc, .string au, .int .i64 d, .string tx] 39)) fun e w' => ∃ ad cp, e = .returned (.slice ad pn cp) ∧ Hid (w'.ownsRow (w.heap.size + 1) 24 1 (.slice ad pn cp) pn (ps.map (Value.int .u64)) ∧ Below (w.heap.size + 1) (w.alloc (.cells #[.int .u64 t, .slice pa pn pc, .string au, .int .i64 d, .string tx] 39)) w') ∧ Box5 w' w.heap.size (.int .u64 t) (.slice pa pn pc) (.string au) (.int .i64 d) (.string tx) := by
    refine (clone_ids pa pn pc ps _ (hb.below hB0) hnil (by omega)).mono fun e w' ⟨v, he, ho, hB⟩ => ?_
    have hbx := b0.kept hB
    rw [World.size_alloc] at ho hB
    obtain ⟨ad, cp, rfl, _⟩ := row_shape ho
    exact ⟨ad, cp, he, ⟨ho, hB⟩, hbx⟩
  go_enter Tryz.func73, Tryz.ntmps73
  go_wp2_with (go_at_call 103; refine hcl.mono ?_; clear hcl; rintro e w1 ⟨ad, cp, rfl, HO, hbx⟩; obtain ⟨c0, c1, c2, c3, c4⟩ := hbx.cell; obtain ⟨f0, f1, f2, f3, f4⟩ := hbx.frozen; obtain ⟨d0, d1, d2, d3, d4⟩ := (hbx.set1 (.slice ad pn cp)).cell)
  go_ret
  obtain ⟨ho, hB⟩ := HO.out
  refine ⟨ad, cp, rfl, ?_, (hB0.trans (hB.mono (by omega))).setCell (p := ⟨w.heap.size, 1, none⟩) (Nat.le_refl _) _⟩
  have hg : w1.grownBy (w1.setCell ⟨w.heap.size, 1, none⟩ (.slice ad pn cp)) (some w.heap.size) :=
    ⟨rfl, rfl, rfl, by simp, fun k hk hne => Below.heap_setCell _ _ _ _ (fun e => hne (by rw [e]))⟩
  refine row_lower (ho.kept (row := some w.heap.size) hg ?_) (by omega)
  exact .inr fun e => by have := (row_block ho w.heap.size e).1; omega
theorem Copy_com (t : Int) (pa : Option Addr) (pn pc : Nat) (ps : List Int) (au : ByteArray) (d : Int) (tx : ByteArray) (w : World) (hb : Ids w pa pn ps) (hnil : pa = none → pn = 0 ∧ pc = 0) (hn : pn ≤ 1099511627776) :
    Calls Tryz.prog 41 #[coV t pa pn pc au d tx] w fun e w' => ∃ ad cp, e = .returned (coV t ad pn cp au d tx) ∧ w'.ownsRow w.heap.size 24 1 (.slice ad pn cp) pn (ps.map (Value.int .u64)) ∧ Below w.heap.size w w' := by
  go_enter Tryz.func41, Tryz.ntmps41
  go_wp2_with (go_at_call 73; refine (fresh_com t pa pn pc ps au d tx _ hb hnil hn).mono ?_; rintro e w1 ⟨ad, cp, rfl, hO, hB⟩)
  go_ret
  exact ⟨ad, cp, rfl, hO, hB⟩
end Go.Proofs.YthalpnpnbclipaaGreat
