import Derived.Test.YthalpnpnbclipaaGreatL12
import Derived.Test.YthalpnpnbclipaaGreatL42
/- The document's check of a commit. -/
namespace Go.Proofs.YthalpnpnbclipaaGreat
open Go.RowKit

attribute [local go_sem] Oper.semAt_some

theorem idx0 (a b : Value) (w : World) : (Instr.index 155 (.agg #[a, b]) (.int .i64 0)).run Tryz.prog w = .ok a w := by
  kernel_rfl
theorem idx1 (a b : Value) (w : World) : (Instr.index 155 (.agg #[a, b]) (.int .i64 1)).run Tryz.prog w = .ok b w := by
  kernel_rfl

set_option maxRecDepth 20000 in
set_option maxHeartbeats 4000000 in
theorem refCheckCom_any (t : Int) (pa : Option Addr) (pn pc : Nat) (ps : List Int) (au : ByteArray) (d : Int) (tx : ByteArray) (w : World) (h : Com w t pa pn pc ps au d tx) :
    Calls Tryz.prog 68 #[cmt t pa pn pc au d tx] w fun e w' => e = .returned (.int .i64 (comErr t ps au tx)) ∧ Below w.heap.size w w' := by
  have hll := h.par.1
  have hB0 : Below w.heap.size w (w.alloc (.cells #[.int .u64 t, .slice pa pn pc, .string au, .int .i64 d, .string tx] 39)) := (Below.refl _ w).alloc (Nat.le_refl _) _
  have b0 := Box5.new w (.int .u64 t) (.slice pa pn pc) (.string au) (.int .i64 d) (.string tx)
  have h8n := h.len.2.1
  by_cases h0 : t = 0
  · subst h0
    have e0 : comErr 0 ps au tx = 2 := by unfold comErr; rw [if_pos rfl]
    rw [e0]
    go_enter Tryz.func68, Tryz.ntmps68
    go_wp2
    go_ret
    exact ⟨rfl, hB0⟩
  · have h0' : (t == 0) = false := beq_eq_false_iff_ne.2 h0
    by_cases h8 : 8 < pn
    · have i1 : (8 : Int) < pn := by omega
      have e0 : comErr t ps au tx = 3 := by
        have e1 : parErr ps = 3 := by unfold parErr; rw [if_pos (by omega)]
        unfold comErr; rw [if_neg h0, e1, if_pos (by omega)]
      rw [e0]
      go_enter Tryz.func68, Tryz.ntmps68
      go_wp2
      go_ret
      exact ⟨rfl, hB0⟩
    · have i1 : ¬ (8 : Int) < pn := by omega
      have e1 : parErr ps = parL ps := by unfold parErr; rw [if_neg (by omega)]
      obtain ⟨E, hE⟩ : ∃ E, E = comErr t ps au tx := ⟨_, rfl⟩
      have HE : Hid (E = if parL ps ≠ 0 then parL ps else if txtErr au 64 ≠ 0 then txtErr au 64 else txtErr tx 1024) := by
        show _ = _
        rw [hE]; unfold comErr; rw [if_neg h0, e1]
      rw [← hE]
      clear hE e1
      have HC : Hid (Com w t pa pn pc ps au d tx) := h
      clear h
      go_enter Tryz.func68, Tryz.ntmps68
      go_wp2
      go_loopw [17] (fun i wr => ∃ k : Nat, k ≤ pn ∧ i = .int .i64 (k : Int) ∧ Hid (parL ps = parL (ps.drop k) ∧ wr = w.alloc (.cells #[.int .u64 t, .slice pa pn pc, .string au, .int .i64 d, .string tx] 39))) (fun i _ => pn - (intOf i).toNat)
      case atStart => exact ⟨0, Nat.zero_le _, rfl, rfl, rfl⟩
      case round =>
        obtain ⟨k, hk, rfl, H⟩ := hrel
        have hwr := H.out.2
        subst hwr
        by_cases hlt : k < pn
        · obtain ⟨x, hx⟩ : ∃ x, ps[k]? = some x := ⟨_, List.getElem?_eq_getElem (by omega)⟩
          obtain ⟨b1, o1, hpa, hc1⟩ := (HC.out.par.below hB0).2 (by omega)
          subst hpa
          have q := hc1 k x hx
          have HD : Hid (parL (ps.drop k) = if x = 0 then 2 else parL (ps.drop (k + 1))) := parL_drop ps k x hx
          have i2 : (k : Int) < (pn : Int) := by omega
          have i3 : ¬ pn ≤ k := by omega
          clear hc1 hx
          by_cases hx0 : x = 0
          · subst hx0
            have e2 : parL ps = 2 := H.out.1.trans (by rw [HD.out, if_pos rfl])
            have e0 : E = 2 := by rw [HE.out, e2, if_pos (by omega)]
            subst e0
            clear H HD e2 HE
            go_wp2
            go_ret
            exact ⟨rfl, hB0⟩
          · have hx0' : (x == 0) = false := beq_eq_false_iff_ne.2 hx0
            have HP : Hid (parL ps = parL (ps.drop (k + 1))) := H.out.1.trans (by rw [HD.out, if_neg hx0])
            clear H HD
            go_wp2
            go_roundw
            case rel => exact ⟨k + 1, by omega, by simp, HP.out, by trivial⟩
            case measure => simp [intOf]; omega
        · obtain rfl : k = pn := by omega
          have i2 : ¬ (k : Int) < (k : Int) := by omega
          have e2 : parL ps = 0 := by rw [H.out.1, ← hll]; exact parL_end _
          have HE2 : Hid (E = if txtErr au 64 ≠ 0 then txtErr au 64 else txtErr tx 1024) := by
            show _ = _
            rw [HE.out, e2, if_neg (by simp)]
          have ha := fun w => refText2_any au w HC.out.author
          have hx := fun w => refText2_any tx w HC.out.text
          clear H e2 HE
          obtain ⟨c0, c1, c2, c3, c4⟩ := b0.cell
          have hi0 := idx0 (.string au) (.string tx)
          have hi1 := idx1 (.string au) (.string tx)
          go_wp2_with fail
          have HB0 : Hid (Below w.heap.size w (w.alloc (.cells #[.int .u64 t, .slice pa k pc, .string au, .int .i64 d, .string tx] 39))) := hB0
          go_loopw [29] (fun i wr => ∃ k : Nat, k ≤ 2 ∧ i = .int .i64 (k : Int) ∧ Hid ((k = 0 → E = if txtErr au 64 ≠ 0 then txtErr au 64 else txtErr tx 1024) ∧ (k = 1 → E = txtErr tx 1024) ∧ (k = 2 → E = 0) ∧ Below w.heap.size w wr)) (fun i _ => 2 - (intOf i).toNat)
          case atStart => exact ⟨0, by omega, rfl, fun _ => HE2.out, fun h => by omega, fun h => by omega, HB0.out⟩
          case round =>
            clear HE2 HB0 c0 c1 c2 c3 c4 b0 hB0
            obtain ⟨j, hj, rfl, H⟩ := hrel
            rcases (show j = 0 ∨ j = 1 ∨ j = 2 by omega) with hk0 | hk1 | hk2
            · subst hk0
              simp only [show ((0 : Nat) : Int) = 0 from rfl]
              have HEk : Hid ((64 < au.size → E = 3) ∧ (¬ 64 < au.size → rightL (bs au) = false → E = 162) ∧ (¬ 64 < au.size → rightL (bs au) = true → E = txtErr tx 1024)) := by
                have := H.out.1 rfl
                unfold txtErr at this
                refine ⟨fun h1 => ?_, fun h1 h2 => ?_, fun h1 h2 => ?_⟩
                · rw [this]; simp [h1]
                · rw [this]; simp [h1, h2]
                · rw [this]; simp [h1, h2, txtErr]
              by_cases hL : 64 < au.size
              · have iL : (64 : Int) < au.size := by omega
                have e3 : E = 3 := HEk.out.1 hL
                subst e3
                have HB : Hid (Below w.heap.size w wr) := H.out.2.2.2
                clear HEk H
                go_wp2_with fail
                go_ret
                exact ⟨rfl, HB.out⟩
              · have iL : ¬ (64 : Int) < au.size := by omega
                have iL2 : ¬ (1024 : Int) < au.size := by omega
                cases hR : rightL (bs au) with
                | false =>
                  have e3 : E = 162 := HEk.out.2.1 hL hR
                  subst e3
                  have hcc := ha wr
                  rw [hR] at hcc
                  have HB : Hid (Below w.heap.size w wr) := H.out.2.2.2
                  clear HEk H
                  go_wp2_with (go_at_call 95; refine hcc.mono ?_; clear hcc; rintro e w3 ⟨rfl, hB3⟩)
                  go_ret
                  exact ⟨rfl, HB.out.trans (hB3.mono HB.out.size)⟩
                | true =>
                  have HN : Hid (E = txtErr tx 1024) := HEk.out.2.2 hL hR
                  have hcc := ha wr
                  rw [hR] at hcc
                  have HB : Hid (Below w.heap.size w wr) := H.out.2.2.2
                  clear HEk H
                  go_wp2_with (go_at_call 95; refine hcc.mono ?_; clear hcc; rintro e w3 ⟨rfl, hB3⟩)
                  go_roundw
                  case rel => exact ⟨1, by omega, by simp, fun h => by omega, fun _ => HN.out, fun h => by omega, HB.out.trans (hB3.mono HB.out.size)⟩
                  case measure => simp [intOf]
            · subst hk1
              simp only [show ((1 : Nat) : Int) = 1 from rfl]
              have HEk : Hid ((1024 < tx.size → E = 3) ∧ (¬ 1024 < tx.size → rightL (bs tx) = false → E = 162) ∧ (¬ 1024 < tx.size → rightL (bs tx) = true → E = 0)) := by
                have := H.out.2.1 rfl
                unfold txtErr at this
                refine ⟨fun h1 => ?_, fun h1 h2 => ?_, fun h1 h2 => ?_⟩
                · rw [this]; simp [h1]
                · rw [this]; simp [h1, h2]
                · rw [this]; simp [h1, h2]
              by_cases hL : 1024 < tx.size
              · have iL : (1024 : Int) < tx.size := by omega
                have e3 : E = 3 := HEk.out.1 hL
                subst e3
                have HB : Hid (Below w.heap.size w wr) := H.out.2.2.2
                clear HEk H
                go_wp2_with fail
                go_ret
                exact ⟨rfl, HB.out⟩
              · have iL : ¬ (1024 : Int) < tx.size := by omega
                have iL2 : ¬ (1024 : Int) < tx.size := by omega
                cases hR : rightL (bs tx) with
                | false =>
                  have e3 : E = 162 := HEk.out.2.1 hL hR
                  subst e3
                  have hcc := hx wr
                  rw [hR] at hcc
                  have HB : Hid (Below w.heap.size w wr) := H.out.2.2.2
                  clear HEk H
                  go_wp2_with (go_at_call 95; refine hcc.mono ?_; clear hcc; rintro e w3 ⟨rfl, hB3⟩)
                  go_ret
                  exact ⟨rfl, HB.out.trans (hB3.mono HB.out.size)⟩
                | true =>
                  have HN : Hid (E = 0) := HEk.out.2.2 hL hR
                  have hcc := hx wr
                  rw [hR] at hcc
                  have HB : Hid (Below w.heap.size w wr) := H.out.2.2.2
                  clear HEk H
                  go_wp2_with (go_at_call 95; refine hcc.mono ?_; clear hcc; rintro e w3 ⟨rfl, hB3⟩)
                  go_roundw
                  case rel => exact ⟨2, by omega, by simp, fun h => by omega, fun h => by omega, fun _ => HN.out, HB.out.trans (hB3.mono HB.out.size)⟩
                  case measure => simp [intOf]
            · subst hk2
              simp only [show ((2 : Nat) : Int) = 2 from rfl]
              have e3 : E = 0 := H.out.2.2.1 rfl
              subst e3
              have HB : Hid (Below w.heap.size w wr) := H.out.2.2.2
              clear H
              go_wp2_with fail
              go_ret
              exact ⟨rfl, HB.out⟩
theorem Keeps'.box5 {W W' : World} {g : Nat} {a b c d e : Value} (h : Keeps' W W') (hb : Box5 W g a b c d e) : Box5 W' g a b c d e := h g _ _ hb (by decide)

set_option maxRecDepth 100000 in
set_option maxHeartbeats 8000000 in
theorem refCom_any (t : Int) (pa : Option Addr) (pn pc : Nat) (ps : List Int) (au : ByteArray) (d : Int) (tx : ByteArray) (w : World) (h : Com w t pa pn pc ps au d tx) :
    Calls Tryz.prog 34 #[cmt t pa pn pc au d tx] w fun e w' => ∃ v, e = .returned (.tuple #[v, .int .i64 (comErr t ps au tx)]) ∧ OwnB w.heap.size (comT t ps au d tx) v w' ∧ Below w.heap.size w w' := by
  have hB0 : Below w.heap.size w (w.alloc (.cells #[.int .u64 t, .slice pa pn pc, .string au, .int .i64 d, .string tx] 39)) := (Below.refl _ w).alloc (Nat.le_refl _) _
  have b0 := Box5.new w (.int .u64 t) (.slice pa pn pc) (.string au) (.int .i64 d) (.string tx)
  have q0 := b0.cell
  have hck := refCheckCom_any t pa pn pc ps au d tx _ (h.below hB0)
  have hll := h.par.1
  unfold comT
  by_cases h0 : comErr t ps au tx = 0
  · obtain ⟨_, hn, hau, htx⟩ := com_fits h0
    rw [if_pos h0]
    rw [h0] at hck ⊢
    obtain ⟨y, rfl⟩ := Int.eq_ofNat_of_zero_le h.tree.1
    have hyl := h.tree.2
    obtain ⟨hdu, hdl⟩ := du_eq d
    have hsn := short_len pn
    have hsa := short_len au.size
    have hsx := short_len tx.size
    have hal : au.data.toList.length = au.size := by simp
    have hpl := parsB_len ps pn (by omega)
    have hpl' : (parsB ps).length = pn * 8 := by rw [← hpl, List.take_of_length_le (by omega)]
    have hwl := owide_len
    have HF : Hid (comB y ps au d tx = [99] ++ wide y ++ short pn ++ parsB ps ++ (short au.size ++ au.data.toList) ++ wide (du d) ++ (short tx.size ++ tx.data.toList)) := by
      show _ = _
      unfold comB
      rw [hll]
      rfl
    have HC : Hid (Com w y pa pn pc ps au d tx) := h
    have hru := fun w => refUint_any pn w (by omega)
    have hra := fun w => refText_any au w (by omega)
    have hrx := fun w => refText_any tx w (by omega)
    generalize du d = D at *
    clear h hpl h0
    obtain ⟨q00, q01, q02, q03, q04⟩ := q0
    go_enter Tryz.func34, Tryz.ntmps34
    go_wp2_with first
      | (go_at_call 68; refine hck.mono ?_; clear hck; rintro e w1 ⟨rfl, hB1⟩; have b1 := (b0.kept hB1).kept ((Below.refl _ _).alloc (Nat.le_refl _) (.cells #[.int .u8 99] 5)); obtain ⟨c0, c1, c2, c3, c4⟩ := b1.cell; have hB01 : Below w.heap.size w w1 := hB0.trans (hB1.mono hB0.size); have hR1 : RO w [99] (.slice (some ⟨w1.heap.size, 0, none⟩) 1 1) (w1.alloc (.cells #[.int .u8 99] 5)) := ⟨⟨World.ownsRow_lit w1 #[.int .u8 99] 1 hB01.size (by unfold maxLen; omega) rfl⟩, hB01.alloc hB01.size _⟩; clear hB1 b0 hB0 hB01 q00 q01 q02 q03 q04)
      | (go_at_call 51; refine (refWord_any y _ (by omega)).mono ?_; rintro e w2 ⟨rfl, hy2, hB2⟩; rw [World.size_alloc] at hy2; have hR2 := hR1.below hB2; have b2 := b1.kept hB2; clear hR1 hB2 b1 c0 c1 c2 c3 c4)
      | (at_builtin; refine wpList_ro w _ rfl _ _ rfl _ [99] rfl hR2 (some ⟨_, 0, none⟩) 8 8 (wide y) rfl hy2 (fun h => by cases h) (by simp only [List.length_singleton]; omega) ?_; intro v3 w3 hR3 hK3; have b3 := hK3.box5 b2; obtain ⟨c0, c1, c2, c3, c4⟩ := b3.cell; clear hR2 hy2 hK3 b2)
      | (go_at_call 67; refine (hru _).mono ?_; clear hru; rintro e w4 ⟨v4, rfl, ho4, hB4⟩; obtain ⟨ua, uc, hv4, hun⟩ := row_shape ho4; subst hv4; have hy4 := row_bytes ho4; have hR4 := hR3.below hB4; have b4 := b3.kept hB4; clear ho4 hR3 hB4 b3 c0 c1 c2 c3 c4)
      | (at_builtin; refine wpList_ro w _ rfl _ _ rfl _ ([99] ++ wide y) rfl hR4 ua _ uc (short pn) rfl hy4 hun.2 (by simp only [List.length_append, List.length_singleton, hwl]; omega) ?_; intro v5 w5 hR5 hK5; have b5 := hK5.box5 b4; obtain ⟨c0, c1, c2, c3, c4⟩ := b5.cell; have H5 : Hid (RO w ([99] ++ wide y ++ short pn ++ parsB (ps.take 0)) v5 w5 ∧ Box5 w5 w.heap.size (.int .u64 y) (.slice pa pn pc) (.string au) (.int .i64 d) (.string tx)) := ⟨(by have e : parsB (ps.take 0) = [] := rfl; rw [e, List.append_nil]; exact hR5), b5⟩; clear hR4 hy4 hK5 hR5 b4 b5)
    go_loopw [5, 28] (fun v i wr => ∃ k : Nat, k ≤ pn ∧ i = .int .i64 (k : Int) ∧ Hid (RO w ([99] ++ wide y ++ short pn ++ parsB (ps.take k)) v wr ∧ Box5 wr w.heap.size (.int .u64 y) (.slice pa pn pc) (.string au) (.int .i64 d) (.string tx))) (fun _ i _ => pn - (intOf i).toNat)
    case atStart => exact ⟨0, Nat.zero_le _, rfl, H5.out⟩
    case round =>
      clear H5 c0 c1 c2 c3 c4
      obtain ⟨k, hk, rfl, H⟩ := hrel
      by_cases hlt : k < pn
      · obtain ⟨x, hx'⟩ : ∃ x, ps[k]? = some x := ⟨_, List.getElem?_eq_getElem (by omega)⟩
        obtain ⟨b1, o1, hpa, hc1⟩ := (HC.out.par.below H.out.1.bel).2 (by omega)
        subst hpa
        have q := hc1 k x hx'
        have hxr := HC.out.pars x (List.mem_of_getElem? hx')
        obtain ⟨z, rfl⟩ := Int.eq_ofNat_of_zero_le hxr.1
        have HT : Hid ([99] ++ wide y ++ short pn ++ parsB (ps.take (k + 1)) = [99] ++ wide y ++ short pn ++ parsB (ps.take k) ++ wide z) := by
          show _ = _
          rw [parsB_take ps k _ hx', ← List.append_assoc]
          rfl
        have hpk := parsB_len ps k (by omega)
        have i2 : (k : Int) < (pn : Int) := by omega
        have i3 : ¬ pn ≤ k := by omega
        have hR := H.out.1
        have bb := H.out.2
        clear hc1 hx' H
        go_wp2_with first
          | (go_at_call 51; refine (refWord_any z _ (by omega)).mono ?_; rintro e x6 ⟨rfl, hy6, hB6⟩; have hR6 := hR.below hB6; have b6 := bb.kept hB6; clear hR hB6 bb)
          | (at_builtin; refine wpList_ro w _ rfl _ _ rfl _ _ rfl hR6 (some ⟨_, 0, none⟩) 8 8 (wide z) rfl hy6 (fun h => by cases h) (by simp only [List.length_append, List.length_singleton, hwl]; omega) ?_; intro v7 x7 hR7 hK7; have H7 : Hid (RO w ([99] ++ wide y ++ short pn ++ parsB (ps.take (k + 1))) v7 x7 ∧ Box5 x7 w.heap.size (.int .u64 y) (.slice (some ⟨b1, o1, none⟩) pn pc) (.string au) (.int .i64 d) (.string tx)) := ⟨(by rw [HT.out]; exact hR7), hK7.box5 b6⟩; clear hR6 hy6 hR7 hK7 b6)
        go_roundw
        case rel => exact ⟨k + 1, by omega, by simp, H7.out⟩
        case measure => simp [intOf]; omega
      · obtain rfl : k = pn := by omega
        have i2 : ¬ (k : Int) < (k : Int) := by omega
        have hR := H.out.1
        rw [List.take_of_length_le (by omega)] at hR
        have bb := H.out.2
        obtain ⟨c0, c1, c2, c3, c4⟩ := bb.cell
        clear H
        go_wp2_with first
          | (go_at_call 50; refine (hra _).mono ?_; clear hra; rintro e x3 ⟨v3, rfl, ho3, hB3⟩; obtain ⟨ta, tc, hv3, htn⟩ := row_shape ho3; subst hv3; have hy3 := row_bytes ho3; have hR3 := hR.below hB3; have b3 := bb.kept hB3; clear ho3 hR bb hB3 c0 c1 c2 c3 c4)
          | (at_builtin; refine wpList_ro w _ rfl _ _ rfl _ ([99] ++ wide y ++ short k ++ parsB ps) rfl hR3 ta _ tc (short au.size ++ au.data.toList) rfl hy3 htn.2 (by simp only [List.length_append, List.length_singleton, hwl, hpl']; omega) ?_; intro v4 x4 hR4 hK4; have b4 := hK4.box5 b3; obtain ⟨c0, c1, c2, c3, c4⟩ := b4.cell; clear hR3 hy3 hK4 b3)
          | (go_at_call 51; refine (refWord_any D _ hdl).mono ?_; rintro e x6 ⟨rfl, hy6, hB6⟩; have hR6 := hR4.below hB6; have b6 := b4.kept hB6; clear hR4 hB6 b4 c0 c1 c2 c3 c4)
          | (at_builtin; refine wpList_ro w _ rfl _ _ rfl _ _ rfl hR6 (some ⟨_, 0, none⟩) 8 8 (wide D) rfl hy6 (fun h => by cases h) (by simp only [List.length_append, List.length_singleton, hwl, hpl', hal]; omega) ?_; intro v7 x7 hR7 hK7; have b7 := hK7.box5 b6; obtain ⟨d0, d1, d2, d3, d4⟩ := b7.cell; clear hR6 hy6 hK7 b6)
          | (go_at_call 50; refine (hrx _).mono ?_; clear hrx; rintro e x8 ⟨v8, rfl, ho8, hB8⟩; obtain ⟨ta8, tc8, hv8, htn8⟩ := row_shape ho8; subst hv8; have hy8 := row_bytes ho8; have hR8 := hR7.below hB8; clear ho8 hR7 hB8 b7 d0 d1 d2 d3 d4)
          | (at_builtin; refine wpList_ro w _ rfl _ _ rfl _ _ rfl hR8 ta8 _ tc8 (short tx.size ++ tx.data.toList) rfl hy8 htn8.2 (by simp only [List.length_append, List.length_singleton, hwl, hpl', hal]; omega) ?_; intro v9 x9 hR9 _; clear hR8 hy8)
        go_ret2
        exact ⟨_, rfl, by rw [HF.out]; exact hR9.own, hR9.bel⟩
  · rw [if_neg h0]
    have h0' : (comErr t ps au tx == 0) = false := beq_eq_false_iff_ne.2 h0
    generalize comErr t ps au tx = E at *
    obtain ⟨q00, q01, q02, q03, q04⟩ := q0
    go_enter Tryz.func34, Tryz.ntmps34
    go_wp2_with (go_at_call 68; refine hck.mono ?_; clear hck; rintro e w1 ⟨rfl, hB1⟩)
    go_ret2
    exact ⟨_, rfl, ⟨World.ownsRow_nil _ _ _ _⟩, hB0.trans (hB1.mono hB0.size)⟩
end Go.Proofs.YthalpnpnbclipaaGreat

/- The document's reading of a commit. -/
namespace Go.Proofs.YthalpnpnbclipaaGreat
open Go.RowKit

attribute [local go_sem] Oper.semAt_some

def parsC : Nat → List UInt8 → Bool → List Int → List Int × List UInt8 × Bool
  | 0, s, f, acc => (acc, s, f)
  | k + 1, s, f, acc => if f = true then (acc, s, f) else parsC k (wordC s false).2.1 (wordC s false).2.2 (acc ++ [(wordC s false).1])
/-- a commit, as the document reads it: its fields, what is left, whether that is wrong -/
def comC0 (s : List UInt8) : ComD × List UInt8 × Bool :=
  let t := wordC s false
  let u := numC t.2.1 t.2.2
  let p := parsC u.1.toNat u.2.1 u.2.2 []
  let a := textC p.2.1 p.2.2
  let d := wordC a.2.1 a.2.2
  let x := textC d.2.1 d.2.2
  ((t.1, p.1, a.1, wrap64 d.1, x.1), x.2.1, x.2.2)
def comC (l : List UInt8) : Option ComD :=
  if l.head? = some 99 then
    (if (comC0 (l.drop 1)).2.2 = true ∨ (comC0 (l.drop 1)).2.1 ≠ [] ∨ comErr (comC0 (l.drop 1)).1.1 (comC0 (l.drop 1)).1.2.1 (comC0 (l.drop 1)).1.2.2.1 (comC0 (l.drop 1)).1.2.2.2.2 ≠ 0 then none else some (comC0 (l.drop 1)).1)
  else none
def ComO : Option ComD → Ending → World → Prop
  | none, x, _ => x = .returned (.tuple #[cmt 0 none 0 0 ⟨#[]⟩ 0 ⟨#[]⟩, .bool false])
  | some c, x, W => ∃ ad cp, x = .returned (.tuple #[cmt c.1 ad c.2.1.length cp c.2.2.1 c.2.2.2.1 c.2.2.2.2, .bool true]) ∧ Ids W ad c.2.1.length c.2.1
theorem wordC_fits (s : List UInt8) (f : Bool) : 0 ≤ (wordC s f).1 ∧ (wordC s f).1 < 18446744073709551616 := by
  unfold wordC
  split
  · simp
  · have h1 := wideVal_lo s 8
    have h2 := wideVal_fits s 8 (by omega)
    simp only
    omega
theorem wrap64_fits (x : Int) : -9223372036854775808 ≤ wrap64 x ∧ wrap64 x < 9223372036854775808 := by unfold wrap64; omega
theorem step_wordC {ops : Array Oper} {o : Oper} {a : Act} {K : Act → World → Prop} {Q : Exit → Act → World → Prop} {E : Prop} (W : World) (q bk off cp : Nat) (s : List UInt8) (f : Bool) (h : Cu W q bk off cp s f) (hgd : o.guard = none) (x : Nat)
    (ho : o.op = .call { callee := .value (.func 91), args := #[.tmp x], argTypes := #[143] }) (hx : a.tmps[x]?.getD undef = .pointer (some ⟨q, 0, none⟩))
    (hK : ∀ w', (∃ o p, Cu w' q bk o p (wordC s f).2.1 (wordC s f).2.2) → W.grownBy w' (some q) → K (a.put o.dst (.int .u64 (wordC s f).1)) w') :
    if Region.wanted o (yielded ops a.tmps) = true then Oper.wp Tryz.prog o a W K Q else E := by
  have hw : Region.wanted o (yielded ops a.tmps) = true := by simp [Region.wanted, hgd]
  rw [if_pos hw]
  have hc := word_c W q bk off cp s f h
  generalize wordC s f = X at hc hK
  unfold Oper.wp execOp
  simp [ho, resolve, invoke, go_sem, hx]
  refine hc.mono ?_
  rintro y w' ⟨rfl, hR, hG⟩
  have := hK w' hR hG
  simpa [go_sem] using this
/-- what stands while the document reads a commit -/
structure CK (w : World) (q bk cb : Nat) (s : List UInt8) (f : Bool) (t : Int) (acc : List Int) (ad : Option Addr) (m cp : Nat) (au : ByteArray) (d : Int) (tx : ByteArray) (W : World) : Prop where
  cu : ∃ o p, Cu W q bk o p s f
  bel : Below w.heap.size w W
  rb : Box5 W w.heap.size (.int .u64 0) (.slice none 0 0) (.string ⟨#[]⟩) (.int .i64 0) (.string ⟨#[]⟩)
  box : Box5 W cb (.int .u64 t) (.slice ad m cp) (.string au) (.int .i64 d) (.string tx)
  row : W.ownsRow (cb + 1) 24 1 (.slice ad m cp) m (acc.map (Value.int .u64))
  low : cb + 1 ≤ W.heap.size
  hq : q = w.heap.size + 1
  hqc : q < cb
  hk : bk < w.heap.size
section
variable {w W W' : World} {q bk cb : Nat} {s s' : List UInt8} {f f' : Bool} {t : Int} {acc : List Int} {ad : Option Addr} {m cp : Nat} {au : ByteArray} {d : Int} {tx : ByteArray}
theorem CK.grown (h : CK w q bk cb s f t acc ad m cp au d tx W) (hg : W.grownBy W' (some q)) (hc : ∃ o p, Cu W' q bk o p s' f') : CK w q bk cb s' f' t acc ad m cp au d tx W' := by
  have h1 := h.hq
  have h2 := h.hqc
  exact ⟨hc, below_of_gr h.bel hg (by omega), (hg.block _ h.rb.lt (fun e => by have : w.heap.size = q := Option.some.inj e; omega)).trans h.rb, (hg.block _ h.box.lt (fun e => by have : cb = q := Option.some.inj e; omega)).trans h.box, own_grown h.row hg (by omega), Nat.le_trans h.low hg.size, h.hq, h.hqc, h.hk⟩
theorem CK.above (h : CK w q bk cb s f t acc ad m cp au d tx W) {acc' : List Int} {ad' : Option Addr} {m' cp' : Nat} {t' : Int} {au' : ByteArray} {d' : Int} {tx' : ByteArray} (hB : Below cb W W') (hx : Box5 W' cb (.int .u64 t') (.slice ad' m' cp') (.string au') (.int .i64 d') (.string tx')) (hr : W'.ownsRow (cb + 1) 24 1 (.slice ad' m' cp') m' (acc'.map (Value.int .u64))) : CK w q bk cb s f t' acc' ad' m' cp' au' d' tx' W' := by
  have h1 := h.hq
  have h2 := h.hqc
  have h3 := h.hk
  obtain ⟨o, p, hc⟩ := h.cu
  exact ⟨⟨o, p, hc.low (hB.mono (by omega)) (by omega)⟩, h.bel.trans (hB.mono (by omega)), (hB.block _ (by omega)).trans h.rb, hx, hr, Nat.le_trans h.low hB.size, h.hq, h.hqc, h.hk⟩
theorem CK.alloc (h : CK w q bk cb s f t acc ad m cp au d tx W) (o : Obj) : CK w q bk cb s f t acc ad m cp au d tx (W.alloc o) := by
  have := h.low
  exact h.above ((Below.refl _ _).alloc (by omega) _) (h.box.kept ((Below.refl _ _).alloc (Nat.le_refl _) _)) (h.row.alloc _)
theorem CK.drew (h : CK w q bk cb s f t acc ad m cp au d tx W) : CK w q bk cb s f t acc ad m cp au d tx W.drew := by
  obtain ⟨o, p, hc⟩ := h.cu
  exact h.grown (hg := ⟨rfl, rfl, rfl, Nat.le_refl _, fun _ _ _ => rfl⟩) ⟨o, p, ⟨hc.box, hc.by_, hc.le, hc.ne, hc.lt⟩⟩
theorem CK.set (h : CK w q bk cb s f t acc ad m cp au d tx W) (i : Nat) (v : Value) {t' : Int} {au' : ByteArray} {d' : Int} {tx' : ByteArray} (hx : Box5 (W.setCell ⟨cb, i, none⟩ v) cb (.int .u64 t') (.slice ad m cp) (.string au') (.int .i64 d') (.string tx')) : CK w q bk cb s f t' acc ad m cp au' d' tx' (W.setCell ⟨cb, i, none⟩ v) :=
  h.above ((Below.refl _ _).setCell (p := ⟨cb, i, none⟩) (Nat.le_refl _) _) hx (own_grown h.row (grownBy_setCell _ _ _ _) (by omega))
theorem CK.ob (h : CK w q bk cb s f t acc ad m cp au d tx W) : ∀ k, (Value.slice ad m cp).ownBlock = some k → cb + 1 ≤ k := fun k hk => (row_block h.row k hk).1
theorem CK.boxed (h : CK w q bk cb s f t acc ad m cp au d tx W) (hg : W.grownBy W' (Value.slice ad m cp).ownBlock) : Box5 W' cb (.int .u64 t) (.slice ad m cp) (.string au) (.int .i64 d) (.string tx) :=
  (hg.block _ h.box.lt (fun e => by have := h.ob _ e.symm; omega)).trans h.box
theorem CK.push {x : Int} {ad' : Option Addr} {cp' : Nat} (h : CK w q bk cb s f t acc ad m cp au d tx W) (ho : W'.ownsRow (cb + 1) 24 1 (.slice ad' (m + 1) cp') (m + 1) ((acc ++ [x]).map (Value.int .u64))) (hg : W.grownBy W' (Value.slice ad m cp).ownBlock) :
    CK w q bk cb s f t (acc ++ [x]) ad' (m + 1) cp' au d tx (W'.setCell ⟨cb, 1, none⟩ (.slice ad' (m + 1) cp')) := by
  have hl := h.low
  have hB : Below cb W W' := ⟨hg.os, hg.tape, hg.output, hg.size, fun k hk => hg.block k (by omega) (fun e => by have := h.ob k e.symm; omega)⟩
  refine h.above (hB.trans ((Below.refl _ _).setCell (p := ⟨cb, 1, none⟩) (Nat.le_refl _) _)) ((box_set (h.boxed hg)).2.1 _) ?_
  exact own_grown ho (grownBy_setCell _ _ _ _) (by omega)
end
end Go.Proofs.YthalpnpnbclipaaGreat
