import Derived.Test.YtdchmmdndgbllaaDoorX33
/- The walk of the document's Quote. -/
namespace Go.Proofs.YtdchmmdndgbllaaDoor
open Go.RowKit

set_option maxRecDepth 20000 in
set_option maxHeartbeats 60000000 in
theorem rquote_any (s : ByteArray) (w : World) (hs : s.size ≤ 8796093022208) :
    Calls Tryd.prog 45 #[.string s] w fun e w' => e = .returned (.string (mk (quoteL (bs s)))) ∧ Below w.heap.size w w' := by
  have hs' : s.size ≤ 9223372036854775807 := by omega
  have hsm : s.size ≤ maxLen := by unfold maxLen; omega
  have hl := bs_len s
  go_enter Tryd.func45, Tryd.ntmps45
  go_wp2
  go_loopw [3, 4] (fun v i wr => ∃ (p : Nat) (out : List UInt8), p ≤ s.size ∧ i = .int .i64 (p : Int) ∧ Own w v (34 :: out) wr ∧ Hid (qs (bs s) = out ++ qs ((bs s).drop p)) ∧ out.length ≤ 4 * p) (fun _ i _ => s.size - (intOf i).toNat)
  case atStart => exact ⟨0, [], Nat.zero_le _, rfl, own_lit w, by simp [Hid], by simp⟩
  case round =>
    obtain ⟨p, out, hp, rfl, hO, H, hol⟩ := hrel
    have hol2 : (34 :: out).length ≤ 35184372088833 := by simp only [List.length_cons]; omega
    by_cases hlt : p < s.size
    · have ilt : (p : Int) < s.size := by omega
      have hne : (bs s).drop p ≠ [] := fun e => by
        have := congrArg List.length e
        rw [List.length_drop, List.length_nil] at this; omega
      have hpc := piece_any s p wr hsm hlt
      unfold pieceV at hpc
      obtain ⟨r, hr⟩ : ∃ r, r = (dec ((bs s).drop p)).1 := ⟨_, rfl⟩
      obtain ⟨d, hd⟩ : ∃ d, d = (dec ((bs s).drop p)).2 := ⟨_, rfl⟩
      obtain ⟨b, hb⟩ : ∃ b, b = brk ((bs s).drop p) := ⟨_, rfl⟩
      rw [← hr, ← hd, ← hb] at hpc
      have hd1 : 1 ≤ d := by rw [hd]; exact dec_pos _
      have hd2 : p + d ≤ s.size := by
        have := dec_le _ hne
        rw [← hd, List.length_drop] at this; omega
      have hd4 : d ≤ 4 := by
        have : (Utf8.decode s p).2 ≤ 4 := by rw [Lib.decode_at]; unfold Lib.decodeN; repeat' split
                                             all_goals simp
        rw [decode_dec] at this; rw [hd]; exact this
      have HQ : Hid (∀ m, qpiece ((bs s).drop p) = m → qs (bs s) = (out ++ m) ++ qs ((bs s).drop (p + d)) ∧ (out ++ m).length ≤ 4 * (p + d)) := fun m hm => by
        refine ⟨by rw [H.out, qs_go _ hne, hm, ← hd, List.drop_drop, List.append_assoc], ?_⟩
        have := qpiece_len _ hne
        rw [hm, ← hd] at this
        rw [List.length_append]
        omega
      have HP : Hid (qpiece ((bs s).drop p) = if r = 34 ∨ r = 92 then [92, UInt8.ofNat r] else if r = 10 then [92, 110] else if ctl r || b then escs (((bs s).drop p).take d) else ((bs s).drop p).take d) := by
        show _ = _
        unfold qpiece
        rw [← hr, ← hb, ← hd]
      have HLow : Hid (r < 128 → ((bs s).drop p).take d = [UInt8.ofNat r] ∧ b = false) := fun h => by
        refine ⟨by rw [hd]; exact dec_byte _ hne r hr.symm h, ?_⟩
        rw [hb, brk_iff _ hne, ← hr]
        have : decide (r = 65533) = false := by simp; omega
        rw [this]; rfl
      have i5 : (p : Int) + d ≤ 9223372036854775807 := by omega
      have i6 : (p : Int) + d ≤ s.size := by omega
      have hct := fun W => rcontrol_any r W
      have HO : Hid (∀ X, Below wr.heap.size wr X → Own w u3 (34 :: out) X) := fun X hX => hO.below hX
      obtain ⟨Y, hY⟩ : ∃ Y, Y = ((bs s).drop p).take d := ⟨_, rfl⟩
      have hYl : Y.length = d := by rw [hY, List.length_take, List.length_drop]; omega
      have HY : Hid (∀ j, j < d → ∀ h : p + j < s.size, s[p + j]'h = Y.getD j 0) := fun j hj h => by
        have e : (((bs s).drop p).take d).getD j 0 = (bs s).getD (p + j) 0 := by rw [List.getD_eq_getElem?_getD, List.getElem?_take_of_lt hj, List.getElem?_drop, ← List.getD_eq_getElem?_getD]
        rw [at_bs, hY, e]
      rw [← hY] at HP HLow
      clear hr hd hb hne H hO hY
      by_cases h10 : r = 10
      · have HE : Hid (qpiece ((bs s).drop p) = [92, 110]) := by show _ = _; rw [HP.out, if_neg (by omega), if_pos h10]
        subst h10
        simp only [show ((10 : Nat) : Int) = 10 from rfl] at hpc
        clear HP HY HLow
        go_wp2_with first
          | (go_at_call 57; refine hpc.mono ?_; clear hpc; rintro e w3 ⟨rfl, hB3⟩)
          | (at_builtin; refine wpList_app _ w.heap.size (by have := (HO.out _ hB3).size; simp; omega) rfl _ _ rfl u3 (34 :: out).length _ rfl ((HO.out _ hB3).alloc _).row (some ⟨_, 0, none⟩) 2 2 [92, 110] rfl (bytes_new _ [92, 110] _ rfl) (fun h => by cases h) (by omega) ?_; intro v' w4 hown4 hgr4 hat4)
        have HF : Hid (Own w v' (34 :: (out ++ [92, 110])) w4) := ((HO.out _ hB3).alloc _).grown hgr4 rfl hown4
        clear hown4 hgr4 hat4 HO
        go_wp2
        go_roundw
        case rel => exact ⟨p + d, out ++ [92, 110], hd2, by go_num, HF.out, (HQ.out _ HE.out).1, (HQ.out _ HE.out).2⟩
        case measure => simp [intOf]; omega
      · have c10 : ((r : Int) == 10) = false := beq_eq_false_iff_ne.2 (by omega)
        by_cases hcb : (b || ctl r) = true
        · have HE : Hid (qpiece ((bs s).drop p) = escs Y) := by
            show _ = _
            have hA : ¬ (r = 34 ∨ r = 92) := by
              intro hA
              have h1 := (HLow.out (by omega)).2
              rw [h1] at hcb
              rcases hA with rfl | rfl <;> cases hcb
            rw [HP.out, if_neg hA, if_neg h10, if_pos (by rw [Bool.or_comm]; exact hcb)]
          have HCT : Hid (b = false → ctl r = true) := fun h => by rw [h] at hcb; exact hcb
          clear HP HLow hcb
          cases b with
          | true =>
            clear HCT
            go_wp2_with (go_at_call 57; refine hpc.mono ?_; clear hpc; rintro e w3 ⟨rfl, hB3⟩)
            go_loopw [3, 8] (fun v i W => ∃ j P : Nat, j ≤ d ∧ Hid (P = p + j) ∧ P ≤ s.size ∧ i = .int .i64 (P : Int) ∧ Own w v (34 :: (out ++ escs (Y.take j))) W) (fun _ i _ => s.size - (intOf i).toNat)
            case atStart => exact ⟨0, p, by omega, rfl, hp, rfl, by simpa [escs] using HO.out _ hB3⟩
            case round =>
              obtain ⟨j, P, hj, HPj, hPs, rfl, hO2⟩ := hrel
              by_cases hjd : j < d
              · have hP : P < s.size := by have := HPj.out; omega
                obtain ⟨z, hz⟩ : ∃ z, z = Y.getD j 0 := ⟨_, rfl⟩
                have hat : s[P]'hP = z := by
                  have e := HPj.out
                  subst e
                  rw [hz]; exact HY.out j hjd hP
                have iP : (P : Int) < s.size := by omega
                have iP2 : (P : Int) < (p : Int) + d := by have := HPj.out; omega
                have iP3 : (P : Int) + 1 ≤ 9223372036854775807 := by omega
                have hYj : j < Y.length := by omega
                have HZ : Hid (z = Y.getD j 0) := hz
                have HO2 : Hid (Own w u3 (34 :: (out ++ escs (Y.take j))) wr) := hO2
                have hAl : (34 :: (out ++ escs (Y.take j))).length ≤ 35184372088833 + 20 := by rw [List.length_cons, List.length_append, escs_len, List.length_take]; simp only [List.length_cons] at hol2; omega
                have hsz := hO2.size
                clear hO2 hz
                obtain ⟨q, hqz⟩ : ∃ q, q = z.toNat := ⟨_, rfl⟩
                have hq2 : q < 256 := by rw [hqz]; exact UInt8.toNat_lt _
                obtain ⟨lo, hlo⟩ : ∃ lo, lo = q % 16 := ⟨_, rfl⟩
                obtain ⟨hi, hhi⟩ : ∃ hi, hi = q / 16 := ⟨_, rfl⟩
                have hdiv : (q : Int) / 16 = (hi : Int) := by omega
                have hmod : (q : Int) % 16 = (lo : Int) := by omega
                have hmod2 : (q : Int).tmod 16 = (lo : Int) := by rw [Int.tmod_eq_emod_of_nonneg (by omega)]; omega
                have hl1 : lo < 16 := by omega
                have hh1 : hi < 16 := by omega
                have hh2 : (hi : Int) < 16 := by omega
                have hl2 : (lo : Int) < 16 := by omega
                have HH : Hid (hi = z.toNat / 16 ∧ lo = z.toNat % 16) := ⟨by rw [← hqz]; exact hhi, by rw [← hqz]; exact hlo⟩
                have hzq : (z.toNat : Int) = (q : Int) := by rw [hqz]
                clear hqz hlo hhi
                go_wp2
                have hmx : Tryd.prog.follows .mixedOrders = true := by kernel_rfl
                refine wp_region_G (S := SB 1000 (fun _ => True) (fun _ => True)) hmx ?_
                refine wpAnyG_takeP (i := 0) (v := ?_) rfl (by kernel_rfl) (by kernel_rfl) (by kernel_rfl) (fun _ _ _ h => h) rfl (Or.inl ⟨by rfl, ?_⟩) (SB.off (by kernel_rfl) trivial) ?_
                rotate_left
                · intro Y hY; go_simp; try with_reducible rfl
                intro hSB0
                simp only [Act.put, List.getElem_toArray, List.getElem_cons_zero, List.setIfInBounds_toArray, List.set_cons_zero, List.set_cons_succ]
                refine wpAnyG_takeP (i := 1) (v := ?_) rfl (by kernel_rfl) (by kernel_rfl) (by kernel_rfl) (fun _ _ _ h => h) rfl (Or.inl ⟨by rfl, ?_⟩) (by assumption) ?_
                rotate_left
                · intro Y hY; go_simp; try with_reducible rfl
                intro hSB1
                simp only [Act.put, List.getElem_toArray, List.getElem_cons_zero, List.getElem_cons_succ, List.setIfInBounds_toArray, List.set_cons_zero, List.set_cons_succ]
                refine wpAnyG_takeP (i := 2) (v := ?_) rfl (by kernel_rfl) (by kernel_rfl) (by kernel_rfl) (fun _ _ _ h => h) rfl (Or.inl ⟨by rfl, ?_⟩) (by assumption) ?_
                rotate_left
                · intro Y hY; go_simp; try with_reducible rfl
                intro hSB2
                simp only [Act.put, List.getElem_toArray, List.getElem_cons_zero, List.getElem_cons_succ, List.setIfInBounds_toArray, List.set_cons_zero, List.set_cons_succ]
                refine wpAnyG_takeP (i := 3) (v := ?_) rfl (by kernel_rfl) (by kernel_rfl) (by kernel_rfl) (fun _ _ _ h => h) rfl (Or.inl ⟨by rfl, ?_⟩) (by assumption) ?_
                rotate_left
                · intro Y hY; go_simp; try with_reducible rfl
                intro hSB3
                simp only [Act.put, List.getElem_toArray, List.getElem_cons_zero, List.getElem_cons_succ, List.setIfInBounds_toArray, List.set_cons_zero, List.set_cons_succ]
                refine wpAnyG_takeP (i := 4) (v := ?_) rfl (by kernel_rfl) (by kernel_rfl) (by kernel_rfl) (fun _ _ _ h => h) rfl (Or.inl ⟨by rfl, ?_⟩) (by assumption) ?_
                rotate_left
                · intro Y hY; go_simp; try with_reducible rfl
                intro hSB4
                simp only [Act.put, List.getElem_toArray, List.getElem_cons_zero, List.getElem_cons_succ, List.setIfInBounds_toArray, List.set_cons_zero, List.set_cons_succ]
                refine wpAnyG_takeP (i := 6) (v := ?_) rfl (by kernel_rfl) (by kernel_rfl) (by kernel_rfl) (fun _ _ _ h => h) rfl (Or.inl ⟨by rfl, ?_⟩) (by assumption) ?_
                rotate_left
                · intro Y hY; go_simp; try with_reducible rfl
                intro hSB6
                simp only [Act.put, List.getElem_toArray, List.getElem_cons_zero, List.getElem_cons_succ, List.setIfInBounds_toArray, List.set_cons_zero, List.set_cons_succ]
                refine wpAnyG_takeP (i := 7) (v := ?_) rfl (by kernel_rfl) (by kernel_rfl) (by kernel_rfl) (fun _ _ _ h => h) rfl (Or.inl ⟨by rfl, ?_⟩) (by assumption) ?_
                rotate_left
                · intro Y hY; go_simp; try with_reducible rfl
                intro hSB7
                simp only [Act.put, List.getElem_toArray, List.getElem_cons_zero, List.getElem_cons_succ, List.setIfInBounds_toArray, List.set_cons_zero, List.set_cons_succ]
                refine wpAnyG_takeP (i := 8) (v := ?_) rfl (by kernel_rfl) (by kernel_rfl) (by kernel_rfl) (fun _ _ _ h => h) rfl (Or.inl ⟨by rfl, ?_⟩) (by assumption) ?_
                rotate_left
                · intro Y hY; go_simp; try with_reducible rfl
                intro hSB8
                simp only [Act.put, List.getElem_toArray, List.getElem_cons_zero, List.getElem_cons_succ, List.setIfInBounds_toArray, List.set_cons_zero, List.set_cons_succ]
                refine wpAnyG_takeP (i := 9) (v := ?_) rfl (by kernel_rfl) (by kernel_rfl) (by kernel_rfl) (fun _ _ _ h => h) rfl (Or.inl ⟨by rfl, ?_⟩) (by assumption) ?_
                rotate_left
                · intro Y hY; go_simp; try with_reducible rfl
                intro hSB9
                simp only [Act.put, List.getElem_toArray, List.getElem_cons_zero, List.getElem_cons_succ, List.setIfInBounds_toArray, List.set_cons_zero, List.set_cons_succ]
                refine wpAnyG_one (i := 5) (by kernel_rfl) rfl (fun K hK => ?_)
                refine step_hex _ (by rfl) _ _ (by rfl) _ (by rfl) hi hh1 (by first | exact .inl rfl | exact .inr rfl) ?_
                refine hK.out _ _ (SB.off (by kernel_rfl) trivial) (fun hSB5 => ?_)
                clear hK K
                simp only [Act.put, List.getElem_toArray, List.getElem_cons_zero, List.getElem_cons_succ, List.setIfInBounds_toArray, List.set_cons_zero, List.set_cons_succ]
                refine wpAnyG_one (i := 10) (by kernel_rfl) rfl (fun K hK => ?_)
                refine step_hex _ (by rfl) _ _ (by rfl) _ (by rfl) lo hl1 (by first | exact .inl rfl | exact .inr rfl) ?_
                refine hK.out _ _ (SB.off (by kernel_rfl) trivial) (fun hSB10 => ?_)
                clear hK K
                simp only [Act.put, List.getElem_toArray, List.getElem_cons_zero, List.getElem_cons_succ, List.setIfInBounds_toArray, List.set_cons_zero, List.set_cons_succ]
                refine wpAnyG_one (i := 11) (by kernel_rfl) rfl (fun K hK => ?_)
                go_simp
                refine hK.out _ _ (SB.off (by kernel_rfl) trivial) (fun hSB11 => ?_)
                clear hK K
                refine wpAnyG_one (i := 12) (by kernel_rfl) rfl (fun K hK => ?_)
                refine step_app _ w.heap.size (by simp; omega) (by rfl) _ _ (by rfl) u3 (34 :: (out ++ escs (Y.take j))).length _ (by rfl) (HO2.out.row.drew.alloc _) (some ⟨_, 0, none⟩) 4 4 (esc z) (by rfl) (bytes_new _ _ _ (esc_cells2 _ hi lo HH.out.1 HH.out.2)) (fun h => by cases h) (by omega) ?_
                intro v' w3' hown3 hgr3 hat3
                refine hK.out _ _ (SB.off (by kernel_rfl) trivial) (fun hSB12 => ?_)
                clear hK K
                simp only [Act.put, List.getElem_toArray, List.getElem_cons_zero, List.getElem_cons_succ, List.setIfInBounds_toArray, List.set_cons_zero, List.set_cons_succ]
                refine wpAnyG_takeP (i := 13) (v := ?_) rfl (by kernel_rfl) (by kernel_rfl) (by kernel_rfl) (fun _ _ _ h => h) rfl (Or.inl ⟨by rfl, ?_⟩) (by assumption) ?_
                rotate_left
                · intro Y hY; go_simp; try with_reducible rfl
                intro hSB13
                simp only [Act.put, List.getElem_toArray, List.getElem_cons_zero, List.getElem_cons_succ, List.setIfInBounds_toArray, List.set_cons_zero, List.set_cons_succ]
                refine wpAnyG_done (by kernel_rfl) ?_ _
                have HF : Hid (Own w v' (34 :: (out ++ escs (Y.take (j + 1)))) w3') := by
                  have h1 := ((HO2.out.alloc _).drew).grown (m := esc z) hgr3 rfl hown3
                  show Own w v' (34 :: (out ++ escs (Y.take (j + 1)))) w3'
                  rw [take_more Y j hYj, ← HZ.out, escs_snoc]
                  simpa using h1
                clear hown3 hgr3 hat3 HO2 hSB0 hSB1 hSB2 hSB3 hSB4 hSB5 hSB6 hSB7 hSB8 hSB9 hSB10 hSB11 hSB12 hSB13
                go_wp2
                go_roundw
                case rel => exact ⟨j + 1, P + 1, by omega, by have := HPj.out; show _ = _; omega, by omega, by go_num, HF.out⟩
                case measure => simp [intOf]; omega
              · obtain rfl : j = d := by omega
                have iP2 : ¬ (P : Int) < (p : Int) + j := by have := HPj.out; omega
                have HF : Hid (Own w u3 (34 :: (out ++ escs Y)) wr) := by
                  have h := hO2
                  rw [show Y.take j = Y by rw [← hYl]; exact List.take_length] at h
                  exact h
                clear hO2
                go_wp2
                go_roundw
                case rel => exact ⟨p + j, out ++ escs Y, hd2, by go_num, HF.out, (HQ.out _ HE.out).1, (HQ.out _ HE.out).2⟩
                case measure => simp [intOf]; omega
          | false =>
            have hcr := HCT.out rfl
            rw [hcr] at hct
            clear HCT
            go_wp2_with first
              | (go_at_call 57; refine hpc.mono ?_; clear hpc; rintro e w3 ⟨rfl, hB3⟩)
              | (go_at_call 58; refine (hct _).mono ?_; rintro e w' ⟨rfl, rfl⟩)
            go_loopw [3, 8] (fun v i W => ∃ j P : Nat, j ≤ d ∧ Hid (P = p + j) ∧ P ≤ s.size ∧ i = .int .i64 (P : Int) ∧ Own w v (34 :: (out ++ escs (Y.take j))) W) (fun _ i _ => s.size - (intOf i).toNat)
            case atStart => exact ⟨0, p, by omega, rfl, hp, rfl, by simpa [escs] using HO.out _ hB3⟩
            case round =>
              obtain ⟨j, P, hj, HPj, hPs, rfl, hO2⟩ := hrel
              by_cases hjd : j < d
              · have hP : P < s.size := by have := HPj.out; omega
                obtain ⟨z, hz⟩ : ∃ z, z = Y.getD j 0 := ⟨_, rfl⟩
                have hat : s[P]'hP = z := by
                  have e := HPj.out
                  subst e
                  rw [hz]; exact HY.out j hjd hP
                have iP : (P : Int) < s.size := by omega
                have iP2 : (P : Int) < (p : Int) + d := by have := HPj.out; omega
                have iP3 : (P : Int) + 1 ≤ 9223372036854775807 := by omega
                have hYj : j < Y.length := by omega
                have HZ : Hid (z = Y.getD j 0) := hz
                have HO2 : Hid (Own w u3 (34 :: (out ++ escs (Y.take j))) wr) := hO2
                have hAl : (34 :: (out ++ escs (Y.take j))).length ≤ 35184372088833 + 20 := by rw [List.length_cons, List.length_append, escs_len, List.length_take]; simp only [List.length_cons] at hol2; omega
                have hsz := hO2.size
                clear hO2 hz
                obtain ⟨q, hqz⟩ : ∃ q, q = z.toNat := ⟨_, rfl⟩
                have hq2 : q < 256 := by rw [hqz]; exact UInt8.toNat_lt _
                obtain ⟨lo, hlo⟩ : ∃ lo, lo = q % 16 := ⟨_, rfl⟩
                obtain ⟨hi, hhi⟩ : ∃ hi, hi = q / 16 := ⟨_, rfl⟩
                have hdiv : (q : Int) / 16 = (hi : Int) := by omega
                have hmod : (q : Int) % 16 = (lo : Int) := by omega
                have hmod2 : (q : Int).tmod 16 = (lo : Int) := by rw [Int.tmod_eq_emod_of_nonneg (by omega)]; omega
                have hl1 : lo < 16 := by omega
                have hh1 : hi < 16 := by omega
                have hh2 : (hi : Int) < 16 := by omega
                have hl2 : (lo : Int) < 16 := by omega
                have HH : Hid (hi = z.toNat / 16 ∧ lo = z.toNat % 16) := ⟨by rw [← hqz]; exact hhi, by rw [← hqz]; exact hlo⟩
                have hzq : (z.toNat : Int) = (q : Int) := by rw [hqz]
                clear hqz hlo hhi
                go_wp2
                have hmx : Tryd.prog.follows .mixedOrders = true := by kernel_rfl
                refine wp_region_G (S := SB 1000 (fun _ => True) (fun _ => True)) hmx ?_
                refine wpAnyG_takeP (i := 0) (v := ?_) rfl (by kernel_rfl) (by kernel_rfl) (by kernel_rfl) (fun _ _ _ h => h) rfl (Or.inl ⟨by rfl, ?_⟩) (SB.off (by kernel_rfl) trivial) ?_
                rotate_left
                · intro Y hY; go_simp; try with_reducible rfl
                intro hSB0
                simp only [Act.put, List.getElem_toArray, List.getElem_cons_zero, List.setIfInBounds_toArray, List.set_cons_zero, List.set_cons_succ]
                refine wpAnyG_takeP (i := 1) (v := ?_) rfl (by kernel_rfl) (by kernel_rfl) (by kernel_rfl) (fun _ _ _ h => h) rfl (Or.inl ⟨by rfl, ?_⟩) (by assumption) ?_
                rotate_left
                · intro Y hY; go_simp; try with_reducible rfl
                intro hSB1
                simp only [Act.put, List.getElem_toArray, List.getElem_cons_zero, List.getElem_cons_succ, List.setIfInBounds_toArray, List.set_cons_zero, List.set_cons_succ]
                refine wpAnyG_takeP (i := 2) (v := ?_) rfl (by kernel_rfl) (by kernel_rfl) (by kernel_rfl) (fun _ _ _ h => h) rfl (Or.inl ⟨by rfl, ?_⟩) (by assumption) ?_
                rotate_left
                · intro Y hY; go_simp; try with_reducible rfl
                intro hSB2
                simp only [Act.put, List.getElem_toArray, List.getElem_cons_zero, List.getElem_cons_succ, List.setIfInBounds_toArray, List.set_cons_zero, List.set_cons_succ]
                refine wpAnyG_takeP (i := 3) (v := ?_) rfl (by kernel_rfl) (by kernel_rfl) (by kernel_rfl) (fun _ _ _ h => h) rfl (Or.inl ⟨by rfl, ?_⟩) (by assumption) ?_
                rotate_left
                · intro Y hY; go_simp; try with_reducible rfl
                intro hSB3
                simp only [Act.put, List.getElem_toArray, List.getElem_cons_zero, List.getElem_cons_succ, List.setIfInBounds_toArray, List.set_cons_zero, List.set_cons_succ]
                refine wpAnyG_takeP (i := 4) (v := ?_) rfl (by kernel_rfl) (by kernel_rfl) (by kernel_rfl) (fun _ _ _ h => h) rfl (Or.inl ⟨by rfl, ?_⟩) (by assumption) ?_
                rotate_left
                · intro Y hY; go_simp; try with_reducible rfl
                intro hSB4
                simp only [Act.put, List.getElem_toArray, List.getElem_cons_zero, List.getElem_cons_succ, List.setIfInBounds_toArray, List.set_cons_zero, List.set_cons_succ]
                refine wpAnyG_takeP (i := 6) (v := ?_) rfl (by kernel_rfl) (by kernel_rfl) (by kernel_rfl) (fun _ _ _ h => h) rfl (Or.inl ⟨by rfl, ?_⟩) (by assumption) ?_
                rotate_left
                · intro Y hY; go_simp; try with_reducible rfl
                intro hSB6
                simp only [Act.put, List.getElem_toArray, List.getElem_cons_zero, List.getElem_cons_succ, List.setIfInBounds_toArray, List.set_cons_zero, List.set_cons_succ]
                refine wpAnyG_takeP (i := 7) (v := ?_) rfl (by kernel_rfl) (by kernel_rfl) (by kernel_rfl) (fun _ _ _ h => h) rfl (Or.inl ⟨by rfl, ?_⟩) (by assumption) ?_
                rotate_left
                · intro Y hY; go_simp; try with_reducible rfl
                intro hSB7
                simp only [Act.put, List.getElem_toArray, List.getElem_cons_zero, List.getElem_cons_succ, List.setIfInBounds_toArray, List.set_cons_zero, List.set_cons_succ]
                refine wpAnyG_takeP (i := 8) (v := ?_) rfl (by kernel_rfl) (by kernel_rfl) (by kernel_rfl) (fun _ _ _ h => h) rfl (Or.inl ⟨by rfl, ?_⟩) (by assumption) ?_
                rotate_left
                · intro Y hY; go_simp; try with_reducible rfl
                intro hSB8
                simp only [Act.put, List.getElem_toArray, List.getElem_cons_zero, List.getElem_cons_succ, List.setIfInBounds_toArray, List.set_cons_zero, List.set_cons_succ]
                refine wpAnyG_takeP (i := 9) (v := ?_) rfl (by kernel_rfl) (by kernel_rfl) (by kernel_rfl) (fun _ _ _ h => h) rfl (Or.inl ⟨by rfl, ?_⟩) (by assumption) ?_
                rotate_left
                · intro Y hY; go_simp; try with_reducible rfl
                intro hSB9
                simp only [Act.put, List.getElem_toArray, List.getElem_cons_zero, List.getElem_cons_succ, List.setIfInBounds_toArray, List.set_cons_zero, List.set_cons_succ]
                refine wpAnyG_one (i := 5) (by kernel_rfl) rfl (fun K hK => ?_)
                refine step_hex _ (by rfl) _ _ (by rfl) _ (by rfl) hi hh1 (by first | exact .inl rfl | exact .inr rfl) ?_
                refine hK.out _ _ (SB.off (by kernel_rfl) trivial) (fun hSB5 => ?_)
                clear hK K
                simp only [Act.put, List.getElem_toArray, List.getElem_cons_zero, List.getElem_cons_succ, List.setIfInBounds_toArray, List.set_cons_zero, List.set_cons_succ]
                refine wpAnyG_one (i := 10) (by kernel_rfl) rfl (fun K hK => ?_)
                refine step_hex _ (by rfl) _ _ (by rfl) _ (by rfl) lo hl1 (by first | exact .inl rfl | exact .inr rfl) ?_
                refine hK.out _ _ (SB.off (by kernel_rfl) trivial) (fun hSB10 => ?_)
                clear hK K
                simp only [Act.put, List.getElem_toArray, List.getElem_cons_zero, List.getElem_cons_succ, List.setIfInBounds_toArray, List.set_cons_zero, List.set_cons_succ]
                refine wpAnyG_one (i := 11) (by kernel_rfl) rfl (fun K hK => ?_)
                go_simp
                refine hK.out _ _ (SB.off (by kernel_rfl) trivial) (fun hSB11 => ?_)
                clear hK K
                refine wpAnyG_one (i := 12) (by kernel_rfl) rfl (fun K hK => ?_)
                refine step_app _ w.heap.size (by simp; omega) (by rfl) _ _ (by rfl) u3 (34 :: (out ++ escs (Y.take j))).length _ (by rfl) (HO2.out.row.drew.alloc _) (some ⟨_, 0, none⟩) 4 4 (esc z) (by rfl) (bytes_new _ _ _ (esc_cells2 _ hi lo HH.out.1 HH.out.2)) (fun h => by cases h) (by omega) ?_
                intro v' w3' hown3 hgr3 hat3
                refine hK.out _ _ (SB.off (by kernel_rfl) trivial) (fun hSB12 => ?_)
                clear hK K
                simp only [Act.put, List.getElem_toArray, List.getElem_cons_zero, List.getElem_cons_succ, List.setIfInBounds_toArray, List.set_cons_zero, List.set_cons_succ]
                refine wpAnyG_takeP (i := 13) (v := ?_) rfl (by kernel_rfl) (by kernel_rfl) (by kernel_rfl) (fun _ _ _ h => h) rfl (Or.inl ⟨by rfl, ?_⟩) (by assumption) ?_
                rotate_left
                · intro Y hY; go_simp; try with_reducible rfl
                intro hSB13
                simp only [Act.put, List.getElem_toArray, List.getElem_cons_zero, List.getElem_cons_succ, List.setIfInBounds_toArray, List.set_cons_zero, List.set_cons_succ]
                refine wpAnyG_done (by kernel_rfl) ?_ _
                have HF : Hid (Own w v' (34 :: (out ++ escs (Y.take (j + 1)))) w3') := by
                  have h1 := ((HO2.out.alloc _).drew).grown (m := esc z) hgr3 rfl hown3
                  show Own w v' (34 :: (out ++ escs (Y.take (j + 1)))) w3'
                  rw [take_more Y j hYj, ← HZ.out, escs_snoc]
                  simpa using h1
                clear hown3 hgr3 hat3 HO2 hSB0 hSB1 hSB2 hSB3 hSB4 hSB5 hSB6 hSB7 hSB8 hSB9 hSB10 hSB11 hSB12 hSB13
                go_wp2
                go_roundw
                case rel => exact ⟨j + 1, P + 1, by omega, by have := HPj.out; show _ = _; omega, by omega, by go_num, HF.out⟩
                case measure => simp [intOf]; omega
              · obtain rfl : j = d := by omega
                have iP2 : ¬ (P : Int) < (p : Int) + j := by have := HPj.out; omega
                have HF : Hid (Own w u3 (34 :: (out ++ escs Y)) wr) := by
                  have h := hO2
                  rw [show Y.take j = Y by rw [← hYl]; exact List.take_length] at h
                  exact h
                clear hO2
                go_wp2
                go_roundw
                case rel => exact ⟨p + j, out ++ escs Y, hd2, by go_num, HF.out, (HQ.out _ HE.out).1, (HQ.out _ HE.out).2⟩
                case measure => simp [intOf]; omega
        · have hb0 : b = false := by cases b <;> simp_all
          have hc0 : ctl r = false := by rw [hb0] at hcb; simpa using hcb
          subst hb0
          rw [hc0] at hct
          by_cases hA : r = 34 ∨ r = 92
          · have hYr := (HLow.out (by omega)).1
            have HE : Hid (qpiece ((bs s).drop p) = [92] ++ Y) := by
              show _ = _
              rw [HP.out, if_pos hA, hYr]; rfl
            clear HP HLow hYr
            rcases hA with rfl | rfl
            all_goals
              simp only [show ((34 : Nat) : Int) = 34 from rfl, show ((92 : Nat) : Int) = 92 from rfl] at hpc hct
              go_wp2_with first
                | (go_at_call 57; refine hpc.mono ?_; clear hpc; rintro e w3 ⟨rfl, hB3⟩)
                | (go_at_call 58; refine (hct _).mono ?_; rintro e w' ⟨rfl, rfl⟩)
                | (at_builtin; refine wpList_app _ w.heap.size (by have := (HO.out _ hB3).size; simp; omega) rfl _ _ rfl u3 (34 :: out).length _ rfl ((HO.out _ hB3).alloc _).row (some ⟨_, 0, none⟩) 1 1 [92] rfl (bytes_new _ [92] _ rfl) (fun h => by cases h) (by omega) ?_; intro v' w4 hown4 hgr4 hat4)
              have HF0 : Hid (Own w v' (34 :: (out ++ [92])) w4) := ((HO.out _ hB3).alloc _).grown hgr4 rfl hown4
              clear hown4 hgr4 hat4 HO
              go_wp2
              go_loopw [3, 9] (fun v i W => ∃ j P : Nat, j ≤ d ∧ Hid (P = p + j) ∧ P ≤ s.size ∧ i = .int .i64 (P : Int) ∧ Own w v (34 :: (out ++ [92] ++ Y.take j)) W) (fun _ i _ => s.size - (intOf i).toNat)
              case atStart => exact ⟨0, p, by omega, rfl, hp, rfl, by simpa using HF0.out⟩
              case round =>
                obtain ⟨j, P, hj, HPj, hPs, rfl, hO2⟩ := hrel
                by_cases hjd : j < d
                · have hP : P < s.size := by have := HPj.out; omega
                  obtain ⟨z, hz⟩ : ∃ z, z = Y.getD j 0 := ⟨_, rfl⟩
                  have hat : s[P]'hP = z := by
                    have e := HPj.out
                    subst e
                    rw [hz]; exact HY.out j hjd hP
                  have iP : (P : Int) < s.size := by omega
                  have iP2 : (P : Int) < (p : Int) + d := by have := HPj.out; omega
                  have iP3 : (P : Int) + 1 ≤ 9223372036854775807 := by omega
                  have hYj : j < Y.length := by omega
                  have HZ : Hid (z = Y.getD j 0) := hz
                  have HO2 : Hid (Own w u3 (34 :: (out ++ [92] ++ Y.take j)) wr) := hO2
                  have hAl : (34 :: (out ++ [92] ++ Y.take j)).length ≤ 35184372088833 + 20 := by simp only [List.length_cons, List.length_append, List.length_take] at hol2 ⊢; simp; omega
                  have hsz := hO2.size
                  clear hO2 hz
                  go_wp2_with (at_builtin; refine wpList_app _ w.heap.size (by simp; omega) rfl _ _ rfl u3 (34 :: (out ++ [92] ++ Y.take j)).length _ rfl (HO2.out.alloc _).row (some ⟨_, 0, none⟩) 1 1 [z] rfl (bytes_new _ [z] _ rfl) (fun h => by cases h) (by omega) ?_; intro v' w4 hown4 hgr4 hat4)
                  have HF : Hid (Own w v' (34 :: (out ++ [92] ++ Y.take (j + 1))) w4) := by
                    have h1 := (HO2.out.alloc _).grown hgr4 rfl hown4
                    show Own w v' (34 :: (out ++ [92] ++ Y.take (j + 1))) w4
                    rw [take_more Y j hYj, ← HZ.out]
                    simpa using h1
                  clear hown4 hgr4 hat4 HO2
                  go_wp2
                  go_roundw
                  case rel => exact ⟨j + 1, P + 1, by omega, by have := HPj.out; show _ = _; omega, by omega, by go_num, HF.out⟩
                  case measure => simp [intOf]; omega
                · obtain rfl : j = d := by omega
                  have iP2 : ¬ (P : Int) < (p : Int) + j := by have := HPj.out; omega
                  have HF : Hid (Own w u3 (34 :: (out ++ ([92] ++ Y))) wr) := by
                    have h := hO2
                    rw [show Y.take j = Y by rw [← hYl]; exact List.take_length, List.append_assoc] at h
                    exact h
                  clear hO2
                  go_wp2
                  go_roundw
                  case rel => exact ⟨p + j, out ++ ([92] ++ Y), hd2, by go_num, HF.out, (HQ.out _ HE.out).1, (HQ.out _ HE.out).2⟩
                  case measure => simp [intOf]; omega
          · have c34 : ((r : Int) == 34) = false := beq_eq_false_iff_ne.2 (by omega)
            have c92 : ((r : Int) == 92) = false := beq_eq_false_iff_ne.2 (by omega)
            have HE : Hid (qpiece ((bs s).drop p) = Y) := by
              show _ = _
              rw [HP.out, if_neg hA, if_neg h10, hc0]; rfl
            clear HP HLow
            go_wp2_with first
              | (go_at_call 57; refine hpc.mono ?_; clear hpc; rintro e w3 ⟨rfl, hB3⟩)
              | (go_at_call 58; refine (hct _).mono ?_; rintro e w' ⟨rfl, rfl⟩)
            go_loopw [3, 9] (fun v i W => ∃ j P : Nat, j ≤ d ∧ Hid (P = p + j) ∧ P ≤ s.size ∧ i = .int .i64 (P : Int) ∧ Own w v (34 :: (out ++ Y.take j)) W) (fun _ i _ => s.size - (intOf i).toNat)
            case atStart => exact ⟨0, p, by omega, rfl, hp, rfl, by simpa using HO.out _ hB3⟩
            case round =>
              obtain ⟨j, P, hj, HPj, hPs, rfl, hO2⟩ := hrel
              by_cases hjd : j < d
              · have hP : P < s.size := by have := HPj.out; omega
                obtain ⟨z, hz⟩ : ∃ z, z = Y.getD j 0 := ⟨_, rfl⟩
                have hat : s[P]'hP = z := by
                  have e := HPj.out
                  subst e
                  rw [hz]; exact HY.out j hjd hP
                have iP : (P : Int) < s.size := by omega
                have iP2 : (P : Int) < (p : Int) + d := by have := HPj.out; omega
                have iP3 : (P : Int) + 1 ≤ 9223372036854775807 := by omega
                have hYj : j < Y.length := by omega
                have HZ : Hid (z = Y.getD j 0) := hz
                have HO2 : Hid (Own w u3 (34 :: (out ++ Y.take j)) wr) := hO2
                have hAl : (34 :: (out ++ Y.take j)).length ≤ 35184372088833 + 20 := by simp only [List.length_cons, List.length_append, List.length_take] at hol2 ⊢; omega
                have hsz := hO2.size
                clear hO2 hz
                go_wp2_with (at_builtin; refine wpList_app _ w.heap.size (by simp; omega) rfl _ _ rfl u3 (34 :: (out ++ Y.take j)).length _ rfl (HO2.out.alloc _).row (some ⟨_, 0, none⟩) 1 1 [z] rfl (bytes_new _ [z] _ rfl) (fun h => by cases h) (by omega) ?_; intro v' w4 hown4 hgr4 hat4)
                have HF : Hid (Own w v' (34 :: (out ++ Y.take (j + 1))) w4) := by
                  have h1 := (HO2.out.alloc _).grown hgr4 rfl hown4
                  show Own w v' (34 :: (out ++ Y.take (j + 1))) w4
                  rw [take_more Y j hYj, ← HZ.out]
                  simpa using h1
                clear hown4 hgr4 hat4 HO2
                go_wp2
                go_roundw
                case rel => exact ⟨j + 1, P + 1, by omega, by have := HPj.out; show _ = _; omega, by omega, by go_num, HF.out⟩
                case measure => simp [intOf]; omega
              · obtain rfl : j = d := by omega
                have iP2 : ¬ (P : Int) < (p : Int) + j := by have := HPj.out; omega
                have HF : Hid (Own w u3 (34 :: (out ++ Y)) wr) := by
                  have h := hO2
                  rw [show Y.take j = Y by rw [← hYl]; exact List.take_length] at h
                  exact h
                clear hO2
                go_wp2
                go_roundw
                case rel => exact ⟨p + j, out ++ Y, hd2, by go_num, HF.out, (HQ.out _ HE.out).1, (HQ.out _ HE.out).2⟩
                case measure => simp [intOf]; omega
    · obtain rfl : p = s.size := by omega
      have ilt : ¬ ((s.size : Nat) : Int) < s.size := by omega
      have HX : Hid (quoteL (bs s) = (34 :: out) ++ [34]) := by
        show _ = _
        unfold quoteL
        rw [H.out, List.drop_eq_nil_of_le (by omega), qs_nil, List.append_nil]; rfl
      have HO : Hid (Own w u3 (34 :: out) wr) := hO
      clear H hO
      go_wp2_with (at_builtin; refine wpList_app _ w.heap.size (by have := HO.out.size; simp; omega) rfl _ _ rfl u3 (34 :: out).length _ rfl (HO.out.alloc _).row (some ⟨_, 0, none⟩) 1 1 [34] rfl (bytes_new _ [34] _ rfl) (fun h => by cases h) (by omega) ?_; intro v' w4 hown4 hgr4 hat4; have HF : Hid (Own w v' ((34 :: out) ++ [34]) w4) := (HO.out.alloc _).grown hgr4 rfl hown4; have hrow := HF.out.row; obtain ⟨N, hN⟩ : ∃ N, N = ((34 :: out) ++ [34]).length := ⟨_, rfl⟩; rw [← hN] at hrow; obtain ⟨a4, c4, rfl, _⟩ := row_shape hrow; have hcv := run_string w4 a4 N c4 _ (row_bytes hrow); rw [← HX.out] at hcv; obtain ⟨T, hTq⟩ : ∃ T, T = quoteL (bs s) := ⟨_, rfl⟩; rw [← hTq] at hcv; have HT : Hid (T = quoteL (bs s)) := hTq; clear hown4 hgr4 hat4 HO hN hrow hTq)
      go_ret
      exact ⟨by rw [← HT.out]; rfl, HF.out.bel⟩
end Go.Proofs.YtdchmmdndgbllaaDoor
