import Derived.Test.YtggnglgehobglaaGreatDoorN06
/- The walks of pathmap's rest, join and isPath: rows of names, however long. -/
namespace Go.Proofs.YtggnglgehobglaaGreatDoor
open Go.RowKit Go.Shelf

attribute [local go_sem] Oper.semAt_some

theorem rune_str (r : Nat) (W : World) : (convert 21 9 (.int .i32 (r : Int))).run Tryz.prog W = .ok (.string (Utf8.encode (r : Int))) W := by
  kernel_rfl
theorem prefix_step {a b : List UInt8} {k d : Nat} (h : a.take k <+: b) (hk : k + d ≤ a.length) : a.take (k + d) <+: b ↔ (a.drop k).take d <+: b.drop k := by
  have hk' : (a.take k).length = k := by rw [List.length_take]; omega
  obtain ⟨t, rfl⟩ := h
  have e1 : a.take (k + d) = a.take k ++ (a.drop k).take d := by rw [List.take_add]
  have e2 : (a.take k ++ t).drop k = t := by rw [List.drop_append_of_le_length (by omega), List.drop_eq_nil_of_le (by omega), List.nil_append]
  rw [e1, e2]
  exact List.prefix_append_right_inj _
theorem restP_no {p q : List UInt8} (h0 : q ≠ []) (h1 : q ≠ p) (h : ¬ q <+: p) : restP p q = none := by
  unfold restP
  rw [if_neg h0, if_neg h1, if_neg]
  intro hh
  have := List.isPrefixOf_iff_prefix.1 hh
  exact h ((List.prefix_append q [47]).trans this)
theorem restP_yes {p q : List UInt8} (h0 : q ≠ []) (h1 : q ≠ p) (h : q <+: p) : restP p q = if pre [47] (p.drop q.length) then some (p.drop (q.length + 1)) else none := by
  obtain ⟨t, rfl⟩ := h
  unfold restP
  rw [if_neg h0, if_neg h1, List.drop_left]
  have e : (q ++ [47]).isPrefixOf (q ++ t) = pre [47] t := by
    rw [Bool.eq_iff_iff, List.isPrefixOf_iff_prefix, pre_iff, List.prefix_append_right_inj]
  rw [e]

set_option maxRecDepth 100000 in
set_option maxHeartbeats 4000000 in
theorem mrest_any (p q : ByteArray) (w : World) (hp : p.size ≤ 500000) (hq : q.size ≤ 500000) (hr : rightB (bs q) = true) :
    Calls Tryz.prog 40 #[.string p, .string q] w fun e w' => e = .returned (.tuple #[.string (restS p q), .bool (restB p q)]) ∧ Below w.heap.size w w' := by
  by_cases h1 : q.toList = []
  · have e1 : bs q = [] := by rw [← toList_bs]; exact h1
    have eS : restS p q = p := by unfold restS restP; rw [if_pos e1]; exact mk_bs p
    have eB : restB p q = true := by unfold restB restP; rw [if_pos e1]; rfl
    rw [eS, eB]
    clear hr e1 eS eB
    have b1 : q.toList.isEmpty = true := by rw [h1]; rfl
    go_enter Tryz.func40, Tryz.ntmps40
    go_wp2
    go_ret2
    exact ⟨rfl, Below.refl _ _⟩
  · have n1 : bs q ≠ [] := by rw [← toList_bs]; exact h1
    have b1 : q.toList.isEmpty = false := by simpa using h1
    by_cases h2 : q = p
    · subst h2
      have eS : restS q q = ⟨#[]⟩ := by unfold restS restP; rw [if_neg n1, if_pos rfl]; rfl
      have eB : restB q q = true := by unfold restB restP; rw [if_neg n1, if_pos rfl]; rfl
      rw [eS, eB]
      clear hr n1 eS eB h1
      go_enter Tryz.func40, Tryz.ntmps40
      go_wp2
      go_ret2
      exact ⟨rfl, Below.refl _ _⟩
    · have n2 : bs q ≠ bs p := fun e => h2 (bs_inj e)
      have b2 : (q.toList == p.toList) = false := by rw [beq_eq_false_iff_ne, toList_bs, toList_bs]; exact n2
      have HN : Hid (bs q ≠ [] ∧ bs q ≠ bs p) := ⟨n1, n2⟩
      have HR : Hid (rightB (bs q) = true) := hr
      clear h1 h2 n1 n2 hr
      go_enter Tryz.func40, Tryz.ntmps40
      go_wp2
      go_loopw [] (fun wr => ∃ k : Nat, k ≤ q.size ∧ wr = w.iter q k ∧ Hid (rightB ((bs q).drop k) = true ∧ (bs q).take k <+: bs p)) (fun wr => q.size - wr.iterPos w.heap.size)
      case atStart => exact ⟨0, Nat.zero_le _, rfl, by simpa using HR.out, by simp⟩
      case round =>
        obtain ⟨k, hk, rfl, H⟩ := hrel
        have hkp : k ≤ p.size := by
          have := H.out.2.length_le
          rw [List.length_take, bs_len, bs_len] at this
          omega
        by_cases hlt : k < q.size
        · obtain ⟨r, hrr⟩ : ∃ r, r = (dec ((bs q).drop k)).1 := ⟨_, rfl⟩
          obtain ⟨d, hd⟩ : ∃ d, d = (dec ((bs q).drop k)).2 := ⟨_, rfl⟩
          have hne : (bs q).drop k ≠ [] := fun e => by
            have := congrArg List.length e
            rw [List.length_drop, bs_len] at this; simp at this; omega
          have hd1 : 1 ≤ d := by rw [hd]; exact dec_pos _
          have hd2 : k + d ≤ q.size := by
            have := dec_le _ hne
            rw [← hd, List.length_drop, bs_len] at this; omega
          have hdec : Utf8.decode q k = (r, d) := by rw [decode_dec, hrr, hd]; rfl
          have hrle : r ≤ 2147483647 := by have := decode_le q k; rw [hdec] at this; exact this
          have hrg := rightB_go _ hne
          rw [H.out.1] at hrg
          have hrg' := hrg.symm
          rw [Bool.and_eq_true, Bool.not_eq_true'] at hrg'
          have henc := encode_dec _ hne hrg'.1
          rw [← hrr, ← hd] at henc
          have hnx := run_next_any (P := Tryz.prog) w q k (h := hlt)
          rw [hdec] at hnx
          obtain ⟨C, hC⟩ : ∃ C, C = Utf8.encode (r : Int) := ⟨_, rfl⟩
          have hcv : ∀ W, (convert 21 9 (.int .i32 (r : Int))).run Tryz.prog W = .ok (.string C) W := fun W => by rw [hC]; exact rune_str r W
          have hCs : C.size ≤ 500000 := by
            have := congrArg List.length henc
            rw [← hC] at this
            have h2 : C.data.toList.length = C.size := by rw [Array.length_toList]; rfl
            rw [h2, List.length_take, List.length_drop, bs_len] at this
            omega
          have hCb : bs C = ((bs q).drop k).take d := by rw [hC]; exact henc
          have hpre := fun W => has_prefix (p.extract k p.size) C W (by unfold maxLen; simp; omega) (by unfold maxLen; omega)
          have hst := prefix_step (d := d) H.out.2 (by rw [bs_len]; exact hd2)
          have hbx : bs (p.extract k p.size) = (bs p).drop k := by
            rw [bs_extract, show (bs p).take p.size = bs p by rw [← bs_len]; exact List.take_length]
          rw [hCb, hbx] at hpre
          have HRight : Hid (rightB ((bs q).drop (k + d)) = true) := by
            show _ = _
            rw [← List.drop_drop, hd]; exact hrg'.2
          obtain ⟨W1, hW1⟩ : ∃ W1, W1 = w.iter q k := ⟨_, rfl⟩
          obtain ⟨W2, hW2⟩ : ∃ W2, W2 = w.iter q (k + d) := ⟨_, rfl⟩
          have HB2 : Hid (Below w.heap.size w W2) := by rw [hW2]; exact (Below.refl _ w).alloc (Nat.le_refl _) _
          have HW2 : Hid (W2 = w.iter q (k + d)) := hW2
          have hm1 : Hid (q.size - W2.iterPos w.heap.size < q.size - W1.iterPos w.heap.size) := by
            have e1 := World.iterPos_iter w q k
            have e2 := World.iterPos_iter w q (k + d)
            rw [← hW1] at e1
            rw [← hW2] at e2
            show _ < _
            rw [e1, e2]; omega
          rw [← hW1, ← hW2] at hnx
          rw [← hW1]
          have i3 : (k : Int) ≤ p.size := by omega
          cases hpr : pre (((bs q).drop k).take d) ((bs p).drop k) with
          | true =>
            rw [hpr] at hpre
            have HX : Hid ((bs q).take (k + d) <+: bs p) := hst.2 ((pre_iff _ _).1 hpr)
            clear hpr hst hbx hCb henc hrg hrg' hne hd hrr hdec hW1 hW2 H hC
            go_wp2_with (go_at_call 62; refine (hpre _).mono ?_; rintro e w' ⟨rfl, rfl⟩)
            go_roundw
            case rel => exact ⟨k + d, hd2, HW2.out, HRight.out, HX.out⟩
            case measure => exact hm1.out
          | false =>
            rw [hpr] at hpre
            have hno : restP (bs p) (bs q) = none := restP_no HN.out.1 HN.out.2 (fun hh => by
              have h3 : pre (((bs q).drop k).take d) ((bs p).drop k) = true := (pre_iff _ _).2 (hst.1 ((List.take_prefix _ _).trans hh))
              rw [hpr] at h3; cases h3)
            have HS : Hid (restS p q = ⟨#[]⟩ ∧ restB p q = false) := ⟨by unfold restS; rw [hno]; rfl, by unfold restB; rw [hno]; rfl⟩
            clear hpr hst hbx hCb henc hrg hrg' hne hd hrr hdec hW1 hW2 H hC hno
            go_wp2_with (go_at_call 62; refine (hpre _).mono ?_; rintro e w' ⟨rfl, rfl⟩)
            go_ret2
            exact ⟨by rw [HS.out.1, HS.out.2]; rfl, HB2.out⟩
        · obtain rfl : k = q.size := by omega
          have hnx := run_next_end (P := Tryz.prog) w q q.size (h := Nat.lt_irrefl _)
          obtain ⟨W1, hW1⟩ : ∃ W1, W1 = w.iter q q.size := ⟨_, rfl⟩
          have HB1 : Hid (Below w.heap.size w W1) := by rw [hW1]; exact (Below.refl _ w).alloc (Nat.le_refl _) _
          have hpx : bs q <+: bs p := by have h := H.out.2; rw [← bs_len, List.take_length] at h; exact h
          have hyes := restP_yes HN.out.1 HN.out.2 hpx
          have hbx : bs (p.extract q.size p.size) = (bs p).drop q.size := by
            rw [bs_extract, show (bs p).take p.size = bs p by rw [← bs_len]; exact List.take_length]
          have hcut := cut_prefix (p.extract q.size p.size) ⟨#[47]⟩ W1 (by simp; omega) (by decide)
          rw [hbx, show bs ⟨#[47]⟩ = [47] from rfl] at hcut
          rw [bs_len] at hyes
          rw [← hW1] at hnx
          rw [← hW1]
          have i3 : (q.size : Int) ≤ p.size := by omega
          cases hpr : pre [47] ((bs p).drop q.size) with
          | true =>
            rw [hpr] at hcut hyes
            simp only [if_true] at hcut hyes
            obtain ⟨T, hT⟩ : ∃ T, T = (p.extract q.size p.size).extract (ByteArray.size ⟨#[47]⟩) (p.extract q.size p.size).size := ⟨_, rfl⟩
            rw [← hT] at hcut
            have HS : Hid (restS p q = T ∧ restB p q = true) := by
              refine ⟨?_, by unfold restB; rw [hyes]; rfl⟩
              unfold restS
              rw [hyes, hT]
              apply bs_inj
              rw [bs_mk, bs_extract, hbx, Option.getD_some]
              have e3 : (p.extract q.size p.size).size = ((bs p).drop q.size).length := by rw [← bs_len, hbx]
              rw [e3, List.take_length, List.drop_drop]
              rfl
            clear hpr hyes hbx hpx hT hW1 H
            go_wp2_with (go_at_call 63; refine hcut.mono ?_; rintro e w' ⟨rfl, rfl⟩)
            go_ret2
            exact ⟨by rw [HS.out.1, HS.out.2]; rfl, HB1.out⟩
          | false =>
            rw [hpr] at hcut hyes
            simp only [Bool.false_eq_true, if_false] at hcut hyes
            have HS : Hid (restS p q = ⟨#[]⟩ ∧ restB p q = false) := ⟨by unfold restS; rw [hyes]; rfl, by unfold restB; rw [hyes]; rfl⟩
            clear hpr hyes hbx hpx hW1 H
            go_wp2_with (go_at_call 63; refine hcut.mono ?_; rintro e w' ⟨rfl, rfl⟩)
            go_ret2
            exact ⟨by rw [HS.out.1, HS.out.2]; rfl, HB1.out⟩
end Go.Proofs.YtggnglgehobglaaGreatDoor
