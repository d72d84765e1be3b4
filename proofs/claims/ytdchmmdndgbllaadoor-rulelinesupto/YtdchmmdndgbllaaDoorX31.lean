import Derived.Test.YtdchmmdndgbllaaDoorX18
/- The walks of the document's Piece, control, Plain, hex, Quote. -/
namespace Go.Proofs.YtdchmmdndgbllaaDoor
open Go.RowKit

theorem rcontrol_any (r : Nat) (w : World) :
    Calls Tryd.prog 58 #[.int .i32 (r : Int)] w fun e w' => e = .returned (.bool (ctl r)) ∧ w' = w := by
  by_cases h1 : r < 32
  · have i1 : (r : Int) < 32 := by omega
    go_enter Tryd.func58, Tryd.ntmps58
    go_wp2
    go_ret
    exact ⟨by simp [ctl, h1], rfl⟩
  · have i1 : ¬ (r : Int) < 32 := by omega
    by_cases h2 : 127 ≤ r
    · have i2 : (127 : Int) ≤ r := by omega
      by_cases h3 : r ≤ 159
      · have i3 : (r : Int) < 160 := by omega
        go_enter Tryd.func58, Tryd.ntmps58
        go_wp2
        go_ret
        exact ⟨by simp [ctl, h2, h3], rfl⟩
      · have i3 : ¬ (r : Int) < 160 := by omega
        go_enter Tryd.func58, Tryd.ntmps58
        go_wp2
        go_ret
        exact ⟨by simp [ctl, h1, h3], rfl⟩
    · have i2 : ¬ (127 : Int) ≤ r := by omega
      go_enter Tryd.func58, Tryd.ntmps58
      go_wp2
      go_ret
      exact ⟨by simp [ctl, h1, h2], rfl⟩

theorem rhex_any (x : Nat) (w : World) (hx : x < 16) :
    Calls Tryd.prog 59 #[.int .u8 (x : Int)] w fun e w' => e = .returned (.int .u8 ((hexd x).toNat : Int)) ∧ w' = w := by
  by_cases h : x < 10
  · have i1 : (x : Int) < 10 := by omega
    have e : ((hexd x).toNat : Int) = 48 + x := by
      have : ∀ z : Fin 10, ((hexd z.val).toNat : Int) = 48 + (z.val : Nat) := by decide +kernel
      exact this ⟨x, h⟩
    rw [e]
    go_enter Tryd.func59, Tryd.ntmps59
    go_wp2
    go_ret
    exact ⟨rfl, rfl⟩
  · have i1 : ¬ (x : Int) < 10 := by omega
    have i2 : (x : Int) < 16 := by omega
    have e : ((hexd x).toNat : Int) = 97 + x - 10 := by
      have : ∀ z : Fin 16, 10 ≤ z.val → ((hexd z.val).toNat : Int) = 97 + (z.val : Nat) - 10 := by decide +kernel
      exact this ⟨x, hx⟩ (show 10 ≤ x by omega)
    rw [e]
    go_enter Tryd.func59, Tryd.ntmps59
    go_wp2
    go_ret
    exact ⟨rfl, rfl⟩

/-- what Piece answers -/
def pieceV (l : List UInt8) : Value := .tuple #[.int .i64 ((dec l).2 : Int), .bool (brk l), .int .i32 ((dec l).1 : Int)]

set_option maxRecDepth 20000 in
set_option maxHeartbeats 2000000 in
theorem piece_any (s : ByteArray) (k : Nat) (w : World) (hs : s.size ≤ maxLen) (hk : k < s.size) :
    Calls Tryd.prog 57 #[.string s, .int .i64 (k : Int)] w fun e w' => e = .returned (pieceV ((bs s).drop k)) ∧ Below w.heap.size w w' := by
  have hs' : s.size ≤ 9223372036854775807 := by unfold maxLen at hs; omega
  have hl := bs_len s
  have i1 : (k : Int) ≤ s.size := by omega
  obtain ⟨S', hS'⟩ : ∃ S', S' = s.extract k s.size := ⟨_, rfl⟩
  have hz : S'.size = s.size - k := by rw [hS']; simp
  have hlt : 0 < S'.size := by omega
  obtain ⟨r, d, hdec, hd, hd1, hd2, hr, hne, _, _⟩ := rune_at S' 0 hlt
  have heS : bs S' = (bs s).drop k := by rw [hS', bs_extract, show (bs s).take s.size = bs s by rw [← hl]; exact List.take_length]
  rw [List.drop_zero, heS] at hd hne
  have HV : Hid (pieceV ((bs s).drop k) = .tuple #[.int .i64 (d : Int), .bool (brk ((bs s).drop k)), .int .i32 (r : Int)]) := by
    show _ = _
    unfold pieceV; rw [hd]
  have HBr : Hid (brk ((bs s).drop k) = (decide (r = 65533) && decide (d = 1))) := by show _ = _; rw [brk_iff _ hne, hd]
  have HBf : Hid (brk ((bs s).drop k) = (decide (r = 65533) && !(fffd.isPrefixOf ((bs s).drop k)))) := by show _ = _; unfold brk; rw [hd]
  have HE : Hid (brk ((bs s).drop k) = false → (Utf8.encode (r : Int)).size = d) := fun hb => by
    have h1 := encode_dec _ hne hb
    rw [hd] at h1
    have h2 := congrArg List.length h1
    rw [List.length_take, List.length_drop] at h2
    have h3 : (Utf8.encode (r : Int)).size = (Utf8.encode (r : Int)).data.toList.length := by simp
    rw [h3, h2]
    simp only
    omega
  have hnx := run_next_at (P := Tryd.prog) (w.alloc (.stringIter S' 0)) w.heap.size S' 0 (World.alloc_heap_new _ _) hlt
  rw [hdec] at hnx
  simp only at hnx
  have HB : Hid (Below w.heap.size w ((w.alloc (.stringIter S' 0)).putObj w.heap.size (.stringIter S' (0 + d)))) := ((row_start w S').put (.stringIter S' (0 + d)) (iter_obj S' _)).bel
  obtain ⟨W2, hW2⟩ : ∃ W2, W2 = (w.alloc (.stringIter S' 0)).putObj w.heap.size (.stringIter S' (0 + d)) := ⟨_, rfl⟩
  rw [← hW2] at hnx HB
  have hex : s.extract k s.size = S' := hS'.symm
  clear hW2 hS' hd hdec heS hne hz
  by_cases h65 : r = 65533
  · subst h65
    simp only [show ((65533 : Nat) : Int) = 65533 from rfl] at hnx HV
    by_cases h3 : k + 3 ≤ s.size
    · have i3 : (3 : Int) ≤ (s.size : Int) - k := by omega
      have i4 : (k : Int) + 3 ≤ s.size := by omega
      have tn : ((k : Int) + 3).toNat = k + 3 := by omega
      obtain ⟨T, hTt⟩ : ∃ T, T = s.extract k (k + 3) := ⟨_, rfl⟩
      have hcmp : (T.toList == [239, 191, 189]) = fffd.isPrefixOf ((bs s).drop k) := by
        rw [toList_bs, hTt, bs_extract, Bool.eq_iff_iff, beq_iff_eq, List.isPrefixOf_iff_prefix, List.prefix_iff_eq_take, List.drop_take]
        constructor
        · intro h; show fffd = ((bs s).drop k).take 3; rw [show k + 3 - k = 3 by omega] at h; exact h.symm
        · intro h; rw [show k + 3 - k = 3 by omega]; exact h.symm
      have hex2 : s.extract k (k + 3) = T := hTt.symm
      clear hTt
      cases hf : fffd.isPrefixOf ((bs s).drop k) with
      | true =>
        rw [hf] at hcmp
        have HX : Hid (pieceV ((bs s).drop k) = .tuple #[.int .i64 3, .bool false, .int .i32 65533]) := by
          show _ = _
          have hb : brk ((bs s).drop k) = false := by rw [HBf.out, hf]; rfl
          have hd3 : d = 3 := by rw [← HE.out hb]; rfl
          rw [HV.out, hb, hd3]; rfl
        clear HV HBr HBf HE hf
        go_enter Tryd.func57, Tryd.ntmps57
        go_wp2
        go_loopw [] (fun wr => wr = w.alloc (.stringIter S' 0)) (fun _ => 0)
        case atStart => rfl
        case round =>
          subst hrel
          go_wp2
          refine bodyPost_ret (v := .tuple #[.int .i64 3, .bool false, .int .i32 65533]) (by simp [results, Tryd.results57, go_sem]) rfl ⟨by rw [HX.out], HB.out⟩
      | false =>
        rw [hf] at hcmp
        have HX : Hid (pieceV ((bs s).drop k) = .tuple #[.int .i64 1, .bool true, .int .i32 65533]) := by
          show _ = _
          have hb : brk ((bs s).drop k) = true := by rw [HBf.out, hf]; rfl
          have hd3 : d = 1 := by have := HBr.out; rw [hb] at this; simpa using this.symm
          rw [HV.out, hb, hd3]; rfl
        clear HV HBr HBf HE hf
        go_enter Tryd.func57, Tryd.ntmps57
        go_wp2
        go_loopw [] (fun wr => wr = w.alloc (.stringIter S' 0)) (fun _ => 0)
        case atStart => rfl
        case round =>
          subst hrel
          go_wp2
          refine bodyPost_ret (v := .tuple #[.int .i64 1, .bool true, .int .i32 65533]) (by simp [results, Tryd.results57, go_sem]) rfl ⟨by rw [HX.out], HB.out⟩
    · have i3 : ¬ (3 : Int) ≤ (s.size : Int) - k := by omega
      have HX : Hid (pieceV ((bs s).drop k) = .tuple #[.int .i64 1, .bool true, .int .i32 65533]) := by
        show _ = _
        have hf : fffd.isPrefixOf ((bs s).drop k) = false := by
          rw [Bool.eq_false_iff]
          intro h
          have := (List.isPrefixOf_iff_prefix.1 h).length_le
          rw [List.length_drop] at this
          simp [fffd] at this; omega
        have hb : brk ((bs s).drop k) = true := by rw [HBf.out, hf]; rfl
        have hd3 : d = 1 := by have := HBr.out; rw [hb] at this; simpa using this.symm
        rw [HV.out, hb, hd3]; rfl
      clear HV HBr HBf HE
      go_enter Tryd.func57, Tryd.ntmps57
      go_wp2
      go_loopw [] (fun wr => wr = w.alloc (.stringIter S' 0)) (fun _ => 0)
      case atStart => rfl
      case round =>
        subst hrel
        go_wp2
        refine bodyPost_ret (v := .tuple #[.int .i64 1, .bool true, .int .i32 65533]) (by simp [results, Tryd.results57, go_sem]) rfl ⟨by rw [HX.out], HB.out⟩
  · have c65 : ((r : Int) == 65533) = false := beq_eq_false_iff_ne.2 (by omega)
    have hb : brk ((bs s).drop k) = false := by rw [HBr.out, decide_eq_false h65]; rfl
    have hsz := HE.out hb
    have HX : Hid (pieceV ((bs s).drop k) = .tuple #[.int .i64 (d : Int), .bool false, .int .i32 (r : Int)]) := by show _ = _; rw [HV.out, hb]
    clear HV HBr HBf HE hb
    go_enter Tryd.func57, Tryd.ntmps57
    go_wp2
    go_loopw [] (fun wr => wr = w.alloc (.stringIter S' 0)) (fun _ => 0)
    case atStart => rfl
    case round =>
      subst hrel
      go_wp2
      refine bodyPost_ret (v := .tuple #[.int .i64 (d : Int), .bool false, .int .i32 (r : Int)]) (by simp [results, Tryd.results57, go_sem]) rfl ⟨by rw [HX.out], HB.out⟩

set_option maxRecDepth 20000 in
set_option maxHeartbeats 2000000 in
theorem rplain_any (s : ByteArray) (w : World) (hs : s.size ≤ maxLen) :
    Calls Tryd.prog 44 #[.string s] w fun e w' => e = .returned (.bool (plainL (bs s))) ∧ Below w.heap.size w w' := by
  have hs' : s.size ≤ 9223372036854775807 := by unfold maxLen at hs; omega
  have hl := bs_len s
  by_cases h0 : s.size = 0
  · have hz : plainL (bs s) = false := by rw [(bs_nil s).2 h0]; rfl
    have b0 : ((s.size : Int) == 0) = true := by rw [h0]; rfl
    go_enter Tryd.func44, Tryd.ntmps44
    go_wp2
    go_ret
    exact ⟨by rw [hz]; rfl, Below.refl _ _⟩
  · have b0 : ((s.size : Int) == 0) = false := beq_eq_false_iff_ne.2 (by omega)
    have hz : 0 < s.size := by omega
    have i0 : (0 : Int) < s.size := by omega
    obtain ⟨c, hc⟩ : ∃ c, s[0]'hz = c := ⟨_, rfl⟩
    have hg : (bs s).getD 0 0 = c := by rw [← at_bs s 0 hz, hc]
    have hne0 : bs s ≠ [] := fun e => h0 ((bs_nil s).1 e)
    by_cases h1 : c = 35
    · have hp : plainL (bs s) = false := by unfold plainL; rw [hg, h1]; simp
      subst h1
      clear hg
      go_enter Tryd.func44, Tryd.ntmps44
      go_wp2
      go_ret
      exact ⟨by rw [hp]; rfl, Below.refl _ _⟩
    · have HP : Hid (plainL (bs s) = plainF (bs s)) := by
        show _ = _
        unfold plainL
        rw [hg]
        simp [hne0, h1]
      have b35 : ((c.toNat : Int) == 35) = false := beq_eq_false_iff_ne.2 (fun e => h1 (UInt8.toNat_inj.1 (by show _ = 35; omega)))
      clear hg h1 hne0
      go_enter Tryd.func44, Tryd.ntmps44
      go_wp2
      go_loopw [3] (fun i wr => ∃ p : Nat, p ≤ s.size ∧ i = .int .i64 (p : Int) ∧ Below w.heap.size w wr ∧ Hid (plainF (bs s) = plainF ((bs s).drop p))) (fun i _ => s.size - (intOf i).toNat)
      case atStart => exact ⟨0, Nat.zero_le _, rfl, Below.refl _ _, by simp [Hid]⟩
      case round =>
        obtain ⟨p, hp, rfl, hB, H⟩ := hrel
        have HB : Hid (Below w.heap.size w wr) := hB
        clear hB
        by_cases hlt : p < s.size
        · have ilt : (p : Int) < s.size := by omega
          have hne : (bs s).drop p ≠ [] := fun e => by
            have := congrArg List.length e
            rw [List.length_drop, List.length_nil] at this; omega
          have hpc := piece_any s p wr hs hlt
          unfold pieceV at hpc
          obtain ⟨r, hr⟩ : ∃ r, r = (dec ((bs s).drop p)).1 := ⟨_, rfl⟩
          obtain ⟨d, hd⟩ : ∃ d, d = (dec ((bs s).drop p)).2 := ⟨_, rfl⟩
          obtain ⟨b, hb⟩ : ∃ b, b = brk ((bs s).drop p) := ⟨_, rfl⟩
          rw [← hr, ← hd, ← hb] at hpc
          have hd1 : 1 ≤ d := by rw [hd]; exact dec_pos _
          have hd2 : p + d ≤ s.size := by
            have := dec_le _ hne
            rw [← hd, List.length_drop] at this; omega
          have HG : Hid (plainF (bs s) = (!(decide (r = 32) || decide (r = 34) || decide (r = 92) || ctl r || b) && plainF ((bs s).drop (p + d)))) := by
            show _ = _
            rw [H.out, plainF_go _ hne, ← hd, List.drop_drop]
            unfold badw
            rw [← hr, ← hb]
          have i5 : (p : Int) + d ≤ 9223372036854775807 := by omega
          have hct := fun W => rcontrol_any r W
          clear hr hd hb hne H
          cases b with
          | true =>
            have HX : Hid (plainL (bs s) = false) := by show _ = _; rw [HP.out, HG.out]; simp
            clear HG HP
            go_wp2_with (go_at_call 57; refine hpc.mono ?_; clear hpc; rintro e w3 ⟨rfl, hB3⟩)
            go_ret
            exact ⟨by rw [HX.out]; rfl, HB.out.trans (hB3.mono HB.out.size)⟩
          | false =>
            cases hcr : ctl r with
            | true =>
              rw [hcr] at hct
              have HX : Hid (plainL (bs s) = false) := by show _ = _; rw [HP.out, HG.out, hcr]; simp
              clear HG HP
              go_wp2_with first
                | (go_at_call 57; refine hpc.mono ?_; clear hpc; rintro e w3 ⟨rfl, hB3⟩)
                | (go_at_call 58; refine (hct _).mono ?_; rintro e w' ⟨rfl, rfl⟩)
              go_ret
              exact ⟨by rw [HX.out]; rfl, HB.out.trans (hB3.mono HB.out.size)⟩
            | false =>
              rw [hcr] at hct
              by_cases hA : r = 32 ∨ r = 34 ∨ r = 92
              · have HX : Hid (plainL (bs s) = false) := by show _ = _; rw [HP.out, HG.out]; rcases hA with h | h | h <;> simp [h]
                clear HG HP
                rcases hA with rfl | rfl | rfl
                all_goals
                  simp only [show ((32 : Nat) : Int) = 32 from rfl, show ((34 : Nat) : Int) = 34 from rfl, show ((92 : Nat) : Int) = 92 from rfl] at hpc hct
                  go_wp2_with first
                    | (go_at_call 57; refine hpc.mono ?_; clear hpc; rintro e w3 ⟨rfl, hB3⟩)
                    | (go_at_call 58; refine (hct _).mono ?_; rintro e w' ⟨rfl, rfl⟩)
                  go_ret
                  exact ⟨by rw [HX.out]; rfl, HB.out.trans (hB3.mono HB.out.size)⟩
              · have c32 : ((r : Int) == 32) = false := beq_eq_false_iff_ne.2 (by omega)
                have c34 : ((r : Int) == 34) = false := beq_eq_false_iff_ne.2 (by omega)
                have c92 : ((r : Int) == 92) = false := beq_eq_false_iff_ne.2 (by omega)
                have HX : Hid (plainF (bs s) = plainF ((bs s).drop (p + d))) := by
                  show _ = _
                  rw [HG.out, hcr, decide_eq_false (fun h => hA (.inl h)), decide_eq_false (fun h => hA (.inr (.inl h))), decide_eq_false (fun h => hA (.inr (.inr h)))]; rfl
                clear HG HP hA
                go_wp2_with first
                  | (go_at_call 57; refine hpc.mono ?_; clear hpc; rintro e w3 ⟨rfl, hB3⟩)
                  | (go_at_call 58; refine (hct _).mono ?_; rintro e w' ⟨rfl, rfl⟩)
                go_roundw
                case rel => exact ⟨p + d, hd2, by go_num, HB.out.trans (hB3.mono HB.out.size), HX⟩
                case measure => simp [intOf]; omega
        · obtain rfl : p = s.size := by omega
          have ilt : ¬ ((s.size : Nat) : Int) < s.size := by omega
          have HX : Hid (plainL (bs s) = true) := by
            show _ = _
            rw [HP.out, H.out, List.drop_eq_nil_of_le (by omega), plainF_nil]
          clear HP H
          go_wp2
          go_ret
          exact ⟨by rw [HX.out]; rfl, HB.out⟩
end Go.Proofs.YtdchmmdndgbllaaDoor
