/- The walk of the law QuoteRight. -/
import Derived.Test.YtfppfbalhhbjdaaDoorQLine
import Derived.Test.YtfppfbalhhbjdaaDoorQRightPlain
import Derived.Test.YtfppfbalhhbjdaaDoorQWakes
import Derived.Test.YtfppfbalhhbjdaaDoorQWordsRight
namespace Go.Proofs.YtfppfbalhhbjdaaDoor
open Go.RowKit

theorem plain_one (c : UInt8) (h1 : 36 ≤ c.toNat) (h2 : c.toNat ≤ 126) (h4 : c ≠ 92) : wordL [c] = [c] := by
  have h3 : c ≠ 34 := fun e => by rw [e] at h1; exact absurd h1 (by decide)
  have h5 : c ≠ 35 := fun e => by rw [e] at h1; exact absurd h1 (by decide)
  have : plainL [c] = true := by
    unfold plainL
    rw [plainF_cons c _ (by omega) h2 h3 h4, plainF_nil]
    simp [h5]
  unfold wordL; rw [if_pos this]
theorem words_three (s : List UInt8) : wordsL ([97, 32] ++ quoteL s ++ [32, 98]) 0 = .ok [[97], s, [98]] := by
  have e : [97, 32] ++ quoteL s ++ [32, 98] = wordL [97] ++ (32 :: (quoteL s ++ [32, 98])) := by
    rw [plain_one 97 (by decide) (by decide) (by decide)]; simp
  rw [e, wordsL_word _ _ _ (by simp [endsL]), wordsL_blank _ _ (by simp) rfl]
  show addW [[97]] (wordsL (quoteL s ++ [32, 98]) _) = _
  rw [wordsL_quoted s _ _ (by simp [endsL]), wordsL_blank _ _ (by simp) rfl]
  show addW [[97]] (addW [s] (wordsL [98] _)) = _
  have e2 : ∀ k, wordsL [98] k = .ok [[98]] := fun k => by
    have h := wordsL_word [98] [] k (by simp [endsL])
    rw [plain_one 98 (by decide) (by decide) (by decide), List.append_nil, wordsL_nil] at h
    exact h
  rw [e2]; rfl
theorem cut3 (s : ByteArray) (k : Nat) (T : ByteArray) (hT : T = s.extract k (k + 3)) : (!T.toList == (Utf8.encode 65533).toList) = !fffd.isPrefixOf ((bs s).drop k) := by
  rw [show (Utf8.encode 65533).toList = [239, 191, 189] by decide +kernel]
  congr 1
  rw [toList_bs, hT, bs_extract, Bool.eq_iff_iff, beq_iff_eq, List.isPrefixOf_iff_prefix, List.prefix_iff_eq_take, List.drop_take]
  constructor
  · intro h; show fffd = ((bs s).drop k).take 3; rw [show k + 3 - k = 3 by omega] at h; exact h.symm
  · intro h; rw [show k + 3 - k = 3 by omega]; exact h.symm
theorem cut_short (l : List UInt8) (h : l.length < 3) : fffd.isPrefixOf l = false := by
  cases hp : fffd.isPrefixOf l with
  | false => rfl
  | true =>
    have := (List.isPrefixOf_iff_prefix.1 hp).length_le
    simp [fffd] at this; omega
theorem same_str (q s : ByteArray) (hq : bs q = quoteL (bs s)) : (q.toList == ((⟨#[34]⟩ : ByteArray) ++ s ++ ⟨#[34]⟩).toList) = noneed (bs s) := by
  rw [toList_bs, toList_bs, hq, bs_append, bs_append, ← quote_same, Bool.eq_iff_iff, beq_iff_eq, decide_eq_true_iff]
  rfl

set_option maxRecDepth 20000 in
set_option maxHeartbeats 4000000 in
theorem quoteRight_walk (s : ByteArray) (w : World) (hs : s.size ≤ 1048576) (hT : Tabs w) :
    Calls Tryd.prog 8 #[.string s] w fun e w' => e = .returned (.bool true) ∧ Below w.heap.size w w' := by
  have c1 := fun W hT => qquote_any s W hT (by omega)
  have hqs : (mk (quoteL (bs s))).size ≤ 5000000 := by
    rw [← bs_len, bs_mk]
    have := qs_len _ (bs s) (Nat.le_refl _)
    rw [bs_len] at this
    simp [quoteL]; omega
  have HQ : Hid (bs (mk (quoteL (bs s))) = quoteL (bs s)) := bs_mk _
  generalize mk (quoteL (bs s)) = q at *
  have HCmp : Hid ((q.toList == ((⟨#[34]⟩ : ByteArray) ++ s ++ ⟨#[34]⟩).toList) = noneed (bs s)) := same_str q s HQ.out
  have HOK : Hid (okq (bs q) = true) := by show _ = _; rw [HQ.out]; exact okq_quote _
  obtain ⟨Z, hZ⟩ : ∃ Z, Z = (⟨#[97, 32]⟩ : ByteArray) ++ q ++ ⟨#[32, 98]⟩ := ⟨_, rfl⟩
  have HZ : Hid (Z = (⟨#[97, 32]⟩ : ByteArray) ++ q ++ ⟨#[32, 98]⟩) := hZ
  have hZs : Z.size ≤ 6000000 := by
    rw [hZ, ← bs_len, bs_append, bs_append, List.length_append, List.length_append, bs_len q]
    show 2 + q.size + 2 ≤ _
    omega
  have HW : Hid (∀ W, Tabs W → Calls Tryd.prog 17 #[.string Z] W fun e W' => ∃ a' c', e = .returned (.tuple #[.slice a' 3 c', .agg #[.int .i64 0, .int .i64 0]]) ∧ Strs W' a' 3 [⟨#[97]⟩, s, ⟨#[98]⟩] ∧ Below W.heap.size W W') := fun W hT => by
    refine (words_any _ W hT (by omega)).mono fun e W' hp => ?_
    have hr : wordsL (bs Z) 0 = .ok [[97], bs s, [98]] := by
      rw [HZ.out, bs_append, bs_append, HQ.out]; exact words_three _
    obtain ⟨a', c', he, hs, hB'⟩ := words_right hr hp
    rw [show [[97], bs s, [98]].map mk = [⟨#[97]⟩, s, ⟨#[98]⟩] by simp only [List.map_cons, List.map_nil, mk_bs]; rfl] at hs
    exact ⟨a', c', he, hs, hB'⟩
  clear hZ hZs
  go_enter Tryd.func8, Tryd.ntmps8
  go_wp2_with first
    | (go_at_call 9; refine (wakes_any _ hT).mono ?_; rintro e w1 ⟨rfl, hB1⟩; have hT1 := hT.below hB1)
    | (go_at_call 15; refine (c1 _ hT1).mono ?_; rintro e w2 ⟨rfl, hB2⟩; have HB : Hid (Below w.heap.size w w2) := hB1.trans (hB2.mono hB1.size); clear hB1 hB2 c1 hT1)
  go_loopw [4, 5] (fun v i wr => ∃ (p m : Nat) (pl : Bool), p ≤ s.size ∧ m ≤ s.size ∧ v = .bool pl ∧ i = .int .i64 (m : Int) ∧ Row w2 w2.heap.size (.stringIter s p) (.slice none 0 0) [] wr ∧ Hid (noneed (bs s) = (pl && noneed ((bs s).drop p)))) (fun _ _ wr => s.size - wr.iterPos w2.heap.size)
  case atStart => exact ⟨0, 0, true, Nat.zero_le _, Nat.zero_le _, rfl, rfl, row_start w2 s, by simp [Hid]⟩
  case round =>
    obtain ⟨p, m, pl, hp, hm0, rfl, rfl, hR, H⟩ := hrel
    by_cases hlt : p < s.size
    · obtain ⟨r, d, hdec, hd, hd1, hd2, hr, hne, he, _⟩ := rune_at s p hlt
      have hnx := run_next_at (P := Tryd.prog) wr w2.heap.size s p hR.iter hlt
      rw [hdec] at hnx
      have hR2 := hR.put (.stringIter s (p + d)) (iter_obj s _)
      obtain ⟨W2, hW2⟩ : ∃ W2, W2 = wr.putObj w2.heap.size (.stringIter s (p + d)) := ⟨_, rfl⟩
      simp only at hnx
      rw [← hW2] at hnx hR2
      have hm : Hid (∀ W3 : World, W3.heap[w2.heap.size]? = some (.stringIter s (p + d)) → s.size - W3.iterPos w2.heap.size < s.size - wr.iterPos w2.heap.size) := by
        intro W3 h3
        rw [iterPos_of hR.iter, iterPos_of h3]; omega
      have HR : Hid (Row w2 w2.heap.size (.stringIter s (p + d)) (.slice none 0 0) [] W2) := hR2
      have HN : Hid (need ((bs s).drop p) = (ctl r || decide (r = 34) || decide (r = 92) || (decide (r = 65533) && !fffd.isPrefixOf ((bs s).drop p)))) := by
        show _ = _
        unfold need brk
        rw [hd]
      have HG : Hid (∀ b, need ((bs s).drop p) = b → noneed (bs s) = ((pl && !b) && noneed ((bs s).drop (p + d)))) := fun b hb => by
        rw [H.out, noneed_go _ hne, hd, List.drop_drop, hb, Bool.and_assoc]
      have hl := bs_len s
      have HLn : Hid (((bs s).drop p).length = s.size - p) := by show _ = _; rw [List.length_drop, hl]
      have i3 : (p : Int) ≤ s.size := by omega
      clear hd he hne hdec hW2 hR2 H hR HW HZ HCmp HOK HQ
      by_cases h34 : r = 34
      · subst h34
        simp only [show ((34 : Nat) : Int) = 34 from rfl] at hnx
        have HF : Hid (noneed (bs s) = (false && noneed ((bs s).drop (p + d)))) := by
          show noneed (bs s) = _
          have h := HG.out true (by rw [HN.out]; rfl)
          simpa using h
        clear HG HN HLn
        go_wp2
        go_roundw
        case rel => exact ⟨p + d, p, false, hd2, by omega, rfl, rfl, HR.out, HF.out⟩
        case measure => exact hm.out _ HR.out.iter
      · have c34 : ((r : Int) == 34) = false := beq_eq_false_iff_ne.2 (by omega)
        by_cases h92 : r = 92
        · subst h92
          simp only [show ((92 : Nat) : Int) = 92 from rfl] at hnx
          have HF : Hid (noneed (bs s) = (false && noneed ((bs s).drop (p + d)))) := by
            show noneed (bs s) = _
            have h := HG.out true (by rw [HN.out]; rfl)
            simpa using h
          clear HG HN HLn
          go_wp2
          go_roundw
          case rel => exact ⟨p + d, p, false, hd2, by omega, rfl, rfl, HR.out, HF.out⟩
          case measure => exact hm.out _ HR.out.iter
        · have c92 : ((r : Int) == 92) = false := beq_eq_false_iff_ne.2 (by omega)
          by_cases h65 : r = 65533
          · subst h65
            simp only [show ((65533 : Nat) : Int) = 65533 from rfl] at hnx
            by_cases h3 : s.size < p + 3
            · have j3 : (s.size : Int) - p < 3 := by omega
              have HF : Hid (noneed (bs s) = (false && noneed ((bs s).drop (p + d)))) := by
                show noneed (bs s) = _
                have h := HG.out true (by rw [HN.out]; rw [cut_short _ (by rw [HLn.out]; omega)]; rfl)
                simpa using h
              clear HG HN HLn
              go_wp2
              go_roundw
              case rel => exact ⟨p + d, p, false, hd2, by omega, rfl, rfl, HR.out, HF.out⟩
              case measure => exact hm.out _ HR.out.iter
            · have j3 : ¬ (s.size : Int) - p < 3 := by omega
              have i4 : (p : Int) + 3 ≤ s.size := by omega
              have tn : ((p : Int) + 3).toNat = p + 3 := by omega
              obtain ⟨T, hTt⟩ : ∃ T, T = s.extract p (p + 3) := ⟨_, rfl⟩
              have hcmp := cut3 s p T hTt
              have hex2 : s.extract p (p + 3) = T := hTt.symm
              clear hTt
              cases hf : fffd.isPrefixOf ((bs s).drop p) with
              | true =>
                rw [hf] at hcmp HN
                clear hf
                have HF : Hid (noneed (bs s) = (pl && noneed ((bs s).drop (p + d)))) := by
                  show noneed (bs s) = _
                  have h := HG.out false (by rw [HN.out]; rfl)
                  simpa using h
                clear HG HN HLn
                go_wp2
                go_roundw
                case rel => exact ⟨p + d, p, pl, hd2, by omega, rfl, rfl, HR.out, HF.out⟩
                case measure => exact hm.out _ HR.out.iter
              | false =>
                rw [hf] at hcmp HN
                clear hf
                have HF : Hid (noneed (bs s) = (false && noneed ((bs s).drop (p + d)))) := by
                  show noneed (bs s) = _
                  have h := HG.out true (by rw [HN.out]; rfl)
                  simpa using h
                clear HG HN HLn
                go_wp2
                go_roundw
                case rel => exact ⟨p + d, p, false, hd2, by omega, rfl, rfl, HR.out, HF.out⟩
                case measure => exact hm.out _ HR.out.iter
          · have c65 : ((r : Int) == 65533) = false := beq_eq_false_iff_ne.2 (by omega)
            by_cases h32 : r < 32
            · have i1 : (r : Int) < 32 := by omega
              have HF : Hid (noneed (bs s) = (false && noneed ((bs s).drop (p + d)))) := by
                show noneed (bs s) = _
                have h := HG.out true (by rw [HN.out]; simp [ctl, h32])
                simpa using h
              clear HG HN HLn
              go_wp2
              go_roundw
              case rel => exact ⟨p + d, p, false, hd2, by omega, rfl, rfl, HR.out, HF.out⟩
              case measure => exact hm.out _ HR.out.iter
            · have i1 : ¬ (r : Int) < 32 := by omega
              by_cases h127 : 127 ≤ r
              · have i2 : (127 : Int) ≤ r := by omega
                by_cases h160 : r < 160
                · have i5 : (r : Int) < 160 := by omega
                  have HF : Hid (noneed (bs s) = (false && noneed ((bs s).drop (p + d)))) := by
                    show noneed (bs s) = _
                    have h := HG.out true (by rw [HN.out]; simp [ctl, h127]; omega)
                    simpa using h
                  clear HG HN HLn
                  go_wp2
                  go_roundw
                  case rel => exact ⟨p + d, p, false, hd2, by omega, rfl, rfl, HR.out, HF.out⟩
                  case measure => exact hm.out _ HR.out.iter
                · have i5 : ¬ (r : Int) < 160 := by omega
                  have HF : Hid (noneed (bs s) = (pl && noneed ((bs s).drop (p + d)))) := by
                    show noneed (bs s) = _
                    have h := HG.out false (by rw [HN.out]; simp [ctl, h34, h92, h65]; omega)
                    simpa using h
                  clear HG HN HLn
                  go_wp2
                  go_roundw
                  case rel => exact ⟨p + d, p, pl, hd2, by omega, rfl, rfl, HR.out, HF.out⟩
                  case measure => exact hm.out _ HR.out.iter
              · have i2 : ¬ (127 : Int) ≤ r := by omega
                have HF : Hid (noneed (bs s) = (pl && noneed ((bs s).drop (p + d)))) := by
                  show noneed (bs s) = _
                  have h := HG.out false (by rw [HN.out]; simp [ctl, h34, h92, h65]; omega)
                  simpa using h
                clear HG HN HLn
                go_wp2
                go_roundw
                case rel => exact ⟨p + d, p, pl, hd2, by omega, rfl, rfl, HR.out, HF.out⟩
                case measure => exact hm.out _ HR.out.iter
    · obtain rfl : p = s.size := by omega
      have hnx := run_next_over (P := Tryd.prog) wr w2.heap.size s s.size hR.iter hlt
      have HN : Hid (noneed (bs s) = pl) := by
        have h := H.out
        rw [List.drop_eq_nil_of_le (by rw [bs_len]; exact Nat.le_refl _), noneed_nil, Bool.and_true] at h
        exact h
      have HB2 : Hid (Below w.heap.size w wr) := HB.out.trans (hR.bel.mono HB.out.size)
      rw [HN.out] at HCmp
      clear H hR HN HB
      obtain ⟨wa, hwa⟩ : ∃ wa, wa = wr := ⟨_, rfl⟩
      subst hwa
      go_wp2
      go_loopw [] (fun wq => ∃ p : Nat, p ≤ q.size ∧ Row wa wa.heap.size (.stringIter q p) (.slice none 0 0) [] wq ∧ Hid (okq ((bs q).drop p) = true)) (fun wq => q.size - wq.iterPos wa.heap.size)
      case atStart => exact ⟨0, Nat.zero_le _, row_start wa q, HOK.out⟩
      case round =>
        obtain ⟨p, hp, hR, H⟩ := hrel
        by_cases hlq : p < q.size
        · obtain ⟨r, d, hdec, hd, hd1, hd2, hr, hne, he, _⟩ := rune_at q p hlq
          have hnx2 := run_next_at (P := Tryd.prog) wr wa.heap.size q p hR.iter hlq
          rw [hdec] at hnx2
          have hR2 := hR.put (.stringIter q (p + d)) (iter_obj q _)
          obtain ⟨W2, hW2⟩ : ∃ W2, W2 = wr.putObj wa.heap.size (.stringIter q (p + d)) := ⟨_, rfl⟩
          simp only at hnx2
          rw [← hW2] at hnx2 hR2
          have hm : Hid (∀ W3 : World, W3.heap[wa.heap.size]? = some (.stringIter q (p + d)) → q.size - W3.iterPos wa.heap.size < q.size - wr.iterPos wa.heap.size) := by
            intro W3 h3
            rw [iterPos_of hR.iter, iterPos_of h3]; omega
          have HR : Hid (Row wa wa.heap.size (.stringIter q (p + d)) (.slice none 0 0) [] W2) := hR2
          have hg := H.out
          rw [okq_go _ hne, hd, List.drop_drop] at hg
          have hg1 := (Bool.and_eq_true _ _ ▸ hg).1
          have HF : Hid (okq ((bs q).drop (p + d)) = true) := (Bool.and_eq_true _ _ ▸ hg).2
          have hg2 : ctl r = false ∧ brk ((bs q).drop p) = false := by simpa using hg1
          obtain ⟨hcr, hbr⟩ := hg2
          unfold brk at hbr
          rw [hd] at hbr
          simp only at hbr
          have hl := bs_len q
          have HLn : ((bs q).drop p).length = q.size - p := by rw [List.length_drop, hl]
          have i3 : (p : Int) ≤ q.size := by omega
          clear hd he hne hdec hW2 hR2 H hR HW HZ HCmp HOK HQ hg hg1 hnx
          have h32 : ¬ r < 32 := fun h => by simp [ctl, h] at hcr
          have i1 : ¬ (r : Int) < 32 := by omega
          by_cases h65 : r = 65533
          · subst h65
            simp only [show ((65533 : Nat) : Int) = 65533 from rfl] at hnx2
            have hf : fffd.isPrefixOf ((bs q).drop p) = true := by simpa using hbr
            have h3 : ¬ q.size < p + 3 := fun h => by rw [cut_short _ (by rw [HLn]; omega)] at hf; cases hf
            have j3 : ¬ (q.size : Int) - p < 3 := by omega
            have i4 : (p : Int) + 3 ≤ q.size := by omega
            have tn : ((p : Int) + 3).toNat = p + 3 := by omega
            obtain ⟨T, hTt⟩ : ∃ T, T = q.extract p (p + 3) := ⟨_, rfl⟩
            have hcmp := cut3 q p T hTt
            rw [hf] at hcmp
            have hex2 : q.extract p (p + 3) = T := hTt.symm
            clear hTt hf hbr hcr HLn
            go_wp2
            go_roundw
            case rel => exact ⟨p + d, hd2, HR.out, HF.out⟩
            case measure => exact hm.out _ HR.out.iter
          · have c65 : ((r : Int) == 65533) = false := beq_eq_false_iff_ne.2 (by omega)
            by_cases h127 : 127 ≤ r
            · have i2 : (127 : Int) ≤ r := by omega
              have h160 : ¬ r < 160 := fun h => by simp [ctl, h127] at hcr; omega
              have i5 : ¬ (r : Int) < 160 := by omega
              clear hcr hbr HLn
              go_wp2
              go_roundw
              case rel => exact ⟨p + d, hd2, HR.out, HF.out⟩
              case measure => exact hm.out _ HR.out.iter
            · have i2 : ¬ (127 : Int) ≤ r := by omega
              clear hcr hbr HLn
              go_wp2
              go_roundw
              case rel => exact ⟨p + d, hd2, HR.out, HF.out⟩
              case measure => exact hm.out _ HR.out.iter
        · obtain rfl : p = q.size := by omega
          have hnx2 := run_next_over (P := Tryd.prog) wr wa.heap.size q q.size hR.iter hlq
          have HB3 : Hid (Below w.heap.size w wr) := HB2.out.trans (hR.bel.mono HB2.out.size)
          have hcmp := HCmp.out
          have hZZ : (⟨#[97, 32]⟩ : ByteArray) ++ q ++ ⟨#[32, 98]⟩ = Z := HZ.out.symm
          have im : (m : Int) ≤ s.size := by omega
          clear H hR HB2 HCmp HZ hnx
          go_wp2_with first
            | (go_at_call 17; refine (HW.out _ (hT.below HB3.out)).mono ?_; rintro e w3 ⟨a', c', rfl, hS3, hB3⟩; obtain ⟨q0, q1⟩ := (box_new w3).cell; have H3 : Hid (Below w.heap.size w (w3.alloc (.cells #[.int .i64 0, .int .i64 0] 30)) ∧ Strs (w3.alloc (.cells #[.int .i64 0, .int .i64 0] 30)) a' 3 [⟨#[97]⟩, s, ⟨#[98]⟩]) := (⟨(HB3.out.trans (hB3.mono HB3.out.size)).alloc (by have := HB3.out.size; have := hB3.size; omega) _, hS3.kept ((Below.refl _ _).alloc (Nat.le_refl _) _)⟩); clear hS3 hB3)
            | (go_at_call 19; refine (same_yes _ _ _ 3 _ _ [⟨#[97]⟩, s, ⟨#[98]⟩] (H3.out.2.kept ((Below.refl _ _).alloc (Nat.le_refl _) _)) (by have hN := strs_new (w3.alloc (.cells #[.int .i64 0, .int .i64 0] 30)) [⟨#[97]⟩, s, ⟨#[98]⟩] 9 3 rfl; rw [World.size_alloc] at hN; exact hN) (by omega)).mono ?_; rintro e w4 ⟨rfl, hB4⟩; have H4 : Hid (Below w.heap.size w w4) := (H3.out.1.alloc H3.out.1.size _).trans (hB4.mono (H3.out.1.alloc H3.out.1.size _).size); clear hB4)
            | (go_at_call 9; refine (wakes_any _ (hT.below H4.out)).mono ?_; rintro e w5 ⟨rfl, hB5⟩; have H5 : Hid (Below w.heap.size w w5) := H4.out.trans (hB5.mono H4.out.size); clear hB5)
          go_ret
          exact ⟨rfl, H5.out⟩
end Go.Proofs.YtfppfbalhhbjdaaDoor
