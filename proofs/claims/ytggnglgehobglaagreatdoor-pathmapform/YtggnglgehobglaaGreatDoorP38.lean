import Derived.Test.YtggnglgehobglaaGreatDoorP37
import Derived.Test.YtggnglgehobglaaGreatDoorP07
import Derived.Deep.QuietTactic
import Derived.BigQuiet
import Derived.ScopeJumps
import Derived.WalkMore
/- The walks of escaped, unescape and Unquote. -/
namespace Go.Proofs.YtggnglgehobglaaGreatDoor
open Go.RowKit

theorem below_drewN {n0 : Nat} {w W : World} (h : Below n0 w W) (n : Nat) : Below n0 w (W.drewN n) := ⟨h.os, h.tape, h.output, h.size, h.block⟩
theorem at_bs (s : ByteArray) (i : Nat) (h : i < s.size) : s[i]'h = (bs s).getD i 0 := by
  rw [List.getD_eq_getElem?_getD, List.getElem?_eq_getElem (by rw [bs_len]; exact h)]; rfl
theorem digs_ix (c : Int) (b : UInt8) (h : c = (b.toNat : Int)) : Lib.indexByte digs.data.toList c.toNat.toUInt8 = ixd b := by
  subst h
  show Lib.indexByte digL (UInt8.ofNat b.toNat) = _
  rw [UInt8.ofNat_toNat]; rfl

set_option maxRecDepth 20000 in
set_option maxHeartbeats 2000000 in
theorem escaped_any (s : ByteArray) (w : World) (hs : s.size ≤ maxLen) (h0 : 0 < s.size) :
    Calls Tryz.prog 127 #[.string s] w fun e w' => (e = .returned (.tuple #[.int .u8 ((escd (bs s)).1.toNat : Int), .int .i64 ((escd (bs s)).2 : Int)])) ∧ Below w.heap.size w w' := by
  have hs' : s.size ≤ 9223372036854775807 := by unfold maxLen at hs; omega
  have hl := bs_len s
  by_cases h2 : 2 ≤ s.size
  · obtain ⟨b1, hb1⟩ : ∃ b1, b1 = (bs s).getD 1 0 := ⟨_, rfl⟩
    have i1 : (1 : Int) < s.size := by omega
    have e1 : s[1]'(by omega) = b1 := by rw [at_bs, hb1]
    have i2 : (2 : Int) ≤ s.size := by omega
    by_cases hx : 4 ≤ s.size ∧ b1 = 120
    · obtain ⟨h4, hbx⟩ := hx
      obtain ⟨b2, hb2⟩ : ∃ b2, b2 = (bs s).getD 2 0 := ⟨_, rfl⟩
      obtain ⟨b3, hb3⟩ : ∃ b3, b3 = (bs s).getD 3 0 := ⟨_, rfl⟩
      have e2 : s[2]'(by omega) = b2 := by rw [at_bs, hb2]
      have e3 : s[3]'(by omega) = b3 := by rw [at_bs, hb3]
      have i4 : (4 : Int) ≤ s.size := by omega
      have i5 : (2 : Int) < s.size := by omega
      have i6 : (3 : Int) < s.size := by omega
      have hE : escd (bs s) = (UInt8.ofNat (hxI (ixd b2) (ixd b3)).toNat, 4) := by
        unfold escd
        rw [if_pos ⟨by omega, by rw [← hb1]; exact hbx⟩, ← hb2, ← hb3]; rfl
      have HV : Hid (((escd (bs s)).1.toNat : Int) = hxI (ixd b2) (ixd b3) ∧ (escd (bs s)).2 = 4) := by
        refine ⟨?_, by rw [hE]⟩
        rw [hE]; exact hx_val b2 b3
      subst hbx
      clear hE hb1 hb2 hb3
      have c2 := fun w => Tryz.strings_IndexByte digs (b2.toNat : Int) w
      have c3 := fun w => Tryz.strings_IndexByte digs (b3.toNat : Int) w
      rw [digs_ix _ b2 rfl] at c2
      rw [digs_ix _ b3 rfl] at c3
      obtain ⟨a2, b2'⟩ := ixd_lo b2
      obtain ⟨a3, b3'⟩ := ixd_lo b3
      generalize ixd b2 = x2 at *
      generalize ixd b3 = x3 at *
      go_enter Tryz.func127, Tryz.ntmps127
      go_wp2
      go_quiet ((first | (go_at_call 137; exact Calls.quiet_of_same (c2 _)) | (go_at_call 137; exact Calls.quiet_of_same (c3 _))))
      go_wp2
      go_ret2
      exact ⟨by rw [HV.out.1, HV.out.2]; rfl, below_drewN (Below.refl _ _) _⟩
    · have hg1 : escd (bs s) = (if b1 = 110 then 10 else b1, 2) := by
        unfold escd
        rw [if_neg (fun h => hx ⟨by omega, by rw [hb1]; exact h.2⟩), ← hb1]
        by_cases h3 : b1 = 110
        · rw [if_pos ⟨by omega, h3⟩, if_pos h3]
        · rw [if_neg (fun h => h3 h.2), if_pos (by omega), if_neg h3]
      have HG : Hid (escd (bs s) = (if b1 = 110 then 10 else b1, 2)) := hg1
      clear hg1
      by_cases h4 : 4 ≤ s.size
      · have hbx : ¬ b1 = 120 := fun h => hx ⟨h4, h⟩
        have hbn : ((b1.toNat : Int) == 120) = false := beq_eq_false_iff_ne.2 (fun h => hbx (UInt8.toNat_inj.1 (by show _ = 120; omega)))
        have i4 : (4 : Int) ≤ s.size := by omega
        clear hb1 hx
        by_cases h3 : b1 = 110
        · subst h3
          go_enter Tryz.func127, Tryz.ntmps127
          go_wp2
          go_ret2
          exact ⟨by rw [HG.out]; rfl, Below.refl _ _⟩
        · have hbn2 : ((b1.toNat : Int) == 110) = false := beq_eq_false_iff_ne.2 (fun h => h3 (UInt8.toNat_inj.1 (by show _ = 110; omega)))
          rw [if_neg h3] at HG
          clear h3 hbx
          go_enter Tryz.func127, Tryz.ntmps127
          go_wp2
          go_ret2
          exact ⟨by rw [HG.out]; rfl, Below.refl _ _⟩
      · have i4 : ¬ (4 : Int) ≤ s.size := by omega
        clear hb1 hx
        by_cases h3 : b1 = 110
        · subst h3
          go_enter Tryz.func127, Tryz.ntmps127
          go_wp2
          go_ret2
          exact ⟨by rw [HG.out]; rfl, Below.refl _ _⟩
        · have hbn2 : ((b1.toNat : Int) == 110) = false := beq_eq_false_iff_ne.2 (fun h => h3 (UInt8.toNat_inj.1 (by show _ = 110; omega)))
          rw [if_neg h3] at HG
          clear h3
          go_enter Tryz.func127, Tryz.ntmps127
          go_wp2
          go_ret2
          exact ⟨by rw [HG.out]; rfl, Below.refl _ _⟩
  · have i4 : ¬ (4 : Int) ≤ s.size := by omega
    have i2 : ¬ (2 : Int) ≤ s.size := by omega
    have HG : Hid (escd (bs s) = (92, 1)) := by
      show _ = _
      unfold escd
      rw [if_neg (by omega), if_neg (by omega), if_neg (by omega)]
    go_enter Tryz.func127, Tryz.ntmps127
    go_wp2
    go_ret2
    exact ⟨by rw [HG.out]; rfl, Below.refl _ _⟩

theorem runeCells_enc (r : Nat) : Lib.runeCells (r : Int) = cellsOf (enc r) := by
  unfold Lib.runeCells enc Lib.encodeRune cellsOf
  rw [List.map_map]
  refine List.map_congr_left fun x hx => ?_
  have := Lib.encodeRuneZ_byte (r : Int) x hx
  show Value.int .u8 x = .int .u8 ((x.toNat.toUInt8.toNat : Nat) : Int)
  congr 1
  show x = ((UInt8.ofNat x.toNat).toNat : Int)
  rw [UInt8.toNat_ofNat']
  omega

set_option maxRecDepth 20000 in
set_option maxHeartbeats 4000000 in
theorem unescape_any (s : ByteArray) (w : World) (hs : s.size ≤ 8796093022208) :
    Calls Tryz.prog 111 #[.string s] w fun e w' => e = .returned (.string (mk (unesc (bs s) 0))) ∧ Below w.heap.size w w' := by
  have hs' : s.size ≤ 9223372036854775807 := by omega
  have hl := bs_len s
  go_enter Tryz.func111, Tryz.ntmps111
  go_wp2
  go_loopw [3, 4] (fun v k wr => ∃ (p q : Nat) (out : List UInt8), p ≤ s.size ∧ q ≤ s.size + 4 ∧ k = .int .i64 (q : Int) ∧ Row w w.heap.size (.stringIter s p) v out wr ∧ Hid (unesc (bs s) 0 = out ++ unesc ((bs s).drop p) (q - p)) ∧ out.length ≤ 4 * p) (fun _ _ wr => s.size - wr.iterPos w.heap.size)
  case atStart => exact ⟨0, 0, [], Nat.zero_le _, by omega, rfl, row_start w s, by simp [Hid], by simp⟩
  case round =>
    obtain ⟨p, q, out, hp, hq, rfl, hR, H, hol⟩ := hrel
    by_cases hlt : p < s.size
    · obtain ⟨r, d, hdec, hd, hd1, hd2, hr, hne, he, _⟩ := rune_at s p hlt
      have hnx := run_next_at (P := Tryz.prog) wr w.heap.size s p hR.iter hlt
      rw [hdec] at hnx
      have hR2 := hR.put (.stringIter s (p + d)) (iter_obj s _)
      obtain ⟨W2, hW2⟩ : ∃ W2, W2 = wr.putObj w.heap.size (.stringIter s (p + d)) := ⟨_, rfl⟩
      simp only at hnx
      rw [← hW2] at hnx hR2
      have hm : Hid (∀ W3 : World, W3.heap[w.heap.size]? = some (.stringIter s (p + d)) → s.size - W3.iterPos w.heap.size < s.size - wr.iterPos w.heap.size) := by
        intro W3 h3
        rw [iterPos_of hR.iter, iterPos_of h3]; omega
      have HR : Hid (∀ W3, Below W2.heap.size W2 W3 → Row w w.heap.size (.stringIter s (p + d)) u3 out W3) := fun W3 hB => hR2.below hB
      have i3 : (p : Int) ≤ s.size := by omega
      have hW2s : w.heap.size ≤ W2.heap.size := hR2.bel.size
      by_cases hpq : p < q
      · have ipq : (p : Int) < q := by omega
        have HX : Hid (unesc (bs s) 0 = out ++ unesc ((bs s).drop (p + d)) (q - (p + d))) := by
          show _ = _
          rw [H.out, unesc_skip _ _ hne (by omega), hd, List.drop_drop]
          congr 2
          simp only; omega
        have HF : Hid (Row w w.heap.size (.stringIter s (p + d)) u3 out W2) := hR2
        clear hd he hne hdec hW2 hR2 H hR HR
        go_wp2
        go_roundw
        case rel => exact ⟨p + d, q, out, hd2, hq, rfl, HF.out, HX, by omega⟩
        case measure => exact hm.out _ HF.out.iter
      · have ipq : ¬ (p : Int) < q := by omega
        have h0 : q - p = 0 := by omega
        rw [h0] at H
        by_cases h92 : r = 92
        · have hee := fun W => escaped_any (s.extract p s.size) W (by unfold maxLen; simp; omega) (by simp; omega)
          rw [he] at hee
          obtain ⟨b, hb⟩ : ∃ b, b = (escd ((bs s).drop p)).1 := ⟨_, rfl⟩
          obtain ⟨k, hk⟩ : ∃ k, k = (escd ((bs s).drop p)).2 := ⟨_, rfl⟩
          rw [← hb, ← hk] at hee
          have hk4 : k ≤ 4 := by rw [hk]; unfold escd; repeat' split
                                 all_goals simp
          have HX : Hid (unesc (bs s) 0 = (out ++ [b]) ++ unesc ((bs s).drop (p + d)) (p + k - (p + d))) := by
            show _ = _
            rw [H.out, unesc_esc _ hne (by rw [hd, ← h92]), hd, List.drop_drop, ← hb, ← hk, List.append_assoc]
            congr 3
            simp only; omega
          subst h92
          simp only [show ((92 : Nat) : Int) = 92 from rfl] at hnx
          have i5 : (p : Int) + k ≤ 9223372036854775807 := by omega
          clear hd he hne hdec hW2 hR2 H hR hb hk
          go_wp2_with first
            | (go_at_call 127; refine (hee _).mono ?_; rintro e w3 ⟨rfl, hB3⟩)
            | (at_builtin; refine wpList_app _ w.heap.size (by have := (HR.out _ hB3).size; simp; omega) rfl _ _ rfl u3 out.length _ rfl ((HR.out _ hB3).alloc _).row (some ⟨_, 0, none⟩) 1 1 [b] rfl (bytes_new _ [b] _ rfl) (fun h => by cases h) (by omega) ?_; intro v' w4 hown4 hgr4 hat4)
          have HF : Hid (Row w w.heap.size (.stringIter s (p + d)) v' (out ++ [b]) w4) := ((HR.out _ hB3).alloc _).grown hgr4 rfl hown4
          clear hown4 hgr4 hat4 HR
          go_wp2
          go_roundw
          case rel => exact ⟨p + d, p + k, out ++ [b], hd2, by omega, by go_num, HF.out, HX, by rw [List.length_append]; simp; omega⟩
          case measure => exact hm.out _ HF.out.iter
        · have c92 : ((r : Int) == 92) = false := beq_eq_false_iff_ne.2 (by omega)
          have HX : Hid (unesc (bs s) 0 = (out ++ enc r) ++ unesc ((bs s).drop (p + d)) (q - (p + d))) := by
            show _ = _
            rw [H.out, unesc_go _ hne (by rw [hd]; exact h92), hd, List.drop_drop, List.append_assoc]
            congr 3
            omega
          have hel := enc_len r
          clear hd he hne hdec hW2 hR2 H hR
          go_wp2_with (go_at_call 128; refine (Tryz.utf8_AppendRune_plain w.heap.size u3 out.length _ (r : Int) (by omega) (by omega) _ (HR.out _ (Below.refl _ _)).row (by omega) (by omega)).mono ?_; rintro e w4 ⟨v', rfl, hown4, o, hgr4⟩)
          rw [runeCells_enc, cellsOf_length] at hown4
          have HF : Hid (Row w w.heap.size (.stringIter s (p + d)) v' (out ++ enc r) w4) := ((HR.out _ (Below.refl _ _)).alloc _).grown (m := enc r) hgr4 rfl hown4
          clear hown4 hgr4 HR
          go_wp2
          go_roundw
          case rel => exact ⟨p + d, q, out ++ enc r, hd2, hq, rfl, HF.out, HX, by rw [List.length_append]; omega⟩
          case measure => exact hm.out _ HF.out.iter
    · obtain rfl : p = s.size := by omega
      have hnx := run_next_over (P := Tryz.prog) wr w.heap.size s s.size hR.iter hlt
      have HX : Hid (unesc (bs s) 0 = out) := by
        show _ = _
        rw [H.out, List.drop_eq_nil_of_le (by omega), unesc_nil, List.append_nil]
      have HR : Hid (Row w w.heap.size (.stringIter s s.size) u3 out wr) := hR
      have hrow := hR.row
      obtain ⟨N, hN⟩ : ∃ N, N = out.length := ⟨_, rfl⟩
      rw [← hN] at hrow
      obtain ⟨a4, c4, hv, _⟩ := row_shape hrow
      subst hv
      have hcv := run_string wr a4 N c4 _ (row_bytes hrow)
      clear H hR hrow hN
      go_wp2
      go_ret
      exact ⟨by rw [HX.out]; rfl, HR.out.bel⟩

/-- what Unquote answers -/
def unqV (l : List UInt8) : Value := .tuple #[.string (mk ((unq l).getD [])), .bool (unq l).isSome]

set_option maxRecDepth 20000 in
set_option maxHeartbeats 4000000 in
theorem unquote_any (s : ByteArray) (w : World) (hT : Tabs w) (hs : s.size ≤ 2199023255552) :
    Calls Tryz.prog 91 #[.string s] w fun e w' => e = .returned (unqV (bs s)) ∧ Below w.heap.size w w' := by
  have hs' : s.size ≤ 9223372036854775807 := by omega
  have hl := bs_len s
  obtain ⟨x, hx⟩ : ∃ x, x = Lib.trimPrefix (bs s) [34] := ⟨_, rfl⟩
  obtain ⟨y, hy⟩ : ∃ y, y = inside (bs s) := ⟨_, rfl⟩
  obtain ⟨t, ht⟩ : ∃ t, t = unesc (inside (bs s)) 0 := ⟨_, rfl⟩
  have hxl : x.length ≤ s.size := by
    rw [hx, ← hl]; unfold Lib.trimPrefix; split <;> simp
  have hyl : y.length ≤ s.size := by rw [hy, ← hl]; exact inside_len _
  have htl : t.length ≤ 4 * s.size := by
    have := unesc_len _ (inside (bs s)) 0 (Nat.le_refl _)
    rw [← ht, ← hy] at this; omega
  have c1 := fun w => Tryz.strings_CutPrefix s ⟨#[34]⟩ w
  have c2 := fun w => Tryz.strings_CutSuffix (mk x) ⟨#[34]⟩ w (by show x.toArray.size ≤ _; simp; omega)
  have c3 := fun w => unescape_any (mk y) w (by show y.toArray.size ≤ _; simp; omega)
  have c4 := fun w hT => qquote_any (mk t) w hT (by show t.toArray.size ≤ _; simp; omega)
  have ex : (⟨(Lib.trimPrefix s.data.toList (⟨#[34]⟩ : ByteArray).data.toList).toArray⟩ : ByteArray) = mk x := by rw [hx]; rfl
  have eo : Lib.hasPrefix s.data.toList (⟨#[34]⟩ : ByteArray).data.toList = opened (bs s) := rfl
  have ey : (⟨(Lib.trimSuffix (mk x).data.toList (⟨#[34]⟩ : ByteArray).data.toList).toArray⟩ : ByteArray) = mk y := by
    show mk (Lib.trimSuffix (bs (mk x)) [34]) = _
    rw [bs_mk, hx, hy]; rfl
  have ec : Lib.hasSuffix (mk x).data.toList (⟨#[34]⟩ : ByteArray).data.toList = closed (bs s) := by
    show Lib.hasSuffix (bs (mk x)) [34] = _
    rw [bs_mk, hx]; rfl
  rw [ex, eo] at c1
  rw [ey, ec] at c2
  rw [bs_mk, hy, ← ht] at c3
  rw [← hy] at c3
  rw [bs_mk] at c4
  have hU : unq (bs s) = if opened (bs s) = true ∧ closed (bs s) = true ∧ quoteL t = bs s then some t else none := by unfold unq; rw [← ht]
  have HU : Hid (unq (bs s) = if opened (bs s) = true ∧ closed (bs s) = true ∧ quoteL t = bs s then some t else none) := hU
  clear hU ht hx hy ex eo ey ec
  cases ho : opened (bs s) with
  | false =>
    have HX : Hid (unq (bs s) = none) := by show _ = _; rw [HU.out, ho]; simp
    rw [ho] at c1
    clear HU
    go_enter Tryz.func91, Tryz.ntmps91
    go_wp2_with first
      | (go_at_call 63; refine (c1 _).mono ?_; rintro e w' ⟨rfl, rfl⟩)
      | (go_at_call 110; refine (c2 _).mono ?_; rintro e w' ⟨rfl, rfl⟩)
    go_ret2
    exact ⟨by unfold unqV; rw [HX.out]; rfl, Below.refl _ _⟩
  | true =>
    rw [ho] at c1
    cases hc : closed (bs s) with
    | false =>
      have HX : Hid (unq (bs s) = none) := by show _ = _; rw [HU.out, hc]; simp
      rw [hc] at c2
      clear HU
      go_enter Tryz.func91, Tryz.ntmps91
      go_wp2_with first
        | (go_at_call 63; refine (c1 _).mono ?_; rintro e w' ⟨rfl, rfl⟩)
        | (go_at_call 110; refine (c2 _).mono ?_; rintro e w' ⟨rfl, rfl⟩)
      go_ret2
      exact ⟨by unfold unqV; rw [HX.out]; rfl, Below.refl _ _⟩
    | true =>
      rw [hc] at c2
      have hcmp : ((mk (quoteL t)).toList == s.toList) = decide (quoteL t = bs s) := by rw [str_beq, bs_mk]
      by_cases hq : quoteL t = bs s
      · have HX : Hid (unq (bs s) = some t) := by show _ = _; rw [HU.out, ho, hc, if_pos ⟨rfl, rfl, hq⟩]
        have hcmp2 : ((mk (quoteL t)).toList == s.toList) = true := by rw [hcmp, decide_eq_true hq]
        clear HU hcmp hq
        generalize mk (quoteL t) = Z at *
        go_enter Tryz.func91, Tryz.ntmps91
        go_wp2_with first
          | (go_at_call 63; refine (c1 _).mono ?_; rintro e w' ⟨rfl, rfl⟩)
          | (go_at_call 110; refine (c2 _).mono ?_; rintro e w' ⟨rfl, rfl⟩)
          | (go_at_call 111; refine (c3 _).mono ?_; rintro e w3 ⟨rfl, hB3⟩)
          | (go_at_call 112; refine (c4 _ (hT.below hB3)).mono ?_; rintro e w4 ⟨rfl, hB4⟩; have HB : Hid (Below _ _ w4) := hB3.trans (hB4.mono hB3.size))
        go_ret2
        exact ⟨by unfold unqV; rw [HX.out]; rfl, HB.out⟩
      · have HX : Hid (unq (bs s) = none) := by show _ = _; rw [HU.out, if_neg (fun h => hq h.2.2)]
        have hcmp2 : ((mk (quoteL t)).toList == s.toList) = false := by rw [hcmp, decide_eq_false hq]
        clear HU hcmp hq
        generalize mk (quoteL t) = Z at *
        go_enter Tryz.func91, Tryz.ntmps91
        go_wp2_with first
          | (go_at_call 63; refine (c1 _).mono ?_; rintro e w' ⟨rfl, rfl⟩)
          | (go_at_call 110; refine (c2 _).mono ?_; rintro e w' ⟨rfl, rfl⟩)
          | (go_at_call 111; refine (c3 _).mono ?_; rintro e w3 ⟨rfl, hB3⟩)
          | (go_at_call 112; refine (c4 _ (hT.below hB3)).mono ?_; rintro e w4 ⟨rfl, hB4⟩; have HB : Hid (Below _ _ w4) := hB3.trans (hB4.mono hB3.size))
        go_ret2
        exact ⟨by unfold unqV; rw [HX.out]; rfl, HB.out⟩
end Go.Proofs.YtggnglgehobglaaGreatDoor

/- A scope in which the run jumps among several labels: what holds at each jump, and a measure that falls from jump to jump. -/
namespace Go.Proofs.YtggnglgehobglaaGreatDoor

/-- by a goto to label l: J l; else as Q -/
def jumps (J : Nat → Act → World → Prop) (Q : Exit → Act → World → Prop) : Exit → Act → World → Prop
  | .goto l, a, w => J l a w
  | e, a, w => Q e a w

theorem wp_scope_many {P : Program} {a : Act} {w : World} {Q : Exit → Act → World → Prop} {c : Code} (J : Nat → Act → World → Prop) (μ : Nat → Act → World → Nat)
    (first : c.wp P (jumps J Q) a w)
    (pass : ∀ l a w, J l a w → ∃ rest, findLabel c l = some rest ∧ rest.wp P (jumps (fun l' a' w' => J l' a' w' ∧ μ l' a' w' < μ l a w) Q) a w) : (Code.scope c).wp P Q a w := by
  intro b k cs
  have key : ∀ n l a w, μ l a w = n → J l a w → ∃ rest e a' w', findLabel c l = some rest ∧ Q e a' w' ∧ Arrives P (lone (b.at a (.code rest :: .inScope c :: k)) cs w) b k cs e a' w' := by
    intro n
    induction n using Nat.strongRecOn with
    | _ n ih =>
      intro l a w hn hJ
      obtain ⟨rest, hf, hp⟩ := pass l a w hJ
      obtain ⟨e, a₁, w₁, hq, harr⟩ := hp b (.inScope c :: k) cs
      cases e with
      | normal => exact ⟨rest, .normal, a₁, w₁, hf, hq, Steps.trans harr (.one step_inScope)⟩
      | exit id => exact ⟨rest, .exit id, a₁, w₁, hf, hq, fun k' hk => harr k' (by simp [exitTo, hk])⟩
      | goto l' =>
        obtain ⟨hJ', hlt⟩ := hq
        obtain ⟨rest', e₂, a₂, w₂, hf', hq₂, harr₂⟩ := ih _ (by omega) l' a₁ w₁ rfl hJ'
        have hg : gotoIn l' (.inScope c :: k) = some (.code rest' :: .inScope c :: k) := by simp [gotoIn, hf']
        exact ⟨rest, e₂, a₂, w₂, hf, hq₂, .of_steps (harr _ hg) harr₂⟩
      | ret => exact ⟨rest, _, a₁, w₁, hf, hq, harr⟩
      | panic ch => exact ⟨rest, _, a₁, w₁, hf, hq, harr⟩
      | outgrown => exact ⟨rest, _, a₁, w₁, hf, hq, harr⟩
  obtain ⟨e, a₁, w₁, hq, harr⟩ := first b (.inScope c :: k) cs
  cases e with
  | normal => exact ⟨.normal, a₁, w₁, hq, .head step_scope (Steps.trans harr (.one step_inScope))⟩
  | exit id => exact ⟨.exit id, a₁, w₁, hq, fun k' hk => .head step_scope (harr k' (by simp [exitTo, hk]))⟩
  | goto l' =>
    obtain ⟨rest', e₂, a₂, w₂, hf', hq₂, harr₂⟩ := key _ l' a₁ w₁ rfl hq
    have hg : gotoIn l' (.inScope c :: k) = some (.code rest' :: .inScope c :: k) := by simp [gotoIn, hf']
    exact ⟨e₂, a₂, w₂, hq₂, .of_steps (.head step_scope (harr _ hg)) harr₂⟩
  | ret => exact ⟨_, a₁, w₁, hq, .of_steps (.one step_scope) harr⟩
  | panic ch => exact ⟨_, a₁, w₁, hq, .of_steps (.one step_scope) harr⟩
  | outgrown => exact ⟨_, a₁, w₁, hq, .of_steps (.one step_scope) harr⟩
end Go.Proofs.YtggnglgehobglaaGreatDoor
