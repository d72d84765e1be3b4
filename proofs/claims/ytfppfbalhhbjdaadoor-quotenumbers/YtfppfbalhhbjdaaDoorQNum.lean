/- The walks of Number and of the document's Number. -/
import Derived.Test.YtfppfbalhhbjdaaDoorQWidth
import Derived.Lib.Strings
namespace Go.Proofs.YtfppfbalhhbjdaaDoor
open Go.RowKit

def dig (c : UInt8) : Bool := decide (48 ≤ c.toNat) && decide (c.toNat ≤ 57)
def numF (x : Int) : List UInt8 → Option Int
  | [] => some x
  | c :: t => if dig c = true then numF (x * 10 + ((c.toNat : Int) - 48)) t else none
def belowL (l : List UInt8) : Bool := Lib.hasPrefix l [45]
def rowL (l : List UInt8) : List UInt8 := Lib.trimPrefix l [45]
def noNum (l : List UInt8) : Bool := decide (rowL l = []) || decide (18 < (rowL l).length) || (decide ((rowL l).getD 0 0 = 48) && (belowL l || decide (1 < (rowL l).length)))
/-- the number that a text says -/
def numL (l : List UInt8) : Option Int :=
  if noNum l = true then none else (numF 0 (rowL l)).map fun x => if belowL l = true then -x else x
def numV (o : Option Int) : Value := .tuple #[.int .i64 (o.getD 0), .bool o.isSome]

theorem numF_stop (x : Int) (l : List UInt8) (p : Nat) (hp : p < l.length) (h : dig (l.getD p 0) = false) : numF x (l.drop p) = none := by
  rw [List.drop_eq_getElem_cons hp]
  have e : l.getD p 0 = l[p] := by rw [List.getD_eq_getElem?_getD, List.getElem?_eq_getElem hp]; rfl
  rw [e] at h
  simp [numF, h]
theorem numF_step (x : Int) (l : List UInt8) (p : Nat) (hp : p < l.length) (h : dig (l.getD p 0) = true) : numF x (l.drop p) = numF (x * 10 + (((l.getD p 0).toNat : Int) - 48)) (l.drop (p + 1)) := by
  rw [List.drop_eq_getElem_cons hp]
  have e : l.getD p 0 = l[p] := by rw [List.getD_eq_getElem?_getD, List.getElem?_eq_getElem hp]; rfl
  rw [e] at h ⊢
  simp [numF, h]
theorem numF_end (x : Int) (l : List UInt8) (p : Nat) (hp : l.length ≤ p) : numF x (l.drop p) = some x := by rw [List.drop_eq_nil_of_le hp]; rfl
theorem numL_loop (l : List UInt8) (h : noNum l = false) (p : Nat) (x : Int) (o : Option Int) (hx : numF 0 (rowL l) = numF x ((rowL l).drop p)) (ho : numF x ((rowL l).drop p) = o) : numL l = o.map fun x => if belowL l = true then -x else x := by
  unfold numL; rw [if_neg (by rw [h]; simp), hx, ho]
theorem dig_rune (l : List UInt8) (p : Nat) (hp : p < l.length) (r d : Nat) (h : dec (l.drop p) = (r, d)) : (dig (l.getD p 0) = (decide (48 ≤ r) && decide (r ≤ 57))) ∧ (dig (l.getD p 0) = true → d = 1 ∧ r = (l.getD p 0).toNat) := by
  have hd : l.drop p = l[p] :: l.drop (p + 1) := List.drop_eq_getElem_cons hp
  have e : l.getD p 0 = l[p] := by rw [List.getD_eq_getElem?_getD, List.getElem?_eq_getElem hp]; rfl
  rw [hd] at h
  rw [e]
  by_cases hc : l[p].toNat < 128
  · rw [dec_ascii _ _ hc] at h
    cases h
    exact ⟨rfl, fun _ => ⟨rfl, rfl⟩⟩
  · have := dec_high l[p] (l.drop (p + 1)) (by omega)
    rw [h] at this
    simp only at this
    have hf : dig l[p] = false := by unfold dig; simp; omega
    refine ⟨?_, fun h => ?_⟩
    · rw [hf]; symm; simp; omega
    · rw [hf] at h; cases h

theorem at_bs' (s : ByteArray) (i : Nat) (h : i < s.size) : s[i]'h = (bs s).getD i 0 := by
  rw [List.getD_eq_getElem?_getD, List.getElem?_eq_getElem (by rw [bs_len]; exact h)]; rfl

set_option maxRecDepth 20000 in
set_option maxHeartbeats 2000000 in
theorem number_any (s : ByteArray) (w : World) (hs : s.size ≤ maxLen) :
    Calls Tryd.prog 22 #[.string s] w fun e w' => e = .returned (numV (numL (bs s))) ∧ Below w.heap.size w w' := by
  have hs' : s.size ≤ 9223372036854775807 := by unfold maxLen at hs; omega
  have c1 := fun w => Tryd.strings_CutPrefix s ⟨#[45]⟩ w
  obtain ⟨R, hR⟩ : ∃ R, R = mk (rowL (bs s)) := ⟨_, rfl⟩
  have eR : (⟨(Lib.trimPrefix s.data.toList (⟨#[45]⟩ : ByteArray).data.toList).toArray⟩ : ByteArray) = R := by rw [hR]; rfl
  have eB : Lib.hasPrefix s.data.toList (⟨#[45]⟩ : ByteArray).data.toList = belowL (bs s) := rfl
  rw [eR, eB] at c1
  have hrow : bs R = rowL (bs s) := by rw [hR, bs_mk]
  have HN : Hid (noNum (bs s) = (decide (bs R = []) || decide (18 < R.size) || (decide ((bs R).getD 0 0 = 48) && (belowL (bs s) || decide (1 < R.size))))) := by
    show _ = _
    unfold noNum
    rw [← hrow, bs_len]
  have HL : Hid (noNum (bs s) = true → numL (bs s) = none) := fun h => by unfold numL; rw [if_pos h]
  have HG : Hid (noNum (bs s) = false → ∀ (p : Nat) (x : Int) (o : Option Int), numF 0 (bs R) = numF x ((bs R).drop p) → numF x ((bs R).drop p) = o → numL (bs s) = o.map fun x => if belowL (bs s) = true then -x else x) := fun h p x o h1 h2 => by
    rw [hrow] at h1 h2; exact numL_loop _ h p x o h1 h2
  have hl := bs_len R
  clear hR eR eB hrow
  generalize belowL (bs s) = bl at *
  by_cases h0 : R.toList = []
  · have b0 : R.toList.isEmpty = true := by rw [h0]; rfl
    have HX : Hid (numL (bs s) = none) := HL.out (by rw [HN.out, ← toList_bs, h0]; rfl)
    clear HN HL HG
    go_enter Tryd.func22, Tryd.ntmps22
    go_wp2_with (go_at_call 25; refine (c1 _).mono ?_; rintro e w' ⟨rfl, rfl⟩)
    go_ret2
    exact ⟨by rw [HX.out]; rfl, Below.refl _ _⟩
  · have b0 : R.toList.isEmpty = false := by simpa using h0
    have hz : 0 < R.size := by
      rw [toList_bs] at h0
      have := mt (bs_nil R).2 h0
      omega
    have hn0 : decide (bs R = []) = false := by rw [← toList_bs]; exact decide_eq_false h0
    have HN1 : Hid (noNum (bs s) = (decide (18 < R.size) || (decide ((bs R).getD 0 0 = 48) && (bl || decide (1 < R.size))))) := by show _ = _; rw [HN.out, hn0, Bool.false_or]
    clear HN hn0
    by_cases h18 : 18 < R.size
    · have i18 : (18 : Int) < R.size := by omega
      have HX : Hid (numL (bs s) = none) := HL.out (by rw [HN1.out, decide_eq_true h18]; rfl)
      clear HN1 HL HG
      go_enter Tryd.func22, Tryd.ntmps22
      go_wp2_with (go_at_call 25; refine (c1 _).mono ?_; rintro e w' ⟨rfl, rfl⟩)
      go_ret2
      exact ⟨by rw [HX.out]; rfl, Below.refl _ _⟩
    · have i18 : ¬ (18 : Int) < R.size := by omega
      have i0 : (0 : Int) < R.size := by omega
      obtain ⟨c, hc⟩ : ∃ c, R[0]'hz = c := ⟨_, rfl⟩
      have hcg : (bs R).getD 0 0 = c := by rw [← at_bs' R 0 hz, hc]
      have HN2 : Hid (noNum (bs s) = (decide (c = 48) && (bl || decide (1 < R.size)))) := by show _ = _; rw [HN1.out, decide_eq_false h18, Bool.false_or, hcg]
      clear HN1 hcg
      by_cases hbad : noNum (bs s) = true
      · have HX : Hid (numL (bs s) = none) := HL.out hbad
        rw [HN2.out] at hbad
        simp only [Bool.and_eq_true, decide_eq_true_eq, Bool.or_eq_true] at hbad
        obtain ⟨rfl, hb2⟩ := hbad
        clear HN2 HL HG
        cases bl with
        | true =>
          go_enter Tryd.func22, Tryd.ntmps22
          go_wp2_with (go_at_call 25; refine (c1 _).mono ?_; rintro e w' ⟨rfl, rfl⟩)
          go_ret2
          exact ⟨by rw [HX.out]; rfl, Below.refl _ _⟩
        | false =>
          have i1 : (1 : Int) < R.size := by simp at hb2; omega
          go_enter Tryd.func22, Tryd.ntmps22
          go_wp2_with (go_at_call 25; refine (c1 _).mono ?_; rintro e w' ⟨rfl, rfl⟩)
          go_ret2
          exact ⟨by rw [HX.out]; rfl, Below.refl _ _⟩
      · have hbad' : noNum (bs s) = false := by simpa using hbad
        have HG2 : Hid (∀ (p : Nat) (x : Int) (o : Option Int), numF 0 (bs R) = numF x ((bs R).drop p) → numF x ((bs R).drop p) = o → numL (bs s) = o.map fun x => if bl = true then -x else x) := HG.out hbad'
        rw [HN2.out] at hbad'
        clear hbad HG HN2 HL
        by_cases h48 : c = 48
        · subst h48
          have hb2 : bl = false ∧ R.size = 1 := by simp at hbad'; exact ⟨hbad'.1, by omega⟩
          obtain ⟨rfl, hz1⟩ := hb2
          have i1 : ¬ (1 : Int) < R.size := by omega
          clear hbad'
          go_enter Tryd.func22, Tryd.ntmps22
          go_wp2_with (go_at_call 25; refine (c1 _).mono ?_; rintro e w' ⟨rfl, hw'⟩; have hw2 := hw'.symm; clear hw'; subst hw2)
          go_loopw [6] (fun n wr => ∃ (p : Nat) (x : Int), p ≤ R.size ∧ n = .int .i64 x ∧ 0 ≤ x ∧ x < 10 ^ p ∧ Row w w.heap.size (.stringIter R p) (.slice none 0 0) [] wr ∧ Hid (numF 0 (bs R) = numF x ((bs R).drop p))) (fun _ wr => R.size - wr.iterPos w.heap.size)
          case atStart => exact ⟨0, 0, Nat.zero_le _, rfl, Int.le_refl _, by decide, row_start w R, by simp [Hid]⟩
          case round =>
            obtain ⟨p, x, hp, rfl, hx0, hx1, hRw, H⟩ := hrel
            by_cases hlt : p < R.size
            · obtain ⟨r, d, hdec, hd, hd1, hd2, hr, hne, _, _⟩ := rune_at R p hlt
              obtain ⟨hg1, hg2⟩ := dig_rune (bs R) p (by omega) r d hd
              have hnx := run_next_at (P := Tryd.prog) wr w.heap.size R p hRw.iter hlt
              rw [hdec] at hnx
              have hR2 := hRw.put (.stringIter R (p + d)) (iter_obj R _)
              obtain ⟨W2, hW2⟩ : ∃ W2, W2 = wr.putObj w.heap.size (.stringIter R (p + d)) := ⟨_, rfl⟩
              simp only at hnx
              rw [← hW2] at hnx hR2
              have hm : Hid (R.size - W2.iterPos w.heap.size < R.size - wr.iterPos w.heap.size) := by
                show _ < _
                rw [iterPos_of hRw.iter, iterPos_of hR2.iter]; omega
              have HR : Hid (Row w w.heap.size (.stringIter R (p + d)) (.slice none 0 0) [] W2) := hR2
              cases hdg : dig ((bs R).getD p 0) with
              | false =>
                have HX : Hid (numL (bs s) = none) := HG2.out p x none H.out (numF_stop x _ p (by omega) hdg)
                rw [hdg] at hg1
                by_cases h48 : r < 48
                · have i48 : (r : Int) < 48 := by omega
                  clear hg1 hg2 hd hne hdec hW2 hR2 H hRw HG2 hdg hm
                  go_wp2
                  go_ret2
                  exact ⟨by rw [HX.out]; rfl, HR.out.bel⟩
                · have i48 : ¬ (r : Int) < 48 := by omega
                  have i57 : (57 : Int) < r := by simp at hg1; omega
                  clear hg1 hg2 hd hne hdec hW2 hR2 H hRw HG2 hdg hm
                  go_wp2
                  go_ret2
                  exact ⟨by rw [HX.out]; rfl, HR.out.bel⟩
              | true =>
                obtain ⟨rfl, hrv⟩ := hg2 hdg
                rw [hdg] at hg1
                have h48 : 48 ≤ r ∧ r ≤ 57 := by
                  have := hg1.symm
                  simpa using this
                have i48 : ¬ (r : Int) < 48 := by omega
                have i57 : ¬ (57 : Int) < r := by omega
                have HX : Hid (numF 0 (bs R) = numF (x * 10 + ((r : Int) - 48)) ((bs R).drop (p + 1))) := by
                  show _ = _
                  rw [H.out, numF_step x _ p (by omega) hdg, hrv]
                have hpw : (10 : Int) ^ p ≤ 100000000000000000 := by
                  have h1 : (10 : Nat) ^ p ≤ 10 ^ 17 := Nat.pow_le_pow_right (by omega) (by omega)
                  have h2 : ((10 ^ p : Nat) : Int) ≤ ((10 ^ 17 : Nat) : Int) := by exact_mod_cast h1
                  rw [Int.natCast_pow] at h2
                  simpa using h2
                have HP : Hid (x * 10 + ((r : Int) - 48) < 10 ^ (p + 1)) := by
                  show _ < _
                  rw [Int.pow_succ]; omega
                have hx2 : x ≤ 99999999999999999 := by omega
                clear hg1 hg2 hd hne hdec hW2 hR2 H hRw hdg hrv hpw hx1
                go_wp2
                go_roundw
                case rel => exact ⟨p + 1, x * 10 + ((r : Int) - 48), hd2, rfl, by omega, HP.out, HR.out, HX⟩
                case measure => exact hm.out
            · obtain rfl : p = R.size := by omega
              have hnx := run_next_over (P := Tryd.prog) wr w.heap.size R R.size hRw.iter hlt
              have HX : Hid (numL (bs s) = some (if false = true then -x else x)) := HG2.out R.size x (some x) H.out (numF_end x _ _ (by omega))
              have HB : Hid (Below w.heap.size w wr) := hRw.bel
              have hpw : (10 : Int) ^ R.size ≤ 1000000000000000000 := by
                have h1 : (10 : Nat) ^ R.size ≤ 10 ^ 18 := Nat.pow_le_pow_right (by omega) (by omega)
                have h2 : ((10 ^ R.size : Nat) : Int) ≤ ((10 ^ 18 : Nat) : Int) := by exact_mod_cast h1
                rw [Int.natCast_pow] at h2
                simpa using h2
              have hx2 : x ≤ 1000000000000000000 := by omega
              clear H hRw HG2 hpw hx1
              go_wp2
              go_ret2
              exact ⟨by rw [HX.out]; rfl, HB.out⟩
        · have b48 : ((c.toNat : Int) == 48) = false := beq_eq_false_iff_ne.2 (fun e => h48 (UInt8.toNat_inj.1 (by show _ = 48; omega)))
          clear hbad' h48
          go_enter Tryd.func22, Tryd.ntmps22
          go_wp2_with (go_at_call 25; refine (c1 _).mono ?_; rintro e w' ⟨rfl, hw'⟩; have hw2 := hw'.symm; clear hw'; subst hw2)
          go_loopw [6] (fun n wr => ∃ (p : Nat) (x : Int), p ≤ R.size ∧ n = .int .i64 x ∧ 0 ≤ x ∧ x < 10 ^ p ∧ Row w w.heap.size (.stringIter R p) (.slice none 0 0) [] wr ∧ Hid (numF 0 (bs R) = numF x ((bs R).drop p))) (fun _ wr => R.size - wr.iterPos w.heap.size)
          case atStart => exact ⟨0, 0, Nat.zero_le _, rfl, Int.le_refl _, by decide, row_start w R, by simp [Hid]⟩
          case round =>
            obtain ⟨p, x, hp, rfl, hx0, hx1, hRw, H⟩ := hrel
            by_cases hlt : p < R.size
            · obtain ⟨r, d, hdec, hd, hd1, hd2, hr, hne, _, _⟩ := rune_at R p hlt
              obtain ⟨hg1, hg2⟩ := dig_rune (bs R) p (by omega) r d hd
              have hnx := run_next_at (P := Tryd.prog) wr w.heap.size R p hRw.iter hlt
              rw [hdec] at hnx
              have hR2 := hRw.put (.stringIter R (p + d)) (iter_obj R _)
              obtain ⟨W2, hW2⟩ : ∃ W2, W2 = wr.putObj w.heap.size (.stringIter R (p + d)) := ⟨_, rfl⟩
              simp only at hnx
              rw [← hW2] at hnx hR2
              have hm : Hid (R.size - W2.iterPos w.heap.size < R.size - wr.iterPos w.heap.size) := by
                show _ < _
                rw [iterPos_of hRw.iter, iterPos_of hR2.iter]; omega
              have HR : Hid (Row w w.heap.size (.stringIter R (p + d)) (.slice none 0 0) [] W2) := hR2
              cases hdg : dig ((bs R).getD p 0) with
              | false =>
                have HX : Hid (numL (bs s) = none) := HG2.out p x none H.out (numF_stop x _ p (by omega) hdg)
                rw [hdg] at hg1
                by_cases h48 : r < 48
                · have i48 : (r : Int) < 48 := by omega
                  clear hg1 hg2 hd hne hdec hW2 hR2 H hRw HG2 hdg hm
                  go_wp2
                  go_ret2
                  exact ⟨by rw [HX.out]; rfl, HR.out.bel⟩
                · have i48 : ¬ (r : Int) < 48 := by omega
                  have i57 : (57 : Int) < r := by simp at hg1; omega
                  clear hg1 hg2 hd hne hdec hW2 hR2 H hRw HG2 hdg hm
                  go_wp2
                  go_ret2
                  exact ⟨by rw [HX.out]; rfl, HR.out.bel⟩
              | true =>
                obtain ⟨rfl, hrv⟩ := hg2 hdg
                rw [hdg] at hg1
                have h48 : 48 ≤ r ∧ r ≤ 57 := by
                  have := hg1.symm
                  simpa using this
                have i48 : ¬ (r : Int) < 48 := by omega
                have i57 : ¬ (57 : Int) < r := by omega
                have HX : Hid (numF 0 (bs R) = numF (x * 10 + ((r : Int) - 48)) ((bs R).drop (p + 1))) := by
                  show _ = _
                  rw [H.out, numF_step x _ p (by omega) hdg, hrv]
                have hpw : (10 : Int) ^ p ≤ 100000000000000000 := by
                  have h1 : (10 : Nat) ^ p ≤ 10 ^ 17 := Nat.pow_le_pow_right (by omega) (by omega)
                  have h2 : ((10 ^ p : Nat) : Int) ≤ ((10 ^ 17 : Nat) : Int) := by exact_mod_cast h1
                  rw [Int.natCast_pow] at h2
                  simpa using h2
                have HP : Hid (x * 10 + ((r : Int) - 48) < 10 ^ (p + 1)) := by
                  show _ < _
                  rw [Int.pow_succ]; omega
                have hx2 : x ≤ 99999999999999999 := by omega
                clear hg1 hg2 hd hne hdec hW2 hR2 H hRw hdg hrv hpw hx1
                go_wp2
                go_roundw
                case rel => exact ⟨p + 1, x * 10 + ((r : Int) - 48), hd2, rfl, by omega, HP.out, HR.out, HX⟩
                case measure => exact hm.out
            · obtain rfl : p = R.size := by omega
              have hnx := run_next_over (P := Tryd.prog) wr w.heap.size R R.size hRw.iter hlt
              have HX : Hid (numL (bs s) = some (if bl = true then -x else x)) := HG2.out R.size x (some x) H.out (numF_end x _ _ (by omega))
              have HB : Hid (Below w.heap.size w wr) := hRw.bel
              have hpw : (10 : Int) ^ R.size ≤ 1000000000000000000 := by
                have h1 : (10 : Nat) ^ R.size ≤ 10 ^ 18 := Nat.pow_le_pow_right (by omega) (by omega)
                have h2 : ((10 ^ R.size : Nat) : Int) ≤ ((10 ^ 18 : Nat) : Int) := by exact_mod_cast h1
                rw [Int.natCast_pow] at h2
                simpa using h2
              have hx2 : x ≤ 1000000000000000000 := by omega
              clear H hRw HG2 hpw hx1
              cases bl with
              | true =>
                go_wp2
                go_ret2
                exact ⟨by rw [HX.out]; rfl, HB.out⟩
              | false =>
                go_wp2
                go_ret2
                exact ⟨by rw [HX.out]; rfl, HB.out⟩

theorem getD_drop' (L : List UInt8) (i j : Nat) : (L.drop i).getD j 0 = L.getD (i + j) 0 := by simp [List.getD_eq_getElem?_getD, List.getElem?_drop]
theorem belowL_iff (s : ByteArray) : belowL (bs s) = true ↔ ∃ h : 0 < s.size, s[0]'h = 45 := by
  unfold belowL Lib.hasPrefix
  rw [List.isPrefixOf_iff_prefix]
  constructor
  · rintro ⟨t, ht⟩
    have hz : 0 < s.size := by rw [← bs_len, ← ht]; simp
    refine ⟨hz, ?_⟩
    rw [at_bs' s 0 hz, ← ht]; rfl
  · rintro ⟨h, hc⟩
    rw [at_bs' s 0 h] at hc
    have := bs_len s
    match hb : bs s with
    | [] => rw [hb] at this; simp at this; omega
    | c :: t => rw [hb] at hc; simp at hc; subst hc; exact ⟨t, rfl⟩

set_option maxRecDepth 20000 in
set_option maxHeartbeats 4000000 in
theorem refNumber_any (s : ByteArray) (w : World) (hs : s.size ≤ maxLen) :
    Calls Tryd.prog 23 #[.string s] w fun e w' => e = .returned (numV (numL (bs s))) ∧ Below w.heap.size w w' := by
  have hs' : s.size ≤ 9223372036854775807 := by unfold maxLen at hs; omega
  have hl := bs_len s
  cases hbl : belowL (bs s) with
  | true =>
    obtain ⟨hz, hc0⟩ := (belowL_iff s).1 hbl
    have iz : (0 : Int) < s.size := by omega
    have hrow : rowL (bs s) = (bs s).drop 1 := by
      unfold rowL Lib.trimPrefix
      unfold belowL at hbl
      rw [if_pos hbl]; rfl
    have HN : Hid (noNum (bs s) = (decide (s.size - 1 = 0) || decide (18 < s.size - 1) || (decide ((bs s).getD 1 0 = 48) && (true || decide (1 < s.size - 1))))) := by
      show _ = _
      unfold noNum
      rw [hrow, hbl, List.length_drop, hl, getD_drop']
      congr 2
      rw [decide_eq_decide, List.drop_eq_nil_iff, hl]; omega
    have HL : Hid (noNum (bs s) = true → numL (bs s) = none) := fun h => by unfold numL; rw [if_pos h]
    have HG : Hid (noNum (bs s) = false → ∀ (p : Nat) (x : Int) (o : Option Int), numF 0 ((bs s).drop 1) = numF x (((bs s).drop 1).drop p) → numF x (((bs s).drop 1).drop p) = o → numL (bs s) = o.map fun x => if true = true then -x else x) := fun h p x o h1 h2 => by
      rw [← hrow] at h1 h2; have h3 := numL_loop _ h p x o h1 h2; rw [hbl] at h3; exact h3
    clear hrow hbl
    by_cases h1 : s.size - 1 = 0
    · have i1 : (s.size : Int) - 1 < 1 := by omega
      have HX : Hid (numL (bs s) = none) := HL.out (by rw [HN.out, decide_eq_true h1]; rfl)
      clear HN HL HG
      go_enter Tryd.func23, Tryd.ntmps23
      go_wp2
      go_ret2
      exact ⟨by rw [HX.out]; rfl, Below.refl _ _⟩
    · have i1 : ¬ (s.size : Int) - 1 < 1 := by omega
      by_cases h18 : 18 < s.size - 1
      · have i18 : (18 : Int) < (s.size : Int) - 1 := by omega
        have HX : Hid (numL (bs s) = none) := HL.out (by rw [HN.out, decide_eq_true h18]; simp)
        clear HN HL HG
        go_enter Tryd.func23, Tryd.ntmps23
        go_wp2
        go_ret2
        exact ⟨by rw [HX.out]; rfl, Below.refl _ _⟩
      · have i18 : ¬ (18 : Int) < (s.size : Int) - 1 := by omega
        have hA : 1 < s.size := by omega
        have iA : (1 : Int) < s.size := by omega
        obtain ⟨c, hc⟩ : ∃ c, s[1]'hA = c := ⟨_, rfl⟩
        have hcg : (bs s).getD 1 0 = c := by rw [← at_bs' s 1 hA, hc]
        have HN2 : Hid (noNum (bs s) = (decide (c = 48) && (true || decide (1 < s.size - 1)))) := by show _ = _; rw [HN.out, decide_eq_false h1, decide_eq_false h18, hcg]; rfl
        clear HN hcg
        by_cases h48 : c = 48
        · subst h48
          have HX : Hid (numL (bs s) = none) := HL.out (by rw [HN2.out]; rfl)
          clear HN2 HL HG
          go_enter Tryd.func23, Tryd.ntmps23
          go_wp2
          all_goals go_ret2
          all_goals exact ⟨by rw [HX.out]; rfl, Below.refl _ _⟩
        · have b48 : ((c.toNat : Int) == 48) = false := beq_eq_false_iff_ne.2 (fun e => h48 (UInt8.toNat_inj.1 (by show _ = 48; omega)))
          have HG2 := HG.out (by rw [HN2.out, decide_eq_false h48]; rfl)
          have HG2 : Hid _ := HG2
          clear HG HN2 HL h48
          go_enter Tryd.func23, Tryd.ntmps23
          go_wp2
          go_loop [7, 8] (fun n i => ∃ (p P : Nat) (x : Int), Hid (P = p + 1) ∧ P ≤ s.size ∧ n = .int .i64 x ∧ i = .int .i64 (P : Int) ∧ 0 ≤ x ∧ x < 10 ^ p ∧ Hid (numF 0 ((bs s).drop 1) = numF x (((bs s).drop 1).drop p))) (fun _ i => s.size - (intOf i).toNat)
          case atStart => exact ⟨0, 1, 0, rfl, by omega, rfl, rfl, Int.le_refl _, by decide, by simp [Hid]⟩
          case round =>
            obtain ⟨p, P, x, HPp, hp, rfl, rfl, hx0, hx1, H⟩ := hrel

            by_cases hlt : P < s.size
            · have ilt : (P : Int) < s.size := by omega
              have hll : p < ((bs s).drop 1).length := by have := HPp.out; rw [List.length_drop]; omega
              obtain ⟨q, hq⟩ : ∃ q, s[P]'hlt = q := ⟨_, rfl⟩
              have hqg : ((bs s).drop 1).getD p 0 = q := by rw [List.getD_eq_getElem?_getD, List.getElem?_drop, Nat.add_comm, ← HPp.out, ← List.getD_eq_getElem?_getD, ← at_bs' s _ hlt, hq]
              cases hdg : dig q with
              | false =>
                have HX : Hid (numL (bs s) = none) := HG2.out p x none H.out (numF_stop x _ p hll (by rw [hqg]; exact hdg))
                by_cases h48 : q.toNat < 48
                · have i48 : (q.toNat : Int) < 48 := by omega
                  clear hqg H HG2 hdg hll
                  go_wp2
                  go_ret2
                  exact ⟨by rw [HX.out]; rfl, Below.refl _ _⟩
                · have i48 : ¬ (q.toNat : Int) < 48 := by omega
                  have i57 : (57 : Int) < q.toNat := by simp [dig] at hdg; omega
                  clear hqg H HG2 hdg hll
                  go_wp2
                  go_ret2
                  exact ⟨by rw [HX.out]; rfl, Below.refl _ _⟩
              | true =>
                have h48 : 48 ≤ q.toNat ∧ q.toNat ≤ 57 := by simpa [dig] using hdg
                have i48 : ¬ (q.toNat : Int) < 48 := by omega
                have i57 : ¬ (57 : Int) < q.toNat := by omega
                have HX : Hid (numF 0 ((bs s).drop 1) = numF (x * 10 + ((q.toNat : Int) - 48)) (((bs s).drop 1).drop (p + 1))) := by
                  show _ = _
                  rw [H.out, numF_step x _ p hll (by rw [hqg]; exact hdg), hqg]
                have hpw : (10 : Int) ^ p ≤ 100000000000000000 := by
                  have h1 : (10 : Nat) ^ p ≤ 10 ^ 17 := Nat.pow_le_pow_right (by omega) (by have := HPp.out; omega)
                  have h2 : ((10 ^ p : Nat) : Int) ≤ ((10 ^ 17 : Nat) : Int) := by exact_mod_cast h1
                  rw [Int.natCast_pow] at h2
                  simpa using h2
                have HP : Hid (x * 10 + ((q.toNat : Int) - 48) < 10 ^ (p + 1)) := by
                  show _ < _
                  rw [Int.pow_succ]; omega
                have hx2 : x ≤ 99999999999999999 := by omega
                have i1 : (P : Int) + 1 ≤ 9223372036854775807 := by omega
                clear hqg H hdg hpw hx1 hll
                go_wp2
                go_round
                case rel => exact ⟨p + 1, P + 1, x * 10 + ((q.toNat : Int) - 48), by have := HPp.out; show _ = _; omega, by omega, rfl, by go_num, by omega, HP.out, HX⟩
                case measure => simp [intOf]; omega
            · have ilt : ¬ (P : Int) < s.size := by omega
              have HX : Hid (numL (bs s) = some (if true = true then -x else x)) := HG2.out p x (some x) H.out (numF_end x _ _ (by have := HPp.out; rw [List.length_drop]; omega))
              have hpw : (10 : Int) ^ p ≤ 1000000000000000000 := by
                have h1 : (10 : Nat) ^ p ≤ 10 ^ 18 := Nat.pow_le_pow_right (by omega) (by have := HPp.out; omega)
                have h2 : ((10 ^ p : Nat) : Int) ≤ ((10 ^ 18 : Nat) : Int) := by exact_mod_cast h1
                rw [Int.natCast_pow] at h2
                simpa using h2
              have hx2 : x ≤ 1000000000000000000 := by omega
              clear H HG2 hpw hx1
              go_wp2
              go_ret2
              exact ⟨by rw [HX.out]; rfl, Below.refl _ _⟩
  | false =>
    have hno : ¬ ∃ h : 0 < s.size, s[0]'h = 45 := fun h => by rw [(belowL_iff s).2 h] at hbl; cases hbl
    by_cases hz : 0 < s.size
    · have iz : (0 : Int) < s.size := by omega
      obtain ⟨z, hzz⟩ : ∃ z, s[0]'hz = z := ⟨_, rfl⟩
      have b45 : ((z.toNat : Int) == 45) = false := beq_eq_false_iff_ne.2 (fun e => hno ⟨hz, by rw [hzz]; exact UInt8.toNat_inj.1 (by show _ = 45; omega)⟩)
      clear hno
      have hrow : rowL (bs s) = (bs s).drop 0 := by
        unfold rowL Lib.trimPrefix
        unfold belowL at hbl
        rw [hbl]; rfl
      have HN : Hid (noNum (bs s) = (decide (s.size - 0 = 0) || decide (18 < s.size - 0) || (decide ((bs s).getD 0 0 = 48) && (false || decide (1 < s.size - 0))))) := by
        show _ = _
        unfold noNum
        rw [hrow, hbl, List.length_drop, hl, getD_drop']
        congr 2
        rw [decide_eq_decide, List.drop_eq_nil_iff, hl]; omega
      have HL : Hid (noNum (bs s) = true → numL (bs s) = none) := fun h => by unfold numL; rw [if_pos h]
      have HG : Hid (noNum (bs s) = false → ∀ (p : Nat) (x : Int) (o : Option Int), numF 0 ((bs s).drop 0) = numF x (((bs s).drop 0).drop p) → numF x (((bs s).drop 0).drop p) = o → numL (bs s) = o.map fun x => if false = true then -x else x) := fun h p x o h1 h2 => by
        rw [← hrow] at h1 h2; have h3 := numL_loop _ h p x o h1 h2; rw [hbl] at h3; exact h3
      clear hrow hbl
      by_cases h1 : s.size - 0 = 0
      · have i1 : (s.size : Int) < 1 := by omega
        have HX : Hid (numL (bs s) = none) := HL.out (by rw [HN.out, decide_eq_true h1]; rfl)
        clear HN HL HG
        go_enter Tryd.func23, Tryd.ntmps23
        go_wp2
        go_ret2
        exact ⟨by rw [HX.out]; rfl, Below.refl _ _⟩
      · have i1 : ¬ (s.size : Int) < 1 := by omega
        by_cases h18 : 18 < s.size - 0
        · have i18 : (18 : Int) < (s.size : Int) := by omega
          have HX : Hid (numL (bs s) = none) := HL.out (by rw [HN.out, decide_eq_true h18]; simp)
          clear HN HL HG
          go_enter Tryd.func23, Tryd.ntmps23
          go_wp2
          go_ret2
          exact ⟨by rw [HX.out]; rfl, Below.refl _ _⟩
        · have i18 : ¬ (18 : Int) < (s.size : Int) := by omega
          have hA : 0 < s.size := by omega
          have iA : (0 : Int) < s.size := by omega
          obtain ⟨c, hc⟩ : ∃ c, s[0]'hA = c := ⟨_, rfl⟩
          have hcg : (bs s).getD 0 0 = c := by rw [← at_bs' s 0 hA, hc]
          obtain rfl : c = z := by rw [← hc, ← hzz]
          clear hc
          have HN2 : Hid (noNum (bs s) = (decide (c = 48) && (false || decide (1 < s.size - 0)))) := by show _ = _; rw [HN.out, decide_eq_false h1, decide_eq_false h18, hcg]; rfl
          clear HN hcg
          by_cases h48 : c = 48
          · subst h48
            by_cases h2 : 1 < s.size - 0
            · have i2 : (1 : Int) < s.size := by omega
              have HX : Hid (numL (bs s) = none) := HL.out (by rw [HN2.out, decide_eq_true h2]; rfl)
              clear HN2 HL HG
              go_enter Tryd.func23, Tryd.ntmps23
              go_wp2
              go_ret2
              exact ⟨by rw [HX.out]; rfl, Below.refl _ _⟩
            · have i2 : ¬ (1 : Int) < s.size := by omega
              have HG2 := HG.out (by rw [HN2.out, decide_eq_false h2]; rfl)
              have HG2 : Hid _ := HG2
              clear HG HN2 HL
              go_enter Tryd.func23, Tryd.ntmps23
              go_wp2
              go_loop [7, 8] (fun n i => ∃ (p P : Nat) (x : Int), Hid (P = p + 0) ∧ P ≤ s.size ∧ n = .int .i64 x ∧ i = .int .i64 (P : Int) ∧ 0 ≤ x ∧ x < 10 ^ p ∧ Hid (numF 0 ((bs s).drop 0) = numF x (((bs s).drop 0).drop p))) (fun _ i => s.size - (intOf i).toNat)
              case atStart => exact ⟨0, 0, 0, rfl, by omega, rfl, rfl, Int.le_refl _, by decide, by simp [Hid]⟩
              case round =>
                obtain ⟨p, P, x, HPp, hp, rfl, rfl, hx0, hx1, H⟩ := hrel

                by_cases hlt : P < s.size
                · have ilt : (P : Int) < s.size := by omega
                  have hll : p < ((bs s).drop 0).length := by have := HPp.out; rw [List.length_drop]; omega
                  obtain ⟨q, hq⟩ : ∃ q, s[P]'hlt = q := ⟨_, rfl⟩
                  have hqg : ((bs s).drop 0).getD p 0 = q := by rw [List.getD_eq_getElem?_getD, List.getElem?_drop, Nat.add_comm, ← HPp.out, ← List.getD_eq_getElem?_getD, ← at_bs' s _ hlt, hq]
                  cases hdg : dig q with
                  | false =>
                    have HX : Hid (numL (bs s) = none) := HG2.out p x none H.out (numF_stop x _ p hll (by rw [hqg]; exact hdg))
                    by_cases h48 : q.toNat < 48
                    · have i48 : (q.toNat : Int) < 48 := by omega
                      clear hqg H HG2 hdg hll
                      go_wp2
                      go_ret2
                      exact ⟨by rw [HX.out]; rfl, Below.refl _ _⟩
                    · have i48 : ¬ (q.toNat : Int) < 48 := by omega
                      have i57 : (57 : Int) < q.toNat := by simp [dig] at hdg; omega
                      clear hqg H HG2 hdg hll
                      go_wp2
                      go_ret2
                      exact ⟨by rw [HX.out]; rfl, Below.refl _ _⟩
                  | true =>
                    have h48 : 48 ≤ q.toNat ∧ q.toNat ≤ 57 := by simpa [dig] using hdg
                    have i48 : ¬ (q.toNat : Int) < 48 := by omega
                    have i57 : ¬ (57 : Int) < q.toNat := by omega
                    have HX : Hid (numF 0 ((bs s).drop 0) = numF (x * 10 + ((q.toNat : Int) - 48)) (((bs s).drop 0).drop (p + 1))) := by
                      show _ = _
                      rw [H.out, numF_step x _ p hll (by rw [hqg]; exact hdg), hqg]
                    have hpw : (10 : Int) ^ p ≤ 100000000000000000 := by
                      have h1 : (10 : Nat) ^ p ≤ 10 ^ 17 := Nat.pow_le_pow_right (by omega) (by have := HPp.out; omega)
                      have h2 : ((10 ^ p : Nat) : Int) ≤ ((10 ^ 17 : Nat) : Int) := by exact_mod_cast h1
                      rw [Int.natCast_pow] at h2
                      simpa using h2
                    have HP : Hid (x * 10 + ((q.toNat : Int) - 48) < 10 ^ (p + 1)) := by
                      show _ < _
                      rw [Int.pow_succ]; omega
                    have hx2 : x ≤ 99999999999999999 := by omega
                    have i1 : (P : Int) + 1 ≤ 9223372036854775807 := by omega
                    clear hqg H hdg hpw hx1 hll
                    go_wp2
                    go_round
                    case rel => exact ⟨p + 1, P + 1, x * 10 + ((q.toNat : Int) - 48), by have := HPp.out; show _ = _; omega, by omega, rfl, by go_num, by omega, HP.out, HX⟩
                    case measure => simp [intOf]; omega
                · have ilt : ¬ (P : Int) < s.size := by omega
                  have HX : Hid (numL (bs s) = some (if false = true then -x else x)) := HG2.out p x (some x) H.out (numF_end x _ _ (by have := HPp.out; rw [List.length_drop]; omega))
                  have hpw : (10 : Int) ^ p ≤ 1000000000000000000 := by
                    have h1 : (10 : Nat) ^ p ≤ 10 ^ 18 := Nat.pow_le_pow_right (by omega) (by have := HPp.out; omega)
                    have h2 : ((10 ^ p : Nat) : Int) ≤ ((10 ^ 18 : Nat) : Int) := by exact_mod_cast h1
                    rw [Int.natCast_pow] at h2
                    simpa using h2
                  have hx2 : x ≤ 1000000000000000000 := by omega
                  clear H HG2 hpw hx1
                  go_wp2
                  go_ret2
                  exact ⟨by rw [HX.out]; rfl, Below.refl _ _⟩
          · have b48 : ((c.toNat : Int) == 48) = false := beq_eq_false_iff_ne.2 (fun e => h48 (UInt8.toNat_inj.1 (by show _ = 48; omega)))
            have HG2 := HG.out (by rw [HN2.out, decide_eq_false h48]; rfl)
            have HG2 : Hid _ := HG2
            clear HG HN2 HL h48
            go_enter Tryd.func23, Tryd.ntmps23
            go_wp2
            go_loop [7, 8] (fun n i => ∃ (p P : Nat) (x : Int), Hid (P = p + 0) ∧ P ≤ s.size ∧ n = .int .i64 x ∧ i = .int .i64 (P : Int) ∧ 0 ≤ x ∧ x < 10 ^ p ∧ Hid (numF 0 ((bs s).drop 0) = numF x (((bs s).drop 0).drop p))) (fun _ i => s.size - (intOf i).toNat)
            case atStart => exact ⟨0, 0, 0, rfl, by omega, rfl, rfl, Int.le_refl _, by decide, by simp [Hid]⟩
            case round =>
              obtain ⟨p, P, x, HPp, hp, rfl, rfl, hx0, hx1, H⟩ := hrel

              by_cases hlt : P < s.size
              · have ilt : (P : Int) < s.size := by omega
                have hll : p < ((bs s).drop 0).length := by have := HPp.out; rw [List.length_drop]; omega
                obtain ⟨q, hq⟩ : ∃ q, s[P]'hlt = q := ⟨_, rfl⟩
                have hqg : ((bs s).drop 0).getD p 0 = q := by rw [List.getD_eq_getElem?_getD, List.getElem?_drop, Nat.add_comm, ← HPp.out, ← List.getD_eq_getElem?_getD, ← at_bs' s _ hlt, hq]
                cases hdg : dig q with
                | false =>
                  have HX : Hid (numL (bs s) = none) := HG2.out p x none H.out (numF_stop x _ p hll (by rw [hqg]; exact hdg))
                  by_cases h48 : q.toNat < 48
                  · have i48 : (q.toNat : Int) < 48 := by omega
                    clear hqg H HG2 hdg hll
                    go_wp2
                    go_ret2
                    exact ⟨by rw [HX.out]; rfl, Below.refl _ _⟩
                  · have i48 : ¬ (q.toNat : Int) < 48 := by omega
                    have i57 : (57 : Int) < q.toNat := by simp [dig] at hdg; omega
                    clear hqg H HG2 hdg hll
                    go_wp2
                    go_ret2
                    exact ⟨by rw [HX.out]; rfl, Below.refl _ _⟩
                | true =>
                  have h48 : 48 ≤ q.toNat ∧ q.toNat ≤ 57 := by simpa [dig] using hdg
                  have i48 : ¬ (q.toNat : Int) < 48 := by omega
                  have i57 : ¬ (57 : Int) < q.toNat := by omega
                  have HX : Hid (numF 0 ((bs s).drop 0) = numF (x * 10 + ((q.toNat : Int) - 48)) (((bs s).drop 0).drop (p + 1))) := by
                    show _ = _
                    rw [H.out, numF_step x _ p hll (by rw [hqg]; exact hdg), hqg]
                  have hpw : (10 : Int) ^ p ≤ 100000000000000000 := by
                    have h1 : (10 : Nat) ^ p ≤ 10 ^ 17 := Nat.pow_le_pow_right (by omega) (by have := HPp.out; omega)
                    have h2 : ((10 ^ p : Nat) : Int) ≤ ((10 ^ 17 : Nat) : Int) := by exact_mod_cast h1
                    rw [Int.natCast_pow] at h2
                    simpa using h2
                  have HP : Hid (x * 10 + ((q.toNat : Int) - 48) < 10 ^ (p + 1)) := by
                    show _ < _
                    rw [Int.pow_succ]; omega
                  have hx2 : x ≤ 99999999999999999 := by omega
                  have i1 : (P : Int) + 1 ≤ 9223372036854775807 := by omega
                  clear hqg H hdg hpw hx1 hll
                  go_wp2
                  go_round
                  case rel => exact ⟨p + 1, P + 1, x * 10 + ((q.toNat : Int) - 48), by have := HPp.out; show _ = _; omega, by omega, rfl, by go_num, by omega, HP.out, HX⟩
                  case measure => simp [intOf]; omega
              · have ilt : ¬ (P : Int) < s.size := by omega
                have HX : Hid (numL (bs s) = some (if false = true then -x else x)) := HG2.out p x (some x) H.out (numF_end x _ _ (by have := HPp.out; rw [List.length_drop]; omega))
                have hpw : (10 : Int) ^ p ≤ 1000000000000000000 := by
                  have h1 : (10 : Nat) ^ p ≤ 10 ^ 18 := Nat.pow_le_pow_right (by omega) (by have := HPp.out; omega)
                  have h2 : ((10 ^ p : Nat) : Int) ≤ ((10 ^ 18 : Nat) : Int) := by exact_mod_cast h1
                  rw [Int.natCast_pow] at h2
                  simpa using h2
                have hx2 : x ≤ 1000000000000000000 := by omega
                clear H HG2 hpw hx1
                go_wp2
                go_ret2
                exact ⟨by rw [HX.out]; rfl, Below.refl _ _⟩
    · have iz : ¬ (0 : Int) < s.size := by omega
      have hz0 : s.size = 0 := by omega
      have HX : Hid (numL (bs s) = none) := by
        show _ = _
        rw [(bs_nil s).2 hz0]; rfl
      clear hbl hno
      go_enter Tryd.func23, Tryd.ntmps23
      go_wp2
      go_ret2
      exact ⟨by rw [HX.out]; rfl, Below.refl _ _⟩
end Go.Proofs.YtfppfbalhhbjdaaDoor
