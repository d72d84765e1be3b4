/- Plain: a run's bytes with one turned, one less, one more are no run's. -/
import Derived.Test.YtgcbbnmjomhngaaVPlain
import Derived.Test.YtgcbbnmjomhngaaHashPlain
namespace Go.Proofs.Ytgcbbnmjomhngaa
open Go.RowKit

theorem runB_short (l : List Pr) : runB l = short l.length ++ (prBytes l ++ wide (vhashN (headB l))) := by rw [runB, headB, List.append_assoc]
/-- bytes that begin with the short form of n are a run's of n pairs, or none's -/
theorem run_same_len {B r : List UInt8} {n : Nat} {l : List Pr} (hn : n < 18446744073709551616) (h : pairsR B = some l) (hB : B = short n ++ r) : l.length = n ∧ B = runB l ∧ Good l := by
  obtain ⟨hg, e⟩ := pairs_good h
  have h1 := num_short_app n hn r
  have hl := hg.len
  have h2 := num_short_app l.length (by omega) (prBytes l ++ wide (vhashN (headB l)))
  rw [← runB_short, ← e, hB] at h2
  rw [h1] at h2
  simp only [Prod.mk.injEq] at h2
  exact ⟨by omega, e, hg⟩
theorem run_len_eq {l m : List Pr} (h : l.length = m.length) : (runB l).length = (runB m).length := by rw [runB_len, runB_len, h]
theorem pairs_cut {l : List Pr} (hg : Good l) : pairsR ((runB l).take ((runB l).length - 1)) = none := by
  cases h : pairsR ((runB l).take ((runB l).length - 1)) with
  | none => rfl
  | some m =>
    have hl := hg.len
    have hlen := runB_len l
    obtain ⟨h1, h2, _⟩ := run_same_len (n := l.length) (r := (prBytes l ++ wide (vhashN (headB l))).take ((runB l).length - 1 - (short l.length).length)) (by omega) h (by
      conv => lhs; arg 2; rw [runB_short]
      rw [List.take_append, List.take_of_length_le (by omega)])
    have h3 := congrArg List.length h2
    rw [run_len_eq h1, List.length_take] at h3
    omega
theorem pairs_more {l : List Pr} (hg : Good l) (y : UInt8) : pairsR (runB l ++ [y]) = none := by
  cases h : pairsR (runB l ++ [y]) with
  | none => rfl
  | some m =>
    have hl := hg.len
    obtain ⟨h1, h2, _⟩ := run_same_len (n := l.length) (r := prBytes l ++ wide (vhashN (headB l)) ++ [y]) (by omega) h (by
      rw [runB_short, List.append_assoc])
    have h3 := congrArg List.length h2
    rw [run_len_eq h1, List.length_append] at h3
    simp at h3
theorem bt_set (l : List UInt8) (i j : Nat) (c : UInt8) (h : i < l.length) : bt (l.set i c) j = if j = i then (c.toNat : Int) else bt l j := by
  unfold bt
  rw [List.getD_eq_getElem?_getD, List.getD_eq_getElem?_getD]
  by_cases e : j = i
  · subst e
    rw [if_pos rfl, List.getElem?_set_self h]
    rfl
  · rw [if_neg e, List.getElem?_set_ne (Ne.symm e)]
theorem wide_hash_inj {A B : List UInt8} (h : wide (vhashN A) = wide (vhashN B)) : vhashN A = vhashN B := by
  have h1 := wv_wide (vhashN A) (vhashN_lt A) []
  have h2 := wv_wide (vhashN B) (vhashN_lt B) []
  rw [List.append_nil] at h1 h2
  rw [← h1, ← h2, h]
theorem headB_take {l : List Pr} : (runB l).take ((runB l).length - 8) = headB l ∧ (runB l).drop ((runB l).length - 8) = wide (vhashN (headB l)) := by
  have hh : (headB l).length = (runB l).length - 8 := by rw [runB, List.length_append, vwide_len]; omega
  rw [← hh]
  exact ⟨by rw [runB, List.take_left], by rw [runB, List.drop_left]⟩
theorem short_one (n : Nat) (h : n < 128) : short n = [UInt8.ofNat n] := shortF_low 9 n h
theorem pairs_turn {l : List Pr} (_hg : Good l) (hl : l.length ≤ 60) (i : Nat) (h1 : 1 ≤ i) (hi : i < (runB l).length) (c : UInt8) (hc : (runB l)[i]? ≠ some c) : pairsR ((runB l).set i c) = none := by
  cases h : pairsR ((runB l).set i c) with
  | none => rfl
  | some m =>
    exfalso
    have hs := runB_short l
    rw [short_one l.length (by omega)] at hs
    obtain ⟨j, rfl⟩ : ∃ j, i = j + 1 := ⟨i - 1, by omega⟩
    obtain ⟨e1, e2, _⟩ := run_same_len (n := l.length) (r := (prBytes l ++ wide (vhashN (headB l))).set j c) (by omega) h (by
      rw [short_one l.length (by omega)]
      conv => lhs; rw [hs]
      rfl)
    have hlen := run_len_eq e1
    have hN : (runB l).length = (runB m).length := hlen.symm
    obtain ⟨t1, t2⟩ := headB_take (l := l)
    obtain ⟨u1, u2⟩ := headB_take (l := m)
    rw [← e2, List.length_set] at u1 u2
    by_cases hj : j + 1 < (runB l).length - 8
    · rw [List.drop_set, if_pos hj, t2] at u2
      have hv := wide_hash_inj u2
      rw [List.take_set, t1] at u1
      have hlh : j + 1 < (headB l).length := by
        have := congrArg List.length t1
        rw [List.length_take] at this
        omega
      have hlm : (headB m).length = (headB l).length := by rw [← u1, List.length_set]
      have e3 := vhashN_int (headB l) _ rfl
      have e4 := vhashN_int (headB m) _ hlm
      rw [← hv, ← e3, ← u1] at e4
      refine hashTo_other ((headB l).set (j + 1) c) (headB l) (j + 1) _ hlh (fun k hk => ?_) ?_ e4
      · rw [bt_set _ _ _ _ hlh, if_neg hk]
      · rw [bt_set _ _ _ _ hlh, if_pos rfl]
        intro e
        apply hc
        have hget : (runB l)[j + 1]? = (headB l)[j + 1]? := by
          rw [runB, List.getElem?_append_left hlh]
        rw [hget, List.getElem?_eq_getElem hlh]
        unfold bt at e
        rw [List.getD_eq_getElem?_getD, List.getElem?_eq_getElem hlh] at e
        simp only [Option.getD_some] at e
        rw [UInt8.toNat_inj.1 (by omega : c.toNat = ((headB l)[j + 1]).toNat)]
    · have u3 : headB l = headB m := by
        rw [← u1, ← t1, List.take_set_of_le (by omega)]
      have e5 : (runB l).set (j + 1) c = runB l := by rw [e2, runB, runB, u3]
      apply hc
      have := congrArg (·[j + 1]?) e5
      rw [List.getElem?_set_self hi] at this
      exact this.symm
end Go.Proofs.Ytgcbbnmjomhngaa
