/- What is wrong with a commit: the program's check. -/
import Derived.Test.YtdibdcbihleflaaOText
namespace Go.Proofs.Ytdibdcbihleflaa
open Go.RowKit

attribute [local go_sem] Oper.semAt_some

def parL : List Int → Int
  | [] => 0
  | x :: r => if x = 0 then 2 else parL r
def parErr (l : List Int) : Int := if 8 < l.length then 3 else parL l
def txtErr (s : ByteArray) (m : Nat) : Int := if m < s.size then 3 else if rightL (bs s) then 0 else 162
def comErr (t : Int) (ps : List Int) (au tx : ByteArray) : Int := if t = 0 then 2 else if parErr ps ≠ 0 then parErr ps else if txtErr au 64 ≠ 0 then txtErr au 64 else txtErr tx 1024
theorem parL_drop (l : List Int) (k : Nat) (x : Int) (h : l[k]? = some x) : parL (l.drop k) = if x = 0 then 2 else parL (l.drop (k + 1)) := by
  have hk := (List.getElem?_eq_some_iff.1 h).1
  rw [List.drop_eq_getElem_cons hk]
  have : l[k] = x := (List.getElem?_eq_some_iff.1 h).2
  rw [this]
  rfl
theorem parL_end (l : List Int) : parL (l.drop l.length) = 0 := by rw [List.drop_length]; rfl

theorem checkParents_any (a : Option Addr) (n c : Nat) (l : List Int) (w : World) (h : Ids w a n l) (hn : n ≤ 9223372036854775807) :
    Calls Try.prog 89 #[.slice a n c] w fun e w' => e = .returned (.int .i64 (parErr l)) ∧ w' = w := by
  have hll := h.1
  by_cases h8 : 8 < n
  · have i1 : (8 : Int) < n := by omega
    have e1 : parErr l = 3 := by unfold parErr; rw [if_pos (by omega)]
    rw [e1]
    go_enter Try.func89, Try.ntmps89
    go_wp2
    go_ret
    exact ⟨rfl, rfl⟩
  · have i1 : ¬ (8 : Int) < n := by omega
    have e1 : parErr l = parL l := by unfold parErr; rw [if_neg (by omega)]
    rw [e1]
    obtain ⟨E, hE⟩ : ∃ E, E = parL l := ⟨_, rfl⟩
    rw [← hE]
    go_enter Try.func89, Try.ntmps89
    go_wp2
    go_loopw [10] (fun i wr => ∃ k : Nat, k ≤ n ∧ i = .int .i64 (k : Int) ∧ Hid (E = parL (l.drop k) ∧ wr = w)) (fun i _ => n - (intOf i).toNat)
    case atStart => exact ⟨0, Nat.zero_le _, rfl, hE, rfl⟩
    case round =>
      clear hE e1
      obtain ⟨k, hk, rfl, H⟩ := hrel
      have hwr := H.out.2
      subst hwr
      by_cases hlt : k < n
      · obtain ⟨x, hx⟩ : ∃ x, l[k]? = some x := ⟨_, List.getElem?_eq_getElem (by omega)⟩
        obtain ⟨b1, o1, rfl, hc1⟩ := h.2 (by omega)
        have q := hc1 k x hx
        have HD : Hid (parL (l.drop k) = if x = 0 then 2 else parL (l.drop (k + 1))) := parL_drop l k x hx
        have i2 : (k : Int) < (n : Int) := by omega
        have i3 : ¬ n ≤ k := by omega
        clear hc1 hx
        by_cases h0 : x = 0
        · subst h0
          have e0 : E = 2 := H.out.1.trans (by rw [HD.out, if_pos rfl])
          subst e0
          go_wp2
          go_ret
          exact ⟨rfl, rfl⟩
        · have h0' : (x == 0) = false := beq_eq_false_iff_ne.2 h0
          have HE : Hid (E = parL (l.drop (k + 1))) := H.out.1.trans (by rw [HD.out, if_neg h0])
          go_wp2
          go_roundw
          case rel => exact ⟨k + 1, by omega, by simp, HE.out, by trivial⟩
          case measure => simp [intOf]; omega
      · obtain rfl : k = n := by omega
        have i2 : ¬ (k : Int) < (k : Int) := by omega
        have e0 : E = 0 := by rw [H.out.1, ← hll]; exact parL_end _
        subst e0
        go_wp2
        go_ret
        exact ⟨rfl, rfl⟩
theorem checkText_any (s : ByteArray) (m : Nat) (w : World) (hs : s.size ≤ maxLen) :
    Calls Try.prog 90 #[.string s, .int .i64 (m : Int)] w fun e w' => e = .returned (.int .i64 (txtErr s m)) ∧ Below w.heap.size w w' := by
  have hr := right_any s w hs
  unfold txtErr
  by_cases h : m < s.size
  · have i1 : (m : Int) < s.size := by omega
    rw [if_pos h]
    go_enter Try.func90, Try.ntmps90
    go_wp2
    go_ret
    exact ⟨rfl, Below.refl _ _⟩
  · have i1 : ¬ (m : Int) < s.size := by omega
    rw [if_neg h]
    cases hR : rightL (bs s) with
    | true =>
      rw [hR] at hr
      rw [if_pos rfl]
      go_enter Try.func90, Try.ntmps90
      go_wp2_with (go_at_call 103; refine hr.mono ?_; rintro e w1 ⟨rfl, hB⟩)
      go_ret
      exact ⟨rfl, hB⟩
    | false =>
      rw [hR] at hr
      rw [if_neg (by simp)]
      go_enter Try.func90, Try.ntmps90
      go_wp2_with (go_at_call 103; refine hr.mono ?_; rintro e w1 ⟨rfl, hB⟩)
      go_ret
      exact ⟨rfl, hB⟩

/-- the fields of a commit that came in -/
structure Com (w : World) (t : Int) (pa : Option Addr) (pn pc : Nat) (ps : List Int) (au : ByteArray) (d : Int) (tx : ByteArray) : Prop where
  tree : 0 ≤ t ∧ t < 18446744073709551616
  par : Ids w pa pn ps
  pars : ∀ x ∈ ps, 0 ≤ x ∧ x < 18446744073709551616
  len : pn ≤ pc ∧ pn ≤ 9223372036854775807 ∧ (pa = none → pn = 0 ∧ pc = 0)
  author : au.size ≤ maxLen
  date : -9223372036854775808 ≤ d ∧ d < 9223372036854775808
  text : tx.size ≤ maxLen
theorem Com.below {w W : World} {t : Int} {pa : Option Addr} {pn pc : Nat} {ps : List Int} {au : ByteArray} {d : Int} {tx : ByteArray} (h : Com w t pa pn pc ps au d tx) (hB : Below w.heap.size w W) : Com W t pa pn pc ps au d tx :=
  ⟨h.tree, h.par.below hB, h.pars, h.len, h.author, h.date, h.text⟩

set_option maxRecDepth 20000 in
set_option maxHeartbeats 2000000 in
theorem checkCommit_any (t : Int) (pa : Option Addr) (pn pc : Nat) (ps : List Int) (au : ByteArray) (d : Int) (tx : ByteArray) (w : World) (h : Com w t pa pn pc ps au d tx) :
    Calls Try.prog 75 #[cmt t pa pn pc au d tx] w fun e w' => e = .returned (.int .i64 (comErr t ps au tx)) ∧ Below w.heap.size w w' := by
  have hB0 : Below w.heap.size w (w.alloc (.cells #[.int .u64 t, .slice pa pn pc, .string au, .int .i64 d, .string tx] 42)) := (Below.refl _ w).alloc (Nat.le_refl _) _
  have b0 := Box5.new w (.int .u64 t) (.slice pa pn pc) (.string au) (.int .i64 d) (.string tx)
  have hp := checkParents_any pa pn pc ps _ (h.par.below hB0) h.len.2.1
  have ha := fun w => checkText_any au 64 w h.author
  have hx := fun w => checkText_any tx 1024 w h.text
  simp only [show ((64 : Nat) : Int) = 64 from rfl] at ha
  simp only [show ((1024 : Nat) : Int) = 1024 from rfl] at hx
  unfold comErr
  by_cases h0 : t = 0
  · subst h0
    rw [if_pos rfl]
    go_enter Try.func75, Try.ntmps75
    go_wp2
    go_ret
    exact ⟨rfl, hB0⟩
  · have h0' : (t == 0) = false := beq_eq_false_iff_ne.2 h0
    rw [if_neg h0]
    generalize parErr ps = P at *
    by_cases h1 : P = 0
    · subst h1
      rw [if_neg (by simp)]
      generalize txtErr au 64 = A at *
      generalize txtErr tx 1024 = X at *
      by_cases h2 : A = 0
      · subst h2
        rw [if_neg (by simp)]
        go_enter Try.func75, Try.ntmps75
        go_wp2_with first
          | (go_at_call 89; refine hp.mono ?_; clear hp; rintro e w1 ⟨rfl, hw1⟩; subst hw1; obtain ⟨c0, c1, c2, c3, c4⟩ := b0.cell)
          | (go_at_call 90; refine (ha _).mono ?_; clear ha; rintro e w2 ⟨rfl, hB2⟩; obtain ⟨d0, d1, d2, d3, d4⟩ := (b0.kept hB2).cell)
          | (go_at_call 90; refine (hx _).mono ?_; clear hx; rintro e w3 ⟨rfl, hB3⟩)
        go_ret
        exact ⟨rfl, (hB0.trans (hB2.mono hB0.size)).trans (hB3.mono (by have := hB0.size; have := hB2.size; omega))⟩
      · have h2' : (A == 0) = false := beq_eq_false_iff_ne.2 h2
        rw [if_pos h2]
        go_enter Try.func75, Try.ntmps75
        go_wp2_with first
          | (go_at_call 89; refine hp.mono ?_; clear hp; rintro e w1 ⟨rfl, hw1⟩; subst hw1; obtain ⟨c0, c1, c2, c3, c4⟩ := b0.cell)
          | (go_at_call 90; refine (ha _).mono ?_; clear ha; rintro e w2 ⟨rfl, hB2⟩)
        go_ret
        exact ⟨rfl, hB0.trans (hB2.mono hB0.size)⟩
    · have h1' : (P == 0) = false := beq_eq_false_iff_ne.2 h1
      rw [if_pos h1]
      go_enter Try.func75, Try.ntmps75
      go_wp2_with (go_at_call 89; refine hp.mono ?_; clear hp; rintro e w1 ⟨rfl, hw1⟩; subst hw1)
      go_ret
      exact ⟨rfl, hB0⟩
end Go.Proofs.Ytdibdcbihleflaa
