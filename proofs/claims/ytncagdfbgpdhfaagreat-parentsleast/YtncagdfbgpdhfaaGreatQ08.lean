import Derived.Test.YtncagdfbgpdhfaaGreatQ05
import Derived.Test.YtncagdfbgpdhfaaGreatQ06
import Derived.Test.YtncagdfbgpdhfaaGreatQ07
/- Which texts are right: the program's word and the document's. -/
namespace Go.Proofs.YtncagdfbgpdhfaaGreat
open Go.RowKit

/-- is the first rune of a text one that may not stand -/
def wrongAt (l : List UInt8) : Bool := decide ((dec l).1 = 0) || (decide ((dec l).1 = 65533) && !(fffd.isPrefixOf l))
def rightF : Nat → List UInt8 → Bool
  | 0, _ => true
  | n + 1, l => if l = [] then true else !(wrongAt l) && rightF n (l.drop (dec l).2)
def rightL (l : List UInt8) : Bool := rightF l.length l
theorem rightF_same : ∀ (n m : Nat) (l : List UInt8), l.length ≤ n → l.length ≤ m → rightF n l = rightF m l
  | 0, m, l, h, _ => by
    have : l = [] := List.eq_nil_of_length_eq_zero (by omega)
    subst this
    cases m <;> rfl
  | n + 1, 0, l, _, h => by
    have : l = [] := List.eq_nil_of_length_eq_zero (by omega)
    subst this
    rfl
  | n + 1, m + 1, l, h1, h2 => by
    unfold rightF
    split
    · rfl
    · rename_i hne
      have hd := dec_pos l
      have : (l.drop (dec l).2).length + 1 ≤ l.length := by
        have := dec_le l hne
        rw [List.length_drop]; omega
      rw [rightF_same n m _ (by omega) (by omega)]
theorem rightL_step (l : List UInt8) (h : l ≠ []) : rightL l = (!(wrongAt l) && rightL (l.drop (dec l).2)) := by
  unfold rightL
  obtain ⟨n, hn⟩ : ∃ n, l.length = n + 1 := ⟨l.length - 1, by have : l.length ≠ 0 := fun e => h (List.eq_nil_of_length_eq_zero e); omega⟩
  have hd := dec_pos l
  rw [hn]
  show (if l = [] then true else _) = _
  rw [if_neg h, rightF_same n (l.drop (dec l).2).length _ (by rw [List.length_drop]; omega) (Nat.le_refl _)]
theorem rightL_nil : rightL [] = true := rfl

theorem obroken_any (s : ByteArray) (w : World) (hs : s.size ≤ maxLen) :
    Calls Tryz.prog 172 #[.string s] w fun e w' => e = .returned (.bool (!(fffd.isPrefixOf (bs s)))) ∧ w' = w := by
  go_enter Tryz.func172, Tryz.ntmps172
  go_wp2_with (go_at_call 171; refine (has_prefix s ⟨#[239, 191, 189]⟩ w hs (by decide)).mono ?_; rintro e w' ⟨rfl, rfl⟩)
  go_ret
  exact ⟨rfl, rfl⟩
theorem fffd_any (s : ByteArray) (w : World) (hs : s.size ≤ maxLen) :
    Calls Tryz.prog 171 #[.string s, .string ⟨#[239, 191, 189]⟩] w fun e w' => e = .returned (.bool (fffd.isPrefixOf (bs s))) ∧ w' = w := has_prefix s ⟨#[239, 191, 189]⟩ w hs (by decide)

set_option maxRecDepth 20000 in
set_option maxHeartbeats 4000000 in
theorem right_any (s : ByteArray) (w : World) (hs : s.size ≤ maxLen) :
    Calls Tryz.prog 160 #[.string s] w fun e w' => e = .returned (.bool (rightL (bs s))) ∧ Below w.heap.size w w' := by
  have hs' : s.size ≤ 9223372036854775807 := by unfold maxLen at hs; omega
  obtain ⟨R, hR⟩ : ∃ R, R = rightL (bs s) := ⟨_, rfl⟩
  rw [← hR]
  go_enter Tryz.func160, Tryz.ntmps160
  go_wp2
  go_loopw [] (fun wr => ∃ p : Nat, p ≤ s.size ∧ wr = w.iter s p ∧ Hid (R = rightL ((bs s).drop p))) (fun wr => s.size - wr.iterPos w.heap.size)
  case atStart => exact ⟨0, Nat.zero_le _, rfl, by simpa [Hid] using hR⟩
  case round =>
    clear hR
    obtain ⟨p, hp, rfl, H⟩ := hrel
    by_cases hlt : p < s.size
    · obtain ⟨r, hr⟩ : ∃ r, r = (dec ((bs s).drop p)).1 := ⟨_, rfl⟩
      obtain ⟨d, hd⟩ : ∃ d, d = (dec ((bs s).drop p)).2 := ⟨_, rfl⟩
      have hne : (bs s).drop p ≠ [] := fun e => by
        have := congrArg List.length e
        rw [List.length_drop, bs_len] at this; simp at this; omega
      have hd1 : 1 ≤ d := by rw [hd]; exact dec_pos _
      have hd2 : p + d ≤ s.size := by
        have := dec_le _ hne
        rw [← hd, List.length_drop, bs_len] at this; omega
      have hdec : Utf8.decode s p = (r, d) := by rw [decode_dec, hr, hd]; rfl
      have hrle : r ≤ 2147483647 := by have := decode_le s p; rw [hdec] at this; exact this
      have hnx := run_next_any (P := Tryz.prog) w s p (h := hlt)
      rw [hdec] at hnx
      obtain ⟨W1, hW1⟩ : ∃ W1, W1 = w.iter s p := ⟨_, rfl⟩
      obtain ⟨W2, hW2⟩ : ∃ W2, W2 = w.iter s (p + d) := ⟨_, rfl⟩
      have HB2 : Hid (Below w.heap.size w W2) := by rw [hW2]; exact (Below.refl _ w).alloc (Nat.le_refl _) _
      have hm1 : Hid (s.size - W2.iterPos w.heap.size < s.size - W1.iterPos w.heap.size) := by
        have e1 := World.iterPos_iter w s p
        have e2 := World.iterPos_iter w s (p + d)
        rw [← hW1] at e1
        rw [← hW2] at e2
        show _ < _
        rw [e1, e2]; omega
      have HW2 : Hid (W2 = w.iter s (p + d)) := hW2
      rw [← hW1, ← hW2] at hnx
      rw [← hW1]
      have HBd : Hid (wrongAt ((bs s).drop p) = (decide (r = 0) || (decide (r = 65533) && !(fffd.isPrefixOf (bs (s.extract p s.size)))))) := by
        show _ = _
        rw [bs_extract, show (bs s).take s.size = bs s by rw [← bs_len]; exact List.take_length]
        simp only [wrongAt, ← hr]
      have hst := rightL_step _ hne
      rw [← hd, List.drop_drop] at hst
      have HStop : Hid (wrongAt ((bs s).drop p) = true → R = false) := fun hb => by rw [H.out, hst, hb]; rfl
      have HNext : Hid (wrongAt ((bs s).drop p) = false → ∃ p', p' ≤ s.size ∧ W2 = w.iter s p' ∧ Hid (R = rightL ((bs s).drop p'))) := fun hb => ⟨p + d, hd2, HW2.out, by
        show _ = _
        rw [H.out, hst, hb]; rfl⟩
      clear hne hd hr hdec hW1 hW2 hst HW2 H
      have i3 : (p : Int) ≤ s.size := by omega
      by_cases h00 : r = 0
      · subst h00
        simp only [show ((0 : Nat) : Int) = 0 from rfl] at hnx
        have e0 : R = false := HStop.out (by rw [HBd.out]; rfl)
        subst e0
        clear HBd HNext HStop
        go_wp2
        go_ret
        exact ⟨rfl, HB2.out⟩
      · have i0 : ((r : Int) == 0) = false := beq_eq_false_iff_ne.2 (by omega)
        by_cases h65 : r = 65533
        · subst h65
          simp only [show ((65533 : Nat) : Int) = 65533 from rfl] at hnx i0
          clear i0
          cases hfp : fffd.isPrefixOf (bs (s.extract p s.size)) with
          | false =>
            have e0 : R = false := HStop.out (by rw [HBd.out, hfp]; rfl)
            subst e0
            clear HBd HNext HStop
            go_wp2_with (go_at_call 172; refine (obroken_any (s.extract p s.size) _ (by simp; omega)).mono ?_; rintro e w' ⟨rfl, hw'⟩; rw [hfp]; subst hw')
            go_ret
            exact ⟨rfl, HB2.out⟩
          | true =>
            have HX := HNext.out (by rw [HBd.out, hfp]; rfl)
            have HXX : Hid (∃ p', p' ≤ s.size ∧ W2 = w.iter s p' ∧ Hid (R = rightL ((bs s).drop p'))) := HX
            clear HBd HNext HStop HX
            go_wp2_with (go_at_call 172; refine (obroken_any (s.extract p s.size) _ (by simp; omega)).mono ?_; rintro e w' ⟨rfl, hw'⟩; rw [hfp]; subst hw')
            go_roundw
            case rel => exact HXX.out
            case measure => exact hm1.out
        · have i5 : ((r : Int) == 65533) = false := beq_eq_false_iff_ne.2 (by omega)
          have HX := HNext.out (by rw [HBd.out]; simp [h00, h65])
          have HXX : Hid (∃ p', p' ≤ s.size ∧ W2 = w.iter s p' ∧ Hid (R = rightL ((bs s).drop p'))) := HX
          clear HBd HNext HStop HX
          have i6 : ¬ (r : Int) = 0 := by omega
          have i7 : ¬ (r : Int) = 65533 := by omega
          go_wp2
          go_roundw
          case rel => exact HXX.out
          case measure => exact hm1.out
    · obtain rfl : p = s.size := by omega
      have hnx := run_next_end (P := Tryz.prog) w s s.size (h := Nat.lt_irrefl _)
      obtain ⟨W1, hW1⟩ : ∃ W1, W1 = w.iter s s.size := ⟨_, rfl⟩
      have HB1 : Hid (Below w.heap.size w W1) := by rw [hW1]; exact (Below.refl _ w).alloc (Nat.le_refl _) _
      rw [← hW1] at hnx
      rw [← hW1]
      have e0 : R = true := by
        rw [H.out, List.drop_eq_nil_of_le (by rw [bs_len]; exact Nat.le_refl _)]; rfl
      subst e0
      clear hW1 H
      go_wp2
      go_ret
      exact ⟨rfl, HB1.out⟩

end Go.Proofs.YtncagdfbgpdhfaaGreat

/- What is wrong with a commit: the program's check. -/
namespace Go.Proofs.YtncagdfbgpdhfaaGreat
open Go.RowKit

attribute [local go_sem] Oper.semAt_some

def parL : List Int → Int
  | [] => 0
  | x :: r => if x = 0 then 2 else parL r
def parErr (l : List Int) : Int := if 8 < l.length then 3 else parL l
def txtErr (s : ByteArray) (m : Nat) : Int := if m < s.size then 3 else if rightL (bs s) then 0 else 162
def comErr (t : Int) (ps : List Int) (au tx : ByteArray) : Int := if t = 0 then 2 else if parErr ps ≠ 0 then parErr ps else if txtErr au 64 ≠ 0 then txtErr au 64 else txtErr tx 1024
theorem parL_drop (l : List Int) (k : Nat) (x : Int) (h : l[k]? = some x) : parL (l.drop k) = if x = 0 then 2 else parL (l.drop (k + 1)) := by
  have hk := (List.getElem?_eq_some_iff.1 h).1
  rw [List.drop_eq_getElem_cons hk]
  have : l[k] = x := (List.getElem?_eq_some_iff.1 h).2
  rw [this]
  rfl
theorem parL_end (l : List Int) : parL (l.drop l.length) = 0 := by rw [List.drop_length]; rfl

theorem checkParents_any (a : Option Addr) (n c : Nat) (l : List Int) (w : World) (h : Ids w a n l) (hn : n ≤ 9223372036854775807) :
    Calls Tryz.prog 132 #[.slice a n c] w fun e w' => e = .returned (.int .i64 (parErr l)) ∧ w' = w := by
  have hll := h.1
  by_cases h8 : 8 < n
  · have i1 : (8 : Int) < n := by omega
    have e1 : parErr l = 3 := by unfold parErr; rw [if_pos (by omega)]
    rw [e1]
    go_enter Tryz.func132, Tryz.ntmps132
    go_wp2
    go_ret
    exact ⟨rfl, rfl⟩
  · have i1 : ¬ (8 : Int) < n := by omega
    have e1 : parErr l = parL l := by unfold parErr; rw [if_neg (by omega)]
    rw [e1]
    obtain ⟨E, hE⟩ : ∃ E, E = parL l := ⟨_, rfl⟩
    rw [← hE]
    go_enter Tryz.func132, Tryz.ntmps132
    go_wp2
    go_loopw [10] (fun i wr => ∃ k : Nat, k ≤ n ∧ i = .int .i64 (k : Int) ∧ Hid (E = parL (l.drop k) ∧ wr = w)) (fun i _ => n - (intOf i).toNat)
    case atStart => exact ⟨0, Nat.zero_le _, rfl, hE, rfl⟩
    case round =>
      clear hE e1
      obtain ⟨k, hk, rfl, H⟩ := hrel
      have hwr := H.out.2
      subst hwr
      by_cases hlt : k < n
      · obtain ⟨x, hx⟩ : ∃ x, l[k]? = some x := ⟨_, List.getElem?_eq_getElem (by omega)⟩
        obtain ⟨b1, o1, rfl, hc1⟩ := h.2 (by omega)
        have q := hc1 k x hx
        have HD : Hid (parL (l.drop k) = if x = 0 then 2 else parL (l.drop (k + 1))) := parL_drop l k x hx
        have i2 : (k : Int) < (n : Int) := by omega
        have i3 : ¬ n ≤ k := by omega
        clear hc1 hx
        by_cases h0 : x = 0
        · subst h0
          have e0 : E = 2 := H.out.1.trans (by rw [HD.out, if_pos rfl])
          subst e0
          go_wp2
          go_ret
          exact ⟨rfl, rfl⟩
        · have h0' : (x == 0) = false := beq_eq_false_iff_ne.2 h0
          have HE : Hid (E = parL (l.drop (k + 1))) := H.out.1.trans (by rw [HD.out, if_neg h0])
          go_wp2
          go_roundw
          case rel => exact ⟨k + 1, by omega, by simp, HE.out, by trivial⟩
          case measure => simp [intOf]; omega
      · obtain rfl : k = n := by omega
        have i2 : ¬ (k : Int) < (k : Int) := by omega
        have e0 : E = 0 := by rw [H.out.1, ← hll]; exact parL_end _
        subst e0
        go_wp2
        go_ret
        exact ⟨rfl, rfl⟩
theorem checkText_any (s : ByteArray) (m : Nat) (w : World) (hs : s.size ≤ maxLen) :
    Calls Tryz.prog 133 #[.string s, .int .i64 (m : Int)] w fun e w' => e = .returned (.int .i64 (txtErr s m)) ∧ Below w.heap.size w w' := by
  have hr := right_any s w hs
  unfold txtErr
  by_cases h : m < s.size
  · have i1 : (m : Int) < s.size := by omega
    rw [if_pos h]
    go_enter Tryz.func133, Tryz.ntmps133
    go_wp2
    go_ret
    exact ⟨rfl, Below.refl _ _⟩
  · have i1 : ¬ (m : Int) < s.size := by omega
    rw [if_neg h]
    cases hR : rightL (bs s) with
    | true =>
      rw [hR] at hr
      rw [if_pos rfl]
      go_enter Tryz.func133, Tryz.ntmps133
      go_wp2_with (go_at_call 160; refine hr.mono ?_; rintro e w1 ⟨rfl, hB⟩)
      go_ret
      exact ⟨rfl, hB⟩
    | false =>
      rw [hR] at hr
      rw [if_neg (by simp)]
      go_enter Tryz.func133, Tryz.ntmps133
      go_wp2_with (go_at_call 160; refine hr.mono ?_; rintro e w1 ⟨rfl, hB⟩)
      go_ret
      exact ⟨rfl, hB⟩

/-- the fields of a commit that came in -/
structure Com (w : World) (t : Int) (pa : Option Addr) (pn pc : Nat) (ps : List Int) (au : ByteArray) (d : Int) (tx : ByteArray) : Prop where
  tree : 0 ≤ t ∧ t < 18446744073709551616
  par : Ids w pa pn ps
  pars : ∀ x ∈ ps, 0 ≤ x ∧ x < 18446744073709551616
  len : pn ≤ pc ∧ pn ≤ 9223372036854775807 ∧ (pa = none → pn = 0 ∧ pc = 0)
  author : au.size ≤ maxLen
  date : -9223372036854775808 ≤ d ∧ d < 9223372036854775808
  text : tx.size ≤ maxLen
theorem Com.below {w W : World} {t : Int} {pa : Option Addr} {pn pc : Nat} {ps : List Int} {au : ByteArray} {d : Int} {tx : ByteArray} (h : Com w t pa pn pc ps au d tx) (hB : Below w.heap.size w W) : Com W t pa pn pc ps au d tx :=
  ⟨h.tree, h.par.below hB, h.pars, h.len, h.author, h.date, h.text⟩

set_option maxRecDepth 20000 in
set_option maxHeartbeats 2000000 in
theorem checkCommit_any (t : Int) (pa : Option Addr) (pn pc : Nat) (ps : List Int) (au : ByteArray) (d : Int) (tx : ByteArray) (w : World) (h : Com w t pa pn pc ps au d tx) :
    Calls Tryz.prog 102 #[cmt t pa pn pc au d tx] w fun e w' => e = .returned (.int .i64 (comErr t ps au tx)) ∧ Below w.heap.size w w' := by
  have hB0 : Below w.heap.size w (w.alloc (.cells #[.int .u64 t, .slice pa pn pc, .string au, .int .i64 d, .string tx] 78)) := (Below.refl _ w).alloc (Nat.le_refl _) _
  have b0 := Box5.new w (.int .u64 t) (.slice pa pn pc) (.string au) (.int .i64 d) (.string tx)
  have hp := checkParents_any pa pn pc ps _ (h.par.below hB0) h.len.2.1
  have ha := fun w => checkText_any au 64 w h.author
  have hx := fun w => checkText_any tx 1024 w h.text
  simp only [show ((64 : Nat) : Int) = 64 from rfl] at ha
  simp only [show ((1024 : Nat) : Int) = 1024 from rfl] at hx
  unfold comErr
  by_cases h0 : t = 0
  · subst h0
    rw [if_pos rfl]
    go_enter Tryz.func102, Tryz.ntmps102
    go_wp2
    go_ret
    exact ⟨rfl, hB0⟩
  · have h0' : (t == 0) = false := beq_eq_false_iff_ne.2 h0
    rw [if_neg h0]
    generalize parErr ps = P at *
    by_cases h1 : P = 0
    · subst h1
      rw [if_neg (by simp)]
      generalize txtErr au 64 = A at *
      generalize txtErr tx 1024 = X at *
      by_cases h2 : A = 0
      · subst h2
        rw [if_neg (by simp)]
        go_enter Tryz.func102, Tryz.ntmps102
        go_wp2_with first
          | (go_at_call 132; refine hp.mono ?_; clear hp; rintro e w1 ⟨rfl, hw1⟩; subst hw1; obtain ⟨c0, c1, c2, c3, c4⟩ := b0.cell)
          | (go_at_call 133; refine (ha _).mono ?_; clear ha; rintro e w2 ⟨rfl, hB2⟩; obtain ⟨d0, d1, d2, d3, d4⟩ := (b0.kept hB2).cell)
          | (go_at_call 133; refine (hx _).mono ?_; clear hx; rintro e w3 ⟨rfl, hB3⟩)
        go_ret
        exact ⟨rfl, (hB0.trans (hB2.mono hB0.size)).trans (hB3.mono (by have := hB0.size; have := hB2.size; omega))⟩
      · have h2' : (A == 0) = false := beq_eq_false_iff_ne.2 h2
        rw [if_pos h2]
        go_enter Tryz.func102, Tryz.ntmps102
        go_wp2_with first
          | (go_at_call 132; refine hp.mono ?_; clear hp; rintro e w1 ⟨rfl, hw1⟩; subst hw1; obtain ⟨c0, c1, c2, c3, c4⟩ := b0.cell)
          | (go_at_call 133; refine (ha _).mono ?_; clear ha; rintro e w2 ⟨rfl, hB2⟩)
        go_ret
        exact ⟨rfl, hB0.trans (hB2.mono hB0.size)⟩
    · have h1' : (P == 0) = false := beq_eq_false_iff_ne.2 h1
      rw [if_pos h1]
      go_enter Tryz.func102, Tryz.ntmps102
      go_wp2_with (go_at_call 132; refine hp.mono ?_; clear hp; rintro e w1 ⟨rfl, hw1⟩; subst hw1)
      go_ret
      exact ⟨rfl, hB0⟩
end Go.Proofs.YtncagdfbgpdhfaaGreat

/- A commit's bytes, as the program puts them together. -/
namespace Go.Proofs.YtncagdfbgpdhfaaGreat
open Go.RowKit

attribute [local go_sem] Oper.semAt_some

/-- a date as a word -/
def du (d : Int) : Nat := (IntKind.u64.wrap d).toNat
theorem du_eq (d : Int) : IntKind.u64.wrap d = (du d : Int) ∧ du d < 18446744073709551616 := by
  have h : 0 ≤ IntKind.u64.wrap d ∧ IntKind.u64.wrap d ≤ 18446744073709551615 := by
    simp [IntKind.wrap, IntKind.bits, IntKind.signed]
    omega
  unfold du
  omega
def parsB (l : List Int) : List UInt8 := (l.map fun x => wide x.toNat).flatten
theorem parsB_take (l : List Int) (k : Nat) (x : Int) (h : l[k]? = some x) : parsB (l.take (k + 1)) = parsB (l.take k) ++ wide x.toNat := by
  unfold parsB
  rw [List.take_add_one, h]
  simp
theorem parsB_len (l : List Int) (k : Nat) (hk : k ≤ l.length) : (parsB (l.take k)).length = k * 8 := by
  induction k with
  | zero => simp [parsB]
  | succ k ih =>
    obtain ⟨x, hx⟩ : ∃ x, l[k]? = some x := ⟨_, List.getElem?_eq_getElem (by omega)⟩
    rw [parsB_take l k x hx, List.length_append, ih (by omega), owide_len]
    omega
/-- the bytes of a commit -/
def comB (t : Int) (ps : List Int) (au : ByteArray) (d : Int) (tx : ByteArray) : List UInt8 :=
  [99] ++ wide t.toNat ++ short ps.length ++ parsB ps ++ (short au.size ++ au.data.toList) ++ wide (du d) ++ (short tx.size ++ tx.data.toList)
theorem Keeps.box5 {B : Nat} {W W' : World} {g : Nat} {a b c d e : Value} (h : Keeps B W W') (hb : Box5 W g a b c d e) (hg : g ≠ B) : Box5 W' g a b c d e := h g _ _ hb (by decide) hg

set_option maxRecDepth 100000 in
set_option maxHeartbeats 8000000 in
theorem putCommit_any (w0 : World) (B : Nat) (t : Int) (pa : Option Addr) (pn pc : Nat) (ps : List Int) (au : ByteArray) (d : Int) (tx : ByteArray) (W : World) (h : OOut w0 B [99] W) (hC : Com w0 t pa pn pc ps au d tx) (hn : pn ≤ 8) (ha : au.size ≤ 64) (hx : tx.size ≤ 1024) :
    Calls Tryz.prog 105 #[putV B, cmt t pa pn pc au d tx] W fun e W' => e = .returned (.tuple #[]) ∧ OOut w0 B (comB t ps au d tx) W' ∧ Keeps B W W' := by
  have hll := hC.par.1
  have hsn := short_len pn
  have hsa := short_len au.size
  have hsx := short_len tx.size
  have hal : au.data.toList.length = au.size := by simp
  obtain ⟨v, hv, _⟩ := h.box
  have hBW := hv.lt
  clear hv
  obtain ⟨hdu, hdl⟩ := du_eq d
  obtain ⟨y, rfl⟩ := Int.eq_ofNat_of_zero_le hC.tree.1
  have hyl := hC.tree.2
  have hpl := parsB_len ps pn (by omega)
  have hpl' : (parsB ps).length = pn * 8 := by rw [← hpl, List.take_of_length_le (by omega)]
  have hwl := owide_len
  have HF : Hid (comB y ps au d tx = [99] ++ wide y ++ short pn ++ parsB ps ++ (short au.size ++ au.data.toList) ++ wide (du d) ++ (short tx.size ++ tx.data.toList)) := by
    show _ = _
    unfold comB
    rw [hll]
    rfl
  have HC : Hid (Com w0 y pa pn pc ps au d tx) := hC
  have b0 := Box5.new W (.int .u64 y) (.slice pa pn pc) (.string au) (.int .i64 d) (.string tx)
  have H0 : Hid (Keeps B W (W.alloc (.cells #[.int .u64 y, .slice pa pn pc, .string au, .int .i64 d, .string tx] 78))) := Keeps.of ((Below.refl _ _).alloc (Nat.le_refl _) _)
  have hO0 := h.alloc (.cells #[.int .u64 (y : Int), .slice pa pn pc, .string au, .int .i64 d, .string tx] 78)
  generalize du d = D at *
  clear hC hpl
  go_enter Tryz.func105, Tryz.ntmps105
  go_wp2_with first
    | (go_at_call 137; refine (word_any w0 B [99] y _ hO0 (by omega) (by simp)).mono ?_; rintro e w1 ⟨rfl, hO1, hK1⟩; have b1 := hK1.box5 b0 (by omega); obtain ⟨c0, c1, c2, c3, c4⟩ := b1.cell; have H1 : Hid (Keeps B W w1) := H0.out.trans hK1; clear hK1 H0 hO0 b0)
    | (go_at_call 134; refine (ocount_any w0 B _ pn _ hO1 (by omega) (by simp only [List.length_append, List.length_singleton, hwl]; omega)).mono ?_; rintro e w2 ⟨rfl, hO2, hK2⟩; have b2 := hK2.box5 b1 (by omega); obtain ⟨d0, d1, d2, d3, d4⟩ := b2.cell; have H2 : Hid (OOut w0 B ([99] ++ wide y ++ short pn ++ parsB (ps.take 0)) w2 ∧ Keeps B W w2 ∧ Box5 w2 W.heap.size (.int .u64 y) (.slice pa pn pc) (.string au) (.int .i64 d) (.string tx)) := ⟨by simpa [parsB] using hO2, H1.out.trans hK2, b2⟩; clear hK2 H1 hO1 hO2 b1 c0 c1 c2 c3 c4 b2)
  go_loopw [18] (fun i wr => ∃ k : Nat, k ≤ pn ∧ i = .int .i64 (k : Int) ∧ Hid (OOut w0 B ([99] ++ wide y ++ short pn ++ parsB (ps.take k)) wr ∧ Keeps B W wr ∧ Box5 wr W.heap.size (.int .u64 y) (.slice pa pn pc) (.string au) (.int .i64 d) (.string tx))) (fun i _ => pn - (intOf i).toNat)
  case atStart => exact ⟨0, Nat.zero_le _, rfl, H2.out⟩
  case round =>
    clear H2 d0 d1 d2 d3 d4
    obtain ⟨k, hk, rfl, H⟩ := hrel
    by_cases hlt : k < pn
    · obtain ⟨x, hx'⟩ : ∃ x, ps[k]? = some x := ⟨_, List.getElem?_eq_getElem (by omega)⟩
      obtain ⟨b1, o1, hpa, hc1⟩ := (HC.out.par.below H.out.1.bel).2 (by omega)
      subst hpa
      have q := hc1 k x hx'
      have hxr := HC.out.pars x (List.mem_of_getElem? hx')
      obtain ⟨z, rfl⟩ := Int.eq_ofNat_of_zero_le hxr.1
      have HT : Hid ([99] ++ wide y ++ short pn ++ parsB (ps.take (k + 1)) = [99] ++ wide y ++ short pn ++ parsB (ps.take k) ++ wide z) := by
        show _ = _
        rw [parsB_take ps k _ hx', ← List.append_assoc]
        rfl
      have hpk := parsB_len ps k (by omega)
      have i2 : (k : Int) < (pn : Int) := by omega
      have i3 : ¬ pn ≤ k := by omega
      clear hc1 hx'
      go_wp2_with (go_at_call 137; refine (word_any w0 B _ z _ H.out.1 (by omega) (by simp only [List.length_append, List.length_singleton, hwl]; omega)).mono ?_; rintro e x3 ⟨rfl, hO3, hK3⟩; have H3 : Hid (OOut w0 B ([99] ++ wide y ++ short pn ++ parsB (ps.take (k + 1))) x3 ∧ Keeps B W x3 ∧ Box5 x3 W.heap.size (.int .u64 y) (.slice (some ⟨b1, o1, none⟩) pn pc) (.string au) (.int .i64 d) (.string tx)) := ⟨by rw [HT.out]; exact hO3, H.out.2.1.trans hK3, hK3.box5 H.out.2.2 (by omega)⟩; clear hO3 hK3)
      go_roundw
      case rel => exact ⟨k + 1, by omega, by simp, H3.out⟩
      case measure => simp [intOf]; omega
    · obtain rfl : k = pn := by omega
      have i2 : ¬ (k : Int) < (k : Int) := by omega
      have hO3 := H.out.1
      rw [List.take_of_length_le (by omega)] at hO3
      have b3 := H.out.2.2
      obtain ⟨c0, c1, c2, c3, c4⟩ := b3.cell
      have H3 : Hid (Keeps B W wr) := H.out.2.1
      clear H
      go_wp2_with first
        | (go_at_call 135; refine (text_any w0 B ([99] ++ wide y ++ short k ++ parsB ps) au _ hO3 (by omega) (by simp only [List.length_append, List.length_singleton, hwl, hpl']; omega)).mono ?_; rintro e x4 ⟨rfl, hO4, hK4⟩; have b4 := hK4.box5 b3 (by omega); obtain ⟨e0, e1, e2, e3, e4⟩ := b4.cell; have H4 : Hid (Keeps B W x4) := H3.out.trans hK4; clear hK4 hO3 H3 b3 c0 c1 c2 c3 c4)
        | (go_at_call 137; refine (word_any w0 B _ D _ hO4 hdl (by simp only [List.length_append, List.length_singleton, hwl, hpl', hal]; omega)).mono ?_; rintro e x5 ⟨rfl, hO5, hK5⟩; have b5 := hK5.box5 b4 (by omega); obtain ⟨f0, f1, f2, f3, f4⟩ := b5.cell; have H5 : Hid (Keeps B W x5) := H4.out.trans hK5; clear hK5 hO4 H4 b4 e0 e1 e2 e3 e4)
        | (go_at_call 135; refine (text_any w0 B _ tx _ hO5 (by omega) (by simp only [List.length_append, List.length_singleton, hwl, hpl', hal]; omega)).mono ?_; rintro e x6 ⟨rfl, hO6, hK6⟩)
      go_end0
      exact ⟨rfl, by rw [HF.out]; exact hO6, H5.out.trans hK6⟩
end Go.Proofs.YtncagdfbgpdhfaaGreat

/- What the layer answers of a commit. -/
namespace Go.Proofs.YtncagdfbgpdhfaaGreat
open Go.RowKit

attribute [local go_sem] Oper.semAt_some

abbrev coV (t : Int) (pa : Option Addr) (pn pc : Nat) (au : ByteArray) (d : Int) (tx : ByteArray) : Value := .iface 78 (cmt t pa pn pc au d tx)
theorem no_blob_com (v : Value) : ∀ xT w, (Instr.typeAssert (.iface 78 v) xT 82 true).run Tryz.prog w = .ok (.tuple #[.agg #[.slice none 0 0], .bool false]) w := no_blob 78 (by decide) v
theorem no_tree_com (v : Value) : ∀ xT w, (Instr.typeAssert (.iface 78 v) xT 125 true).run Tryz.prog w = .ok (.tuple #[.agg #[.slice none 0 0], .bool false]) w := no_tree 78 (by decide) v
theorem com_fits {t : Int} {ps : List Int} {au tx : ByteArray} (h : comErr t ps au tx = 0) : t ≠ 0 ∧ ps.length ≤ 8 ∧ au.size ≤ 64 ∧ tx.size ≤ 1024 := by
  have ht : ∀ (s : ByteArray) (m : Nat), txtErr s m = 0 → s.size ≤ m := fun s m h => by
    unfold txtErr at h
    split at h
    · omega
    · omega
  unfold comErr at h
  split at h
  · omega
  · rename_i h0
    split at h
    · rename_i h1; exact absurd h h1
    · rename_i h1
      have h1' : parErr ps = 0 := by simpa using h1
      split at h
      · rename_i h2; exact absurd h h2
      · rename_i h2
        have h2' : txtErr au 64 = 0 := by simpa using h2
        refine ⟨h0, ?_, ht _ _ h2', ht _ _ h⟩
        unfold parErr at h1'
        split at h1'
        · omega
        · omega
theorem comB_len {t : Int} {ps : List Int} {au tx : ByteArray} (d : Int) (h : comErr t ps au tx = 0) : (comB t ps au d tx).length ≤ 16384 := by
  obtain ⟨_, h1, h2, h3⟩ := com_fits h
  have a1 := short_len ps.length
  have a2 := short_len au.size
  have a3 := short_len tx.size
  have a4 := parsB_len ps ps.length (Nat.le_refl _)
  rw [List.take_length] at a4
  have a5 : au.data.toList.length = au.size := by simp
  have a6 : tx.data.toList.length = tx.size := by simp
  simp only [comB, List.length_append, List.length_singleton, owide_len, a4, a5, a6]
  omega
theorem check_com (t : Int) (pa : Option Addr) (pn pc : Nat) (ps : List Int) (au : ByteArray) (d : Int) (tx : ByteArray) (w : World) (h : Com w t pa pn pc ps au d tx) : Calls Tryz.prog 74 #[(coV t pa pn pc au d tx)] w fun e w' => e = .returned (.int .i64 (comErr t ps au tx)) ∧ Below w.heap.size w w' := by
  have h1 := no_blob_com (cmt t pa pn pc au d tx)
  have h2 := no_tree_com (cmt t pa pn pc au d tx)
  have h3 := as_commit (cmt t pa pn pc au d tx)
  have hB0 : Below w.heap.size w (w.alloc (.cells #[.int .u64 t, .slice pa pn pc, .string au, .int .i64 d, .string tx] 78)) := (Below.refl _ w).alloc (Nat.le_refl _) _
  have hc := checkCommit_any t pa pn pc ps au d tx _ (h.below hB0)
  go_enter Tryz.func74, Tryz.ntmps74
  go_wp2_with (go_at_call 102; refine hc.mono ?_; rintro e w1 ⟨rfl, hB⟩)
  go_ret
  exact ⟨rfl, hB0.trans (hB.mono (by simp))⟩
set_option maxRecDepth 20000 in
set_option maxHeartbeats 1000000 in
theorem encode_com (t : Int) (pa : Option Addr) (pn pc : Nat) (ps : List Int) (au : ByteArray) (d : Int) (tx : ByteArray) (w : World) (h : Com w t pa pn pc ps au d tx) (h0 : comErr t ps au tx = 0) :
    Calls Tryz.prog 75 #[(coV t pa pn pc au d tx)] w fun e w' => ∃ ad m cp, e = .returned (.slice ad m cp) ∧ (comB t ps au d tx).length = m ∧ OwnB w.heap.size (comB t ps au d tx) (.slice ad m cp) w' ∧ Below w.heap.size w w' := by
  obtain ⟨_, hn, hau, htx⟩ := com_fits h0
  have hpn := h.par.1
  have hmf : ∀ (fn : Fn) (first cap : Array Value) (w : World), (Instr.makeFunc fn first cap).run Tryz.prog w = .ok (.func fn first cap) w := fun _ _ _ _ => rfl
  have h1 := no_blob_com (cmt t pa pn pc au d tx)
  have h2 := no_tree_com (cmt t pa pn pc au d tx)
  have h3 := as_commit (cmt t pa pn pc au d tx)
  have HO := ((out_new w).alloc (.cells #[.int .u64 t, .slice pa pn pc, .string au, .int .i64 d, .string tx] 78)).alloc (.cells #[.int .u8 99] 5)
  have hO2 : Box5 ((w.alloc (.cells #[.slice none 0 0] 80)).alloc (.cells #[.int .u64 t, .slice pa pn pc, .string au, .int .i64 d, .string tx] 78)) (w.heap.size + 1) (.int .u64 t) (.slice pa pn pc) (.string au) (.int .i64 d) (.string tx) := by
    have := Box5.new (w.alloc (.cells #[.slice none 0 0] 80)) (.int .u64 t) (.slice pa pn pc) (.string au) (.int .i64 d) (.string tx)
    rw [World.size_alloc] at this
    exact this
  have hby := bytes_new ((w.alloc (.cells #[.slice none 0 0] 80)).alloc (.cells #[.int .u64 t, .slice pa pn pc, .string au, .int .i64 d, .string tx] 78)) [99] _ rfl
  have hp := put_any2 w w.heap.size [] (some ⟨w.heap.size + 1 + 1, 0, none⟩) 1 1 [99] _ HO (by rw [World.size_alloc, World.size_alloc] at hby; exact hby) (fun h => by cases h) (by simp)
  clear HO
  have hK := hO2.kept ((Below.refl _ _).alloc (Nat.le_refl _) (.cells #[.int .u8 99] 5))
  clear hO2 hby
  go_enter Tryz.func75, Tryz.ntmps75
  go_wp2_with first
    | (go_at_call 103; refine hp.mono ?_; rintro e w1 ⟨rfl, hO1, hk1⟩; obtain ⟨c0, c1, c2, c3, c4⟩ := (hk1.box5 hK (by omega)).cell; have HO1 : Hid (OOut w w.heap.size [99] w1) := hO1; clear hp hO1 hk1)
    | (go_at_call 105; refine (putCommit_any w w.heap.size t pa pn pc ps au d tx _ HO1.out h (by omega) hau htx).mono ?_; rintro e w2 ⟨rfl, hO2, _⟩; obtain ⟨v, hv, ho⟩ := hO2.box; have cv := hv.cell; have HO2 : Hid (OwnB w.heap.size (comB t ps au d tx) v w2 ∧ Below w.heap.size w w2) := ⟨⟨ho⟩, hO2.bel⟩; obtain ⟨ad, cp, hvv, _⟩ := HO2.out.1.shape rfl; subst hvv; clear hO2 HO1 ho hv)
  go_ret
  exact ⟨ad, _, cp, rfl, rfl, HO2.out.1, HO2.out.2⟩
theorem Encode_com (t : Int) (pa : Option Addr) (pn pc : Nat) (ps : List Int) (au : ByteArray) (d : Int) (tx : ByteArray) (w : World) (h : Com w t pa pn pc ps au d tx) (h0 : comErr t ps au tx = 0) :
    Calls Tryz.prog 52 #[(coV t pa pn pc au d tx)] w fun e w' => ∃ v, e = .returned (.tuple #[v, .int .i64 0]) ∧ OwnB w.heap.size (comB t ps au d tx) v w' ∧ Below w.heap.size w w' := by
  have c1 := check_com t pa pn pc ps au d tx w h
  rw [h0] at c1
  have he := fun w h => encode_com t pa pn pc ps au d tx w h h0
  generalize comB t ps au d tx = T at *
  go_enter Tryz.func52, Tryz.ntmps52
  go_wp2_with first
    | (go_at_call 74; refine c1.mono ?_; clear c1; rintro e w1 ⟨rfl, hB1⟩)
    | (go_at_call 75; refine (he _ (h.below hB1)).mono ?_; clear he; rintro e w2 ⟨ad, m, cp, rfl, hm, ho, hB2⟩; have HO : Hid (OwnB w1.heap.size T (.slice ad m cp) w2) := ho; clear ho hm)
  go_ret2
  exact ⟨_, rfl, ⟨row_lower HO.out.row hB1.size⟩, hB1.trans (hB2.mono hB1.size)⟩
theorem Encode_com_bad (t : Int) (pa : Option Addr) (pn pc : Nat) (ps : List Int) (au : ByteArray) (d : Int) (tx : ByteArray) (w : World) (h : Com w t pa pn pc ps au d tx) (h0 : comErr t ps au tx ≠ 0) :
    Calls Tryz.prog 52 #[(coV t pa pn pc au d tx)] w fun e w' => e = .returned (.tuple #[.slice none 0 0, .int .i64 (comErr t ps au tx)]) ∧ Below w.heap.size w w' := by
  have c1 := check_com t pa pn pc ps au d tx w h
  have h0' : (comErr t ps au tx == 0) = false := beq_eq_false_iff_ne.2 h0
  generalize comErr t ps au tx = E at *
  go_enter Tryz.func52, Tryz.ntmps52
  go_wp2_with (go_at_call 74; refine c1.mono ?_; clear c1; rintro e w1 ⟨rfl, hB1⟩)
  go_ret2
  exact ⟨rfl, hB1⟩
theorem Same_com_bad (t : Int) (pa : Option Addr) (pn pc : Nat) (ps : List Int) (au : ByteArray) (d : Int) (tx : ByteArray) (w : World) (h : Com w t pa pn pc ps au d tx) (x : Value) (h0 : comErr t ps au tx ≠ 0) :
    Calls Tryz.prog 55 #[(coV t pa pn pc au d tx), x] w fun e w' => e = .returned (.bool false) ∧ Below w.heap.size w w' := by
  have c1 := check_com t pa pn pc ps au d tx w h
  have h0' : (comErr t ps au tx == 0) = false := beq_eq_false_iff_ne.2 h0
  generalize comErr t ps au tx = E at *
  go_enter Tryz.func55, Tryz.ntmps55
  go_wp2_with (go_at_call 74; refine c1.mono ?_; clear c1; rintro e w1 ⟨rfl, hB1⟩)
  go_ret
  exact ⟨rfl, hB1⟩
theorem Same_com (t : Int) (pa : Option Addr) (pn pc : Nat) (ps : List Int) (au : ByteArray) (d : Int) (tx : ByteArray) (w : World) (h : Com w t pa pn pc ps au d tx) (h0 : comErr t ps au tx = 0) :
    Calls Tryz.prog 55 #[(coV t pa pn pc au d tx), (coV t pa pn pc au d tx)] w fun e w' => e = .returned (.bool true) ∧ Below w.heap.size w w' := by
  have c1 := fun w h => check_com t pa pn pc ps au d tx w h
  rw [h0] at c1
  have he := fun w h => encode_com t pa pn pc ps au d tx w h h0
  generalize comB t ps au d tx = T at *
  go_enter Tryz.func55, Tryz.ntmps55
  go_wp2_with first
    | (go_at_call 74; refine (c1 w h).mono ?_; rintro e w1 ⟨rfl, hB1⟩)
    | (go_at_call 74; refine (c1 _ (h.below hB1)).mono ?_; clear c1; rintro e w2 ⟨rfl, hB2⟩; have hB : Below w.heap.size w w2 := hB1.trans (hB2.mono hB1.size); have hb2 := h.below hB; clear hB1 hB2)
    | (go_at_call 75; refine (he w2 hb2).mono ?_; rintro e w3 ⟨ad, m, cp, rfl, hm, ho, hB3⟩; have hy3 := ho.bytes hm; have hb3 := hb2.below hB3; clear hb2 ho hm)
    | (go_at_call 75; refine (he _ hb3).mono ?_; clear he; rintro e w4 ⟨ad4, m4, cp4, rfl, hm4, ho, hB4⟩; have hy4 := ho.bytes hm4; have hy3' := bytes_below hy3 hB4; clear hb3 hy3 ho hm4)
    | (go_at_call 77; refine (equal_yes _ ad ad4 m m4 cp cp4 T hy3' hy4).mono ?_; rintro e w5 ⟨rfl, h5⟩; subst h5)
  go_ret
  exact ⟨rfl, hB.trans ((hB3.trans (hB4.mono hB3.size)).mono hB.size)⟩
end Go.Proofs.YtncagdfbgpdhfaaGreat

/- A commit's links, its copy, and what it answers in all. -/
namespace Go.Proofs.YtncagdfbgpdhfaaGreat
open Go.RowKit

attribute [local go_sem] Oper.semAt_some

/-- ids appended to a row of one's own -/
theorem wpList_appI (w : World) (B : Nat) (hB : B ≤ w.heap.size) {ops : Array Oper} {rest : List Oper} {o : Oper} {a : Act} {Q : Exit → Act → World → Prop} (hgd : o.guard = none) (s x : Operand)
    (ho : o.op = .call { callee := .builtin .append, args := #[s, x], argTypes := #[28, 28] })
    (v : Value) (n : Nat) (k : List Int) (hs : a.eval s = v) (hown : w.ownsRow B 31 1 v n (k.map (Value.int .u64))) (ad : Option Addr) (m c : Nat) (l : List Int) (hx : a.eval x = .slice ad m c) (hb : Ids w ad m l) (hnil : ad = none → m = 0 ∧ c = 0) (hm : n + m ≤ 1099511627776)
    (h : ∀ v' w', w'.ownsRow B 31 1 v' (n + m) ((k ++ l).map (Value.int .u64)) → w.grownBy w' v.ownBlock → wpList Tryz.prog ops Q rest (a.put o.dst v') w') : wpList Tryz.prog ops Q (o :: rest) a w := by
  obtain ⟨i0, hi, hz0, hz1, hz2⟩ := info_parts infoId
  cases ad with
  | none =>
    obtain ⟨rfl, rfl⟩ := hnil rfl
    have hl : l = [] := List.eq_nil_of_length_eq_zero hb.1
    subst hl
    refine wpList_plain hgd fun K hK => ?_
    have hr := run_append_owned_none (P := Tryz.prog) (w := w) B 28 o.type 31 i0 1 Tryz.underlying28 hi v n _ hown
    unfold Oper.wp execOp
    simp only [ho, resolve, invoke, builtin, Sem.run_bind, Sem.run_pure, Result.andThen_ok, List.map_toArray, List.map_cons, List.map_nil, hs, hx, hr]
    exact hK _ _ (h v w (by rw [List.append_nil]; exact hown) ⟨rfl, rfl, rfl, Nat.le_refl _, fun _ _ _ => rfl⟩)
  | some q =>
    refine wpList_append_own w hgd s x 28 ho B 31 i0 _ 1 8 Tryz.underlying28 hi hz0 hz1 hz2 rfl (by decide) v n _ hs hown q m c (l.map (Value.int .u64)) hx (by rw [List.length_map, hb.1]; omega) ?_ (by intro u hu; obtain ⟨y, _, rfl⟩ := List.mem_map.1 hu; rfl) (by unfold maxLen; omega) (by omega) hB fun v' w' h1 h2 _ => h v' w' (by rw [List.map_append]; exact h1) h2
    intro j u hj
    rw [List.getElem?_map] at hj
    have hl := hb.1
    cases hlj : l[j]? with
    | none => rw [hlj] at hj; cases hj
    | some y =>
      rw [hlj] at hj
      have hjl := (List.getElem?_eq_some_iff.1 hlj).1
      obtain ⟨b, off, e, hc⟩ := hb.2 (by omega)
      cases e
      rw [Addr.add_lit, hc j y hlj]
      exact hj
theorem ids_lit (w : World) (x : Int) : Ids (w.alloc (.cells #[.int .u64 x] 31)) (some ⟨w.heap.size, 0, none⟩) 1 [x] := by
  refine ⟨rfl, fun _ => ⟨_, _, rfl, fun j y hy => ?_⟩⟩
  match j, hy with
  | 0, hy =>
    simp at hy; subst hy
    exact (Boxed.new w 31 (.int .u64 x)).cell

set_option maxRecDepth 20000 in
set_option maxHeartbeats 2000000 in
theorem links_com (t : Int) (pa : Option Addr) (pn pc : Nat) (ps : List Int) (au : ByteArray) (d : Int) (tx : ByteArray) (w : World) (h : Com w t pa pn pc ps au d tx) (hn : pn ≤ 8) :
    Calls Tryz.prog 86 #[(coV t pa pn pc au d tx)] w fun e w' => ∃ v, e = .returned v ∧ w'.ownsRow w.heap.size 31 1 v (t :: ps).length ((t :: ps).map (Value.int .u64)) ∧ Below w.heap.size w w' := by
  have h2 := no_tree_com (cmt t pa pn pc au d tx)
  have h3 := as_commit (cmt t pa pn pc au d tx)
  have hll := h.par.1
  have hB0 : Below w.heap.size w ((w.alloc (.cells #[.int .u64 t, .slice pa pn pc, .string au, .int .i64 d, .string tx] 78)).alloc (.cells #[.int .u64 t] 31)) := ((Below.refl _ w).alloc (Nat.le_refl _) _).alloc (by simp) _
  have b0 := (Box5.new w (.int .u64 t) (.slice pa pn pc) (.string au) (.int .i64 d) (.string tx)).kept ((Below.refl _ _).alloc (Nat.le_refl _) (.cells #[.int .u64 t] 31))
  have hl0 := ids_lit (w.alloc (.cells #[.int .u64 t, .slice pa pn pc, .string au, .int .i64 d, .string tx] 78)) t
  rw [World.size_alloc] at hl0
  have HP : Hid (Com w t pa pn pc ps au d tx) := h
  go_enter Tryz.func86, Tryz.ntmps86
  go_wp2_with first
    | (at_builtin; refine wpList_appI _ w.heap.size hB0.size rfl _ _ rfl (.slice none 0 0) 0 [] rfl (World.ownsRow_nil _ _ _ _) (some ⟨w.heap.size + 1, 0, none⟩) 1 1 [t] rfl hl0 (fun h => by cases h) (by omega) ?_; intro v1 w1 ho1 hg1; have hB1 : Below w.heap.size w w1 := hB0.trans (below_gr (World.ownsRow_nil _ w.heap.size 31 1) hB0.size hg1); have hBB : Below (w.heap.size + 1 + 1) ((w.alloc (.cells #[.int .u64 t, .slice pa pn pc, .string au, .int .i64 d, .string tx] 78)).alloc (.cells #[.int .u64 t] 31)) w1 := ⟨hg1.os, hg1.tape, hg1.output, hg1.size, fun k hk => hg1.block k (by simp; omega) (by simp [Value.ownBlock])⟩; have b1 : Box5 w1 w.heap.size (.int .u64 t) (.slice pa pn pc) (.string au) (.int .i64 d) (.string tx) := (hBB.block _ (by omega)).trans b0; obtain ⟨c0, c1, c2, c3, c4⟩ := b1.cell; obtain ⟨ad1, cp1, hv1, _⟩ := row_shape ho1; subst hv1; clear hg1 hBB hl0 b0)
    | (at_builtin; refine wpList_appI _ w.heap.size hB1.size rfl _ _ rfl _ (0 + 1) _ rfl ho1 pa pn pc ps rfl (HP.out.par.below hB1) HP.out.len.2.2 (by omega) ?_; intro v2 w2 ho2 hg2; have H2 : Hid (w2.ownsRow w.heap.size 31 1 v2 (t :: ps).length ((t :: ps).map (Value.int .u64)) ∧ Below w.heap.size w w2) := ⟨by have e : (t :: ps).length = 0 + 1 + pn := (by simp [hll]; omega); rw [e]; exact ho2, hB1.trans (below_gr ho1 hB1.size hg2)⟩; obtain ⟨ad2, cp2, hv2, _⟩ := row_shape ho2; subst hv2; clear hg2 ho2)
  go_ret
  exact ⟨_, rfl, H2.out.1, H2.out.2⟩
def comI (t : Int) (ps : List Int) (au tx : ByteArray) : List Int := if comErr t ps au tx = 0 then t :: ps else []
theorem Links_com (t : Int) (pa : Option Addr) (pn pc : Nat) (ps : List Int) (au : ByteArray) (d : Int) (tx : ByteArray) (w : World) (h : Com w t pa pn pc ps au d tx) :
    Calls Tryz.prog 64 #[(coV t pa pn pc au d tx)] w fun e w' => ∃ v, e = .returned v ∧ w'.ownsRow w.heap.size 31 1 v (comI t ps au tx).length ((comI t ps au tx).map (Value.int .u64)) ∧ Below w.heap.size w w' := by
  have c1 := check_com t pa pn pc ps au d tx w h
  unfold comI
  by_cases h0 : comErr t ps au tx = 0
  · have hl := (com_fits h0).2.1
    have hll := h.par.1
    rw [if_pos h0]
    rw [h0] at c1
    have hk := fun w h => links_com t pa pn pc ps au d tx w h (by omega)
    generalize t :: ps = I at *
    go_enter Tryz.func64, Tryz.ntmps64
    go_wp2_with first
      | (go_at_call 74; refine c1.mono ?_; clear c1; rintro e w1 ⟨rfl, hB1⟩)
      | (go_at_call 86; refine (hk _ (h.below hB1)).mono ?_; clear hk; rintro e w2 ⟨v, rfl, ho, hB2⟩; have HO : Hid (w2.ownsRow w1.heap.size 31 1 v I.length (I.map (Value.int .u64))) := ho; obtain ⟨ad, cp, hv, _⟩ := row_shape ho; subst hv; clear ho)
    go_ret
    exact ⟨_, rfl, row_lower HO.out hB1.size, hB1.trans (hB2.mono hB1.size)⟩
  · rw [if_neg h0]
    have h0' : (comErr t ps au tx == 0) = false := beq_eq_false_iff_ne.2 h0
    generalize comErr t ps au tx = E at *
    go_enter Tryz.func64, Tryz.ntmps64
    go_wp2_with (go_at_call 74; refine c1.mono ?_; clear c1; rintro e w1 ⟨rfl, hB1⟩)
    go_ret
    exact ⟨_, rfl, World.ownsRow_nil _ _ _ _, hB1⟩
def comT (t : Int) (ps : List Int) (au : ByteArray) (d : Int) (tx : ByteArray) : List UInt8 := if comErr t ps au tx = 0 then comB t ps au d tx else []
end Go.Proofs.YtncagdfbgpdhfaaGreat
