import Derived.Test.YtdjodigimhgklaaGreatDoorMC06
import Derived.Test.YtdjodigimhgklaaGreatDoorMC07
import Derived.Laws.CopyOwn
import Derived.Test.YtdjodigimhgklaaGreatDoorMC04
import Derived.Test.YtdjodigimhgklaaGreatDoorMC01
/- Plain: what was written is read as the same; of a shorter beginning the read is refused with 110. Nothing of the program is named here. -/
namespace Go.Proofs.YtdjodigimhgklaaGreatDoor
open Go.RowKit

theorem shortF_canon : ∀ (f x : Nat), x < 128 ^ (f + 1) → Canon (shortF f x) ∧ val (shortF f x) = x := by
  intro f
  induction f with
  | zero =>
    intro x hx
    have hx' : x < 128 := by simpa using hx
    have e : (UInt8.ofNat x).toNat = x := by rw [UInt8.toNat_ofNat']; omega
    simp only [shortF, Canon, val, e]
    omega
  | succ f ih =>
    intro x hx
    by_cases h : x < 128
    · have e : (UInt8.ofNat x).toNat = x := by rw [UInt8.toNat_ofNat']; omega
      rw [shortF_low _ _ h]
      simp only [Canon, val, e]
      omega
    · rw [shortF_high f x h]
      obtain ⟨h1, h2⟩ := ih (x / 128) (by rw [Nat.pow_succ] at hx; exact Nat.div_lt_of_lt_mul (by rw [Nat.mul_comm]; exact hx))
      have e : (UInt8.ofNat (x % 128 + 128)).toNat = x % 128 + 128 := by rw [UInt8.toNat_ofNat']; omega
      constructor
      · cases hs : shortF f (x / 128) with
        | nil => rw [hs] at h1; exact absurd h1 (by simp [Canon])
        | cons d t => rw [hs] at h1 h2; exact ⟨by rw [e]; omega, h1, by rw [h2]; omega⟩
      · simp only [val, e, h2]; omega
theorem short_canon (x : Nat) (hx : x < 18446744073709551616) : Canon (short x) ∧ val (short x) = x :=
  shortF_canon 9 x (by have : (18446744073709551616 : Nat) ≤ 128 ^ (9 + 1) := by decide
                       omega)

theorem drop_cons {l : List UInt8} {i : Nat} {c : UInt8} {t : List UInt8} (h : l.drop i = c :: t) : bt l i = (c.toNat : Int) ∧ l.drop (i + 1) = t := by
  have hi : i < l.length := by
    by_cases hi : i < l.length
    · exact hi
    · rw [List.drop_eq_nil_of_le (by omega)] at h; cases h
  obtain ⟨c', h1, h2⟩ := drop_bt l i hi
  rw [h1] at h
  simp only [List.cons.injEq] at h
  rw [h.1] at h2
  exact ⟨h2, h.2⟩

theorem canon_num : ∀ (p : List UInt8), Canon p → ∀ (i f : Nat) (l rest : List UInt8), l.drop i = p ++ rest → p.length ≤ f → i ≤ 9 → (0 < i → 0 < val p) → val p * 128 ^ i < 18446744073709551616 →
    numFrom l f i = (accTo l i + 128 ^ i * (val p : Int), i + p.length, 0) := by
  intro p
  induction p with
  | nil => intro h; exact absurd h (by simp [Canon])
  | cons c t ih =>
    intro hp i f l rest hd hf hi hv hlim
    obtain ⟨f', rfl⟩ : ∃ f', f = f' + 1 := ⟨f - 1, by simp at hf; omega⟩
    obtain ⟨hbt, hd'⟩ := drop_cons hd
    have hcl := c.toNat_lt
    cases t with
    | nil =>
      simp only [Canon] at hp
      have hval : val [c] = c.toNat := by simp only [val]; omega
      rw [hval] at hlim hv
      have hb : brokenB i (bt l i) = false := by
        rw [hbt]
        simp only [brokenB]
        have h9 : i = 9 → c.toNat ≤ 1 := by
          intro h9; subst h9
          have : (128 : Nat) ^ 9 = 9223372036854775808 := by decide
          rw [this] at hlim
          omega
        have h0 : 0 < i → ¬ c.toNat = 0 := fun h => by have := hv h; omega
        by_cases h1 : i = 9
        · have := h9 h1
          have := h0 (by omega)
          simp [h1]
          omega
        · by_cases h2 : 0 < i
          · have := h0 h2
            simp [h1]
            omega
          · simp [h1]
            omega
      rw [numFrom, if_neg (by simp [hb]), if_pos (by rw [hbt]; omega), accTo_succ, hbt, hval]
      simp only [List.length_singleton, Prod.mk.injEq, and_true]
      have : (c.toNat : Int) % 128 = (c.toNat : Int) := by omega
      rw [this, Int.mul_comm]
    | cons d t =>
      obtain ⟨h1, h2, h3⟩ := hp
      have hval : val (c :: d :: t) = c.toNat % 128 + 128 * val (d :: t) := rfl
      have hi8 : i ≤ 8 := by
        by_cases h9 : i = 9
        · subst h9
          have h128 : (128 : Nat) ^ 9 = 9223372036854775808 := by decide
          rw [h128, hval] at hlim
          omega
        · omega
      have hb : brokenB i (bt l i) = false := by
        rw [hbt]
        simp only [brokenB]
        have : ¬ i = 9 := by omega
        simp [this]
        omega
      have hlim' : val (d :: t) * 128 ^ (i + 1) < 18446744073709551616 := by
        have hle : val (d :: t) * 128 ^ (i + 1) ≤ val (c :: d :: t) * 128 ^ i := by
          rw [Nat.pow_succ, Nat.mul_comm (128 ^ i) 128, ← Nat.mul_assoc]
          exact Nat.mul_le_mul_right _ (by rw [hval]; omega)
        omega
      rw [numFrom, if_neg (by simp [hb]), if_neg (by rw [hbt]; omega), ih h2 (i + 1) f' l rest hd' (by simp at hf ⊢; omega) (by omega) (fun _ => h3) hlim', accTo_succ, hbt, hval, Int.pow_succ]
      simp only [List.length_cons, Prod.mk.injEq, and_true]
      refine ⟨?_, by omega⟩
      have e1 : ((c.toNat % 128 + 128 * val (d :: t) : Nat) : Int) = (c.toNat : Int) % 128 + 128 * (val (d :: t) : Int) := by omega
      rw [e1, Int.mul_add, Int.mul_comm ((c.toNat : Int) % 128), Int.mul_assoc]
      omega

theorem num_short_app (x : Nat) (hx : x < 18446744073709551616) (rest : List UInt8) : num (short x ++ rest) = ((x : Int), (short x).length, 0) := by
  obtain ⟨h1, h2⟩ := short_canon x hx
  unfold num
  rw [canon_num (short x) h1 0 _ (short x ++ rest) rest rfl (by simp) (by omega) (fun h => by omega) (by rw [h2]; omega), h2]
  simp [accTo]

theorem canon_prefix : ∀ (p : List UInt8), Canon p → ∀ (j i : Nat) (l : List UInt8), j < p.length → l.drop i = p.take j → i + p.length ≤ 10 → numFrom l j i = (0, 0, 110) := by
  intro p
  induction p with
  | nil => intro h; exact absurd h (by simp [Canon])
  | cons c t ih =>
    intro hp j i l hj hd hi
    cases j with
    | zero => rfl
    | succ j =>
      cases t with
      | nil => simp at hj
      | cons d t =>
        obtain ⟨h1, h2, _⟩ := hp
        rw [List.take_succ_cons] at hd
        obtain ⟨hbt, hd'⟩ := drop_cons hd
        simp only [List.length_cons] at hi hj
        have hb : brokenB i (bt l i) = false := by
          rw [hbt]
          simp only [brokenB]
          have : ¬ i = 9 := by omega
          simp [this]
          omega
        rw [numFrom, if_neg (by simp [hb]), if_neg (by rw [hbt]; omega)]
        exact ih h2 j (i + 1) l (by simp only [List.length_cons]; omega) hd' (by simp only [List.length_cons]; omega)

theorem num_short_cut (x j : Nat) (hx : x < 18446744073709551616) (hj : j < (short x).length) : num ((short x).take j) = (0, 0, 110) := by
  obtain ⟨h1, _⟩ := short_canon x hx
  have hl := short_len x
  unfold num
  rw [List.length_take, Nat.min_eq_left (by omega)]
  exact canon_prefix (short x) h1 j 0 _ hj rfl (by omega)

theorem wideVal_wide (x : Nat) (rest : List UInt8) : ∀ k, k ≤ 8 → x < 256 ^ 8 → wideVal (wide x ++ rest) k = ((x / 256 ^ (8 - k) : Nat) : Int) := by
  intro k
  induction k with
  | zero => intro _ hx; rw [Nat.sub_zero, Nat.div_eq_of_lt hx]; rfl
  | succ k ih =>
    intro hk hx
    have hb : bt (wide x ++ rest) k = ((x / 256 ^ (7 - k) % 256 : Nat) : Int) := by
      have h1 : bt (wide x ++ rest) k = bt (wide x) k := by
        unfold bt
        rw [List.getD_eq_getElem?_getD, List.getD_eq_getElem?_getD, List.getElem?_append_left (by unfold wide; rw [wideTo_len]; omega)]
      rw [h1]
      exact wideTo_bt x k 8 (by omega)
    rw [wideVal_succ, ih (by omega) hx, hb, show 8 - k = (7 - k) + 1 from by omega, show 8 - (k + 1) = 7 - k from by omega, Nat.pow_succ, ← Nat.div_div_eq_div_mul]
    omega

theorem outU_ok (x : Nat) (hx : x < 18446744073709551616) (m : Int) (rest : List UInt8) : outOf 1 m (short x ++ rest) 0 = ⟨rest, 0, (x : Int), []⟩ := by
  rw [outOf, if_neg (by simp), if_neg (by decide), if_pos rfl, outU, num_short_app x hx rest, if_neg (by simp)]
  simp
theorem outU_cut (x j : Nat) (hx : x < 18446744073709551616) (m : Int) (hj : j < (short x).length) : (outOf 1 m ((short x).take j) 0).err = 110 := by
  rw [outOf, if_neg (by simp), if_neg (by decide), if_pos rfl, outU, num_short_cut x j hx hj, if_pos (by simp)]
  rfl
theorem outW_ok (x : Nat) (hx : x < 18446744073709551616) (m : Int) (rest : List UInt8) : outOf 2 m (wide x ++ rest) 0 = ⟨rest, 0, (x : Int), []⟩ := by
  have hl : (wide x).length = 8 := wideTo_len x 8
  have hv := wideVal_wide x rest 8 (by omega) hx
  rw [outOf, if_neg (by simp), if_neg (by decide), if_neg (by decide), if_pos rfl, outW, if_neg (by rw [List.length_append, hl]; omega), hv, List.drop_append]
  simp [hl]
theorem outW_cut (l : List UInt8) (m : Int) (hj : l.length < 8) : (outOf 2 m l 0).err = 110 := by
  rw [outOf, if_neg (by simp), if_neg (by decide), if_neg (by decide), if_pos rfl, outW, if_pos hj]
  rfl
theorem outT_ok (s rest : List UInt8) (hx : s.length < 18446744073709551616) : outOf 3 (s.length : Int) (short s.length ++ (s ++ rest)) 0 = ⟨rest, 0, 0, s⟩ := by
  have hn := num_short_app s.length hx (s ++ rest)
  have ht := txt_ok (short s.length ++ (s ++ rest)) (s.length : Int) (by omega) (by rw [hn]) (by rw [hn]; simp) (by rw [hn]; simp; omega)
  rw [hn] at ht
  simp only [Int.toNat_natCast] at ht
  rw [outOf, if_neg (by simp), if_neg (by decide), if_neg (by decide), if_neg (by decide), if_pos rfl, outT, ht, if_neg (by simp)]
  simp only [Out.mk.injEq, true_and]
  constructor
  · rw [← List.append_assoc, List.drop_append]
    simp
  · rw [← List.append_assoc, List.take_append_of_le_length (by simp), List.take_of_length_le (by simp), List.drop_append]
    simp
theorem outT_cut (s : List UInt8) (j : Nat) (hx : s.length < 18446744073709551616) (hj : j < (short s.length ++ s).length) : (outOf 3 (s.length : Int) ((short s.length ++ s).take j) 0).err = 110 := by
  rw [outOf, if_neg (by simp), if_neg (by decide), if_neg (by decide), if_neg (by decide), if_pos rfl, outT]
  by_cases h1 : j < (short s.length).length
  · have e : (short s.length ++ s).take j = (short s.length).take j := List.take_append_of_le_length (by omega)
    have hn := num_short_cut s.length j hx h1
    have ht := txt_num ((short s.length).take j) (s.length : Int) (by omega) (by rw [hn]; simp)
    rw [e, ht, hn, if_pos (by simp)]
    rfl
  · have e : (short s.length ++ s).take j = short s.length ++ s.take (j - (short s.length).length) := by rw [List.take_append, List.take_of_length_le (by omega)]
    have hn := num_short_app s.length hx (s.take (j - (short s.length).length))
    rw [List.length_append] at hj
    have ht := txt_short (short s.length ++ s.take (j - (short s.length).length)) (s.length : Int) (by omega) (by rw [hn]) (by rw [hn]; simp) (by rw [hn]; simp; omega)
    rw [e, ht, if_pos (by simp)]
    rfl

end Go.Proofs.YtdjodigimhgklaaGreatDoor

/- The walks of a Reader's methods that need no number's form: Byte, Raw, Err, Left, End; and of Read itself. -/
namespace Go.Proofs.YtdjodigimhgklaaGreatDoor
open Go.RowKit

theorem err_nil (w : World) : Calls Tryz.prog 117 #[.pointer none] w fun e w' => e = .returned (.int .i64 1) ∧ w' = w := by
  go_enter Tryz.func117, Tryz.ntmps117
  go_wp2
  go_ret
  exact ⟨rfl, rfl⟩

theorem err_any (w : World) (r : Nat) (x : Int) (h : w.cell? ⟨r, 1, none⟩ = some (.int .i64 x)) : Calls Tryz.prog 117 #[.pointer (some ⟨r, 0, none⟩)] w fun e w' => e = .returned (.int .i64 x) ∧ w' = w := by
  go_enter Tryz.func117, Tryz.ntmps117
  go_wp2
  go_ret
  exact ⟨rfl, rfl⟩

theorem left_nil (w : World) : Calls Tryz.prog 114 #[.pointer none] w fun e w' => e = .returned (.int .i64 0) ∧ w' = w := by
  go_enter Tryz.func114, Tryz.ntmps114
  go_wp2
  go_ret
  exact ⟨rfl, rfl⟩

theorem left_any (w : World) (r g p m : Nat) (x : Int) (l : List UInt8) (h : Rd w r g p x l) (hm : l.length = p + m) :
    Calls Tryz.prog 114 #[.pointer (some ⟨r, 0, none⟩)] w fun e w' => e = .returned (.int .i64 m) ∧ ∃ k, w' = w.drewN k := by
  have Hm : Hid (l.length = p + m) := hm
  clear hm
  go_enter Tryz.func114, Tryz.ntmps114
  go_wp2_with fail
  refine (rest_any _ r g p m x l h Hm.out).mono ?_
  rintro e w1 ⟨q, k, rfl, hb, rfl⟩
  go_wp2
  go_ret
  exact ⟨rfl, _, rfl⟩

theorem end_nil (w : World) : Calls Tryz.prog 124 #[.pointer none] w fun e w' => e = .returned (.int .i64 1) ∧ w' = w := by
  go_enter Tryz.func124, Tryz.ntmps124
  go_wp2_with fail
  refine (err_nil _).mono ?_
  rintro e w1 ⟨rfl, rfl⟩
  go_wp2
  go_ret
  exact ⟨rfl, rfl⟩

theorem end_err (w : World) (r : Nat) (x : Int) (h : w.cell? ⟨r, 1, none⟩ = some (.int .i64 x)) (hx : (x != 0) = true) : Calls Tryz.prog 124 #[.pointer (some ⟨r, 0, none⟩)] w fun e w' => e = .returned (.int .i64 x) ∧ w' = w := by
  go_enter Tryz.func124, Tryz.ntmps124
  go_wp2_with fail
  refine (err_any _ r x h).mono ?_
  rintro e w1 ⟨rfl, rfl⟩
  go_wp2
  go_ret
  exact ⟨rfl, rfl⟩

theorem end_ok (w : World) (r g p m : Nat) (l : List UInt8) (h : Rd w r g p 0 l) (hm : l.length = p + m) :
    Calls Tryz.prog 124 #[.pointer (some ⟨r, 0, none⟩)] w fun e w' => e = .returned (.int .i64 (if 0 < m then 111 else 0)) ∧ ∃ k, w' = w.drewN k := by
  have Hm : Hid (l.length = p + m) := hm
  clear hm
  by_cases h0 : 0 < m
  · have i1 : (0 : Int) < (m : Int) := by omega
    rw [if_pos h0]
    go_enter Tryz.func124, Tryz.ntmps124
    go_wp2_with fail
    refine (err_any _ r 0 h.c1).mono ?_
    rintro e w1 ⟨rfl, rfl⟩
    go_wp2_with fail
    refine (left_any _ r g p m 0 l h Hm.out).mono ?_
    rintro e w1 ⟨rfl, k, rfl⟩
    go_wp2
    go_ret
    exact ⟨rfl, _, rfl⟩
  · have i1 : ¬ (0 : Int) < (m : Int) := by omega
    rw [if_neg h0]
    go_enter Tryz.func124, Tryz.ntmps124
    go_wp2_with fail
    refine (err_any _ r 0 h.c1).mono ?_
    rintro e w1 ⟨rfl, rfl⟩
    go_wp2_with fail
    refine (left_any _ r g p m 0 l h Hm.out).mono ?_
    rintro e w1 ⟨rfl, k, rfl⟩
    go_wp2
    go_ret
    exact ⟨rfl, _, rfl⟩

end Go.Proofs.YtdjodigimhgklaaGreatDoor

/- The walk of the program's reading of a short form. -/
namespace Go.Proofs.YtdjodigimhgklaaGreatDoor
open Go.RowKit

theorem ret3_of {p : Int × Nat × Int} {x : Int} {y : Int} {z : Int} (h : p = (x, y.toNat, z)) (h0 : 0 ≤ y) :
    Ending.returned (.tuple #[.int .u64 x, .int .i64 y, .int .i64 z]) = .returned (.tuple #[.int .u64 p.1, .int .i64 p.2.1, .int .i64 p.2.2]) := by
  rw [h]
  simp [Int.toNat_of_nonneg h0]

set_option maxHeartbeats 1000000 in
theorem shortForm_any (a : Option Addr) (n cap : Nat) (l : List UInt8) (w : World) (hb : Bytes w a n l) (hm : n ≤ maxLen) :
    Calls Tryz.prog 158 #[.slice a n cap] w fun e w' => e = .returned (.tuple #[.int .u64 (num l).1, .int .i64 (num l).2.1, .int .i64 (num l).2.2]) ∧ w' = w := by
  unfold maxLen at hm
  obtain ⟨hl, hc⟩ := hb
  have HN : Hid (num l = numFrom l (n - 0) 0) := by show num l = _; unfold num; rw [hl]; rfl
  go_enter Tryz.func158, Tryz.ntmps158
  go_wp2
  go_loop [5, 10] (fun x i => ∃ k : Nat, k ≤ n ∧ k ≤ 9 ∧ i = .int .i64 k ∧ x = .int .u64 (accTo l k) ∧ Hid (num l = numFrom l (n - k) k)) (fun _ i => n - (intOf i).toNat)
  case atStart => exact ⟨0, Nat.zero_le _, by omega, rfl, rfl, HN⟩
  case round =>
    clear HN
    obtain ⟨k, hk, hk9, rfl, rfl, HN⟩ := hrel
    by_cases hlt : k < n
    · obtain ⟨b, off, rfl, hcell⟩ := hc (by omega)
      have hck := hcell k hlt
      have b0 := bt_lo l k
      have b1 := bt_hi l k
      have h0 := accTo_lo l k
      clear hcell hc hl
      have HS : Hid (k ≤ 9 → (k = 9 → bt l k ≤ 1) → bits BinOp.or IntKind.u64 (accTo l k) (IntKind.u64.wrap (IntKind.u64.wrap (bits BinOp.andNot IntKind.u8 (bt l k) 128) * 2 ^ (7 * k))) = accTo l (k + 1)) :=
        fun h1 h2 => by rw [or_step l (bt l k) k b0 b1 h1 h2, accTo_succ]
      have NB : Hid (brokenB k (bt l k) = true → num l = (0, 0, 8)) := num_broken HN.out hlt
      have NL : Hid (brokenB k (bt l k) = false → bt l k < 128 → num l = (accTo l (k + 1), k + 1, 0)) := num_last HN.out hlt
      have NN : Hid (brokenB k (bt l k) = false → ¬ bt l k < 128 → num l = numFrom l (n - (k + 1)) (k + 1)) := num_next HN.out hlt
      clear HN
      generalize bt l k = c at *
      by_cases h9 : k = 9
      · subst h9
        by_cases hc1 : 1 < c
        · go_wp2
          go_ret3
          exact ⟨ret3_of (NB.out (by simp [brokenB]; omega)) (by omega), rfl⟩
        · by_cases hz : c = 0
          · subst hz
            go_wp2
            go_ret3
            exact ⟨ret3_of (NB.out (by simp [brokenB])) (by omega), rfl⟩
          · have cz : (c == 0) = false := by simpa using hz
            have h8 : c < 128 := by omega
            go_wp2
            go_ret3
            have hs := HS.out (by omega) (fun _ => by omega)
            rw [show (2 : Int) ^ (7 * 9) = 9223372036854775808 from by decide] at hs
            exact ⟨ret3_of (by rw [NL.out (by simp [brokenB]; omega) h8, hs]; rfl) (by omega), rfl⟩
      · have k9 : ((k : Int) == 9) = false := by simp; omega
        by_cases hk0 : ¬ 0 < k
        · by_cases h8 : c < 128
          · go_wp2
            go_ret3
            exact ⟨ret3_of (by rw [NL.out (by simp [brokenB]; omega) h8, HS.out (by omega) (by omega)]; congr 2) (by omega), rfl⟩
          · go_wp2
            go_round
            case rel => exact ⟨k + 1, by omega, by omega, by go_num, by rw [HS.out (by omega) (by omega)], NN.out (by simp [brokenB]; omega) h8⟩
            case measure => simp [intOf]; omega
        · have kp : 0 < k := by omega
          by_cases hz : c = 0
          · subst hz
            go_wp2
            go_ret3
            exact ⟨ret3_of (NB.out (by simp [brokenB]; omega)) (by omega), rfl⟩
          · have cz : (c == 0) = false := by simpa using hz
            by_cases h8 : c < 128
            · go_wp2
              go_ret3
              exact ⟨ret3_of (by rw [NL.out (by simp [brokenB]; omega) h8, HS.out (by omega) (by omega)]; congr 2) (by omega), rfl⟩
            · go_wp2
              go_round
              case rel => exact ⟨k + 1, by omega, by omega, by go_num, by rw [HS.out (by omega) (by omega)], NN.out (by simp [brokenB]; omega) h8⟩
              case measure => simp [intOf]; omega
    · have NS := num_short HN.out hlt
      clear HN
      have NS' : Hid (num l = (0, 0, 110)) := NS
      clear NS
      go_wp2
      go_ret3
      exact ⟨ret3_of (by rw [NS'.out]; rfl) (by omega), rfl⟩

end Go.Proofs.YtdjodigimhgklaaGreatDoor

/- The walks of withRoom (a copy of bytes with room behind them), of Read and of Raw. -/
namespace Go.Proofs.YtdjodigimhgklaaGreatDoor
open Go.RowKit


/-- make with a length and a greater capacity, elements of one cell: the new row, whole -/
theorem wpList_make_part {P : Program} (w : World) {ops : Array Oper} {rest : List Oper} {o : Oper} {a : Act} {Q : Exit → Act → World → Prop}
    (hg : o.guard = none) (l c : Operand) (t : TypeId) (hop : o.op = Op.makeSlice t l c)
    (e : TypeId) (i : TypeInfo) (z : Value) (h1 : P.underlying t = some (.slice e)) (h2 : P.info? e = some i) (h3 : i.zero = some z) (h4 : i.size = 1) (h5 : i.bytes = 1)
    (kl kc : IntKind) (n m : Nat) (L C : Int) (hl : a.eval l = .int kl L) (hc : a.eval c = .int kc C) (hL : L = (n : Int)) (hC : C = (m : Int)) (hnm : n ≤ m) (b2 : m ≤ 281474976710656)
    (hK : ∀ w1, Hid (w1.heap[w.heap.size]? = some (.cells (madeCells z.cells m) e (0, 0))) → Below w.heap.size w w1 → wpList P ops Q rest (a.put o.dst (.slice (some ⟨w.heap.size, 0, none⟩) n m)) w1) :
    wpList P ops Q (o :: rest) a w := by
  refine wpList_plain hg fun K hK' => ?_
  have hrun := run_make (P := P) w t e i z h1 h2 h3 kl kc L C (by omega) (by omega) (by rw [h5]; omega) (by omega)
  subst hL
  subst hC
  simp only [h4, Nat.mul_one, Int.toNat_natCast] at hrun
  unfold Oper.wp
  simp [execOp, hop, hl, hc, hrun, Result.andThen]
  exact hK' _ _ (hK _ (heap_alloc_new w _) ((Below.refl _ _).alloc (Nat.le_refl _) _))

theorem grownBy_of_below {w w' : World} (h : Below w.heap.size w w') : w.grownBy w' none := ⟨h.os, h.tape, h.output, h.size, fun k hk _ => h.block k hk⟩

theorem size_made (z : Array Value) (n : Nat) : (madeCells z n).toList.length = n := by rw [Array.length_toList, size_madeCells]

/-- copy into a row just made: the row holds the bytes -/
theorem copy_fill (w w1 : World) (a : Option Addr) (n cap m : Nat) (l : List UInt8) (z : Array Value) (hb : Bytes w a n l) (hnm : n ≤ m) (hm : m ≤ maxLen)
    (hg : w1.heap[w.heap.size]? = some (.cells (madeCells z m) 5 (0, 0))) (hB : Below w.heap.size w w1) :
    ∃ w2, (Builtin.copy_ #[33, 33] 3 #[.slice (some ⟨w.heap.size, 0, none⟩) n m, .slice a n cap]).run Tryz.prog w1 = .ok (goInt n) w2 ∧
      w2.ownsRow w.heap.size 5 1 (.slice (some ⟨w.heap.size, 0, none⟩) n m) n (cellsOf l) ∧ w.grownBy w2 none := by
  obtain ⟨i0, hi, hz0, hz1, hz2⟩ := info_parts Tryz.info5
  have hu := Tryz.underlying33
  have hsz : (Tryz.prog.info? 5).map (·.size) = some 1 := by rw [hi]; simp [hz1]
  have hll : (cellsOf l).length = n := by rw [cellsOf_length, hb.1]
  by_cases h0 : n = 0
  · subst h0
    refine ⟨w1, run_copy_none (P := Tryz.prog) w1 33 33 3 5 _ a 0 m 0 cap hu hsz rfl, ⟨by rw [hll], .inr ⟨w.heap.size, m, _, rfl, Nat.le_refl _, hg, by omega, hm, by rw [size_madeCells]; omega, ?_⟩⟩, grownBy_of_below hB⟩
    have : cellsOf l = [] := List.eq_nil_of_length_eq_zero hll
    rw [this]; simp
  · obtain ⟨b, off, rfl, hc⟩ := hb.2 (by omega)
    have hsrc : ∀ j v, (cellsOf l)[j]? = some v → w1.cell? ((⟨b, off, none⟩ : Addr).add j) = some v := by
      intro j v hj
      have hjl : j < n := by have := (List.getElem?_eq_some_iff.1 hj).1; omega
      rw [cellsOf_get l j (by rw [hb.1]; exact hjl)] at hj
      have hold' : w.cell? ⟨b, off + j, none⟩ = some v := by rw [hc j hjl]; exact hj
      rw [Addr.add_lit, hB.cell (World.block_lt_of_cell? w _ hold')]
      exact hold'
    have hrun := run_copy_row (P := Tryz.prog) w1 33 33 3 5 w.heap.size 0 n m ⟨b, off, none⟩ n cap (madeCells z m) 5 (cellsOf l) hu hsz hg (by rw [hll]; exact (Nat.min_self n).symm) hsrc (by rw [hll, size_madeCells]; omega) (cellsOf_one l)
    refine ⟨_, by rw [hrun, hll], ⟨by rw [hll]; omega, .inr ⟨w.heap.size, m, _, rfl, Nat.le_refl _, setRow_heap w1 _ _ _ _ _ hg, by omega, hm, ?_, ?_⟩⟩, grownBy_of_below (below_setRow hB (Nat.le_refl _) _)⟩
    · simp [size_madeCells, hll]; omega
    · simp [← hll]

set_option maxHeartbeats 400000 in
theorem withRoom_any (a : Option Addr) (n cap more : Nat) (l : List UInt8) (w : World) (hb : Bytes w a n l) (hm : n + more ≤ 281474976710656) :
    Calls Tryz.prog 148 #[.slice a n cap, .int .i64 more] w fun e w' => e = .returned (.slice (some ⟨w.heap.size, 0, none⟩) n (n + more)) ∧
      w'.ownsRow w.heap.size 5 1 (.slice (some ⟨w.heap.size, 0, none⟩) n (n + more)) n (cellsOf l) ∧ w.grownBy w' none := by
  obtain ⟨i0, hi, hz0, hz1, hz2⟩ := info_parts Tryz.info5
  have hu := Tryz.underlying33
  go_enter Tryz.func148, Tryz.ntmps148
  go_wp2_with (at_make; refine wpList_make_part _ rfl _ _ 33 rfl 5 i0 (.int .u8 0) hu hi hz0 hz1 hz2 _ _ n (n + more) _ _ rfl rfl rfl (by omega) (by omega) hm ?_; intro w1 hg1 hb1; obtain ⟨w2, hcp, hfin⟩ := copy_fill w w1 a n cap (n + more) l _ hb (by omega) (by unfold maxLen; omega) hg1.out hb1)
  go_ret
  exact ⟨rfl, hfin⟩

/-- a row that is owned, as bytes -/
theorem ownsRow_bytes {w : World} {B g n cap : Nat} {l : List UInt8} (h : w.ownsRow B 5 1 (.slice (some ⟨g, 0, none⟩) n cap) n (cellsOf l)) : Bytes w (some ⟨g, 0, none⟩) n l ∧ B ≤ g ∧ g < w.heap.size := by
  have hll : l.length = n := by have := h.1; rw [cellsOf_length] at this; omega
  refine ⟨⟨hll, fun _ => ⟨g, 0, rfl, fun i hi => ?_⟩⟩, h.lt g rfl⟩
  have := h.cells (g := g) rfl i _ (cellsOf_get l i (by omega))
  rw [Addr.add_lit] at this
  exact this

set_option maxHeartbeats 400000 in
theorem oread_any (a : Option Addr) (n cap : Nat) (l : List UInt8) (w : World) (hb : Bytes w a n l) (hm : n ≤ 281474976710656) :
    Calls Tryz.prog 113 #[.slice a n cap] w fun e w' => ∃ r g, e = .returned (.pointer (some ⟨r, 0, none⟩)) ∧ w.heap.size ≤ r ∧ w.heap.size ≤ g ∧ Rd w' r g 0 0 l ∧ w.grownBy w' none := by
  go_enter Tryz.func113, Tryz.ntmps113
  go_wp2_with fail
  refine (withRoom_any a n cap 0 l w hb (by omega)).mono ?_
  rintro e w1 ⟨rfl, hown, hg⟩
  go_wp2
  go_ret
  have hll : l.length = n := hb.1
  obtain ⟨hby, _, hlt⟩ := ownsRow_bytes hown
  have hlt' : w.heap.size < w1.heap.size := hlt
  refine ⟨w1.heap.size, w.heap.size, rfl, hg.size, Nat.le_refl _, ?_, grownBy_trans hg (World.grownBy_alloc _ _ _)⟩
  refine ⟨?_, ?_, ?_, ?_, ?_, by omega, by unfold maxLen; omega, by omega, fun i hi => ?_⟩
  · simp
  · simp
  · simp [hll]
  · simp
  · simp
  · obtain ⟨b, off, hb1, hc⟩ := hby.2 (by omega)
    simp only [Option.some.injEq, Addr.mk.injEq, and_true] at hb1
    obtain ⟨rfl, rfl⟩ := hb1
    have := hc i (by omega)
    rw [Nat.zero_add] at this
    exact (World.grownBy_alloc w1 _ none).cell this (by simp)

end Go.Proofs.YtdjodigimhgklaaGreatDoor
