import Derived.Test.YtggnglgehobglaaGreatDoorN05
import Derived.Test.YtggnglgehobglaaGreatDoorN02
import Derived.Laws.Cover4
import Derived.Laws.IdiomStrings
/- The walks of what stands on Path: isPath, count, rest, Rest, In, firstErr, join, Move. -/
namespace Go.Proofs.YtggnglgehobglaaGreatDoor
open Go.RowKit Go.Shelf

attribute [local go_sem] Oper.semAt_some

theorem field0 (a b : Value) (w : World) : (Instr.field 48 (.agg #[a, b]) 0).run Tryz.prog w = .ok a w := by kernel_rfl
theorem isPath_any (s : ByteArray) (w : World) (hs : s.size ≤ maxLen) :
    Calls Tryz.prog 77 #[.string s] w fun e w' => e = .returned (.bool (isP (bs s))) ∧ Below w.heap.size w w' := by
  have hp := path_any s w hs
  obtain ⟨e1, h1⟩ : ∃ e1, e1 = (pathSpot (bs s)).1 := ⟨_, rfl⟩
  obtain ⟨e2, h2⟩ : ∃ e2, e2 = (pathSpot (bs s)).2 := ⟨_, rfl⟩
  simp only [spotV] at hp
  rw [← h1, ← h2] at hp
  have H : Hid (((e1 : Int) == 0) = isP (bs s)) := by
    show _ = _
    unfold isP
    rw [← h1, Bool.eq_iff_iff, beq_iff_eq, beq_iff_eq]; omega
  clear h1 h2
  have hfd := fun w => field0 (.int .i64 (e1 : Int)) (.int .i64 (e2 : Int)) w
  go_enter Tryz.func77, Tryz.ntmps77
  go_wp2_with (go_at_call 50; refine hp.mono ?_; rintro e w' ⟨rfl, hB⟩)
  go_ret
  exact ⟨by rw [← H.out]; rfl, hB⟩

/-- how many rounds have been -/
structure CountI {s : ByteArray} (w : World) (pre : List (Pc s)) (W : World) : Prop where
  n : Boxed W w.heap.size 3 (.int .i64 (pre.length : Int))
  p : Boxed W (w.heap.size + 1) 9 (.string s)
  b : Below w.heap.size w W
theorem countI_own {s : ByteArray} (w : World) (b0 : Nat) (h0 : w.heap.size ≤ b0) : OwnFrom b0 (CountI (s := s) w) := fun _ _ _ _ hs hg hr =>
  ⟨boxed_keep hs.n hg hr, boxed_keep hs.p hg hr, below_keep hs.b (Nat.le_refl _) h0 hg hr⟩

theorem parts_count (l : List UInt8) : (parts l).length ≤ l.length + 1 := by
  have h : ∀ (l cur : List UInt8), (cutS cur l).length ≤ l.length + 1 := by
    intro l
    induction l with
    | nil => intro cur; simp [cutS]
    | cons c t ih =>
      intro cur
      unfold cutS
      split
      · have := ih []; simp only [List.length_cons]; omega
      · have := ih (cur ++ [c]); simp only [List.length_cons]; omega
  unfold parts
  split
  · simp
  · exact h l []

theorem lite_cut (s p : ByteArray) (w : World) (hs : s.size ≤ 1000000) (hp : p.size ≤ 1000000) :
    Calls Tryz.prog 85 #[.string s, .string p] w fun e w' => e = .returned (.tuple #[.string (if pre (bs p) (bs s) then s.extract p.size s.size else s), .bool (pre (bs p) (bs s))]) ∧ w' = w := by
  have hx := lite_prefix s p w (by unfold maxLen; omega) (by unfold maxLen; omega)
  cases hpr : pre (bs p) (bs s) with
  | false =>
    rw [hpr] at hx
    go_enter Tryz.func85, Tryz.ntmps85
    go_wp2_with (go_at_call 84; refine hx.mono ?_; rintro e w' ⟨rfl, rfl⟩)
    go_ret2
    exact ⟨rfl, rfl⟩
  | true =>
    have hle : p.size ≤ s.size := by have := ((pre_iff _ _).1 hpr).length_le; rw [bs_len, bs_len] at this; exact this
    have i1 : (p.size : Int) ≤ s.size := by omega
    rw [hpr] at hx
    go_enter Tryz.func85, Tryz.ntmps85
    go_wp2_with (go_at_call 84; refine hx.mono ?_; rintro e w' ⟨rfl, rfl⟩)
    go_ret2
    exact ⟨rfl, rfl⟩
theorem cut_prefix (s p : ByteArray) (w : World) (hs : s.size ≤ 1000000) (hp : p.size ≤ 1000000) :
    Calls Tryz.prog 63 #[.string s, .string p] w fun e w' => e = .returned (.tuple #[.string (if pre (bs p) (bs s) then s.extract p.size s.size else s), .bool (pre (bs p) (bs s))]) ∧ w' = w := by
  have hx := lite_cut s p w hs hp
  generalize (if pre (bs p) (bs s) then s.extract p.size s.size else s) = S at hx ⊢
  generalize pre (bs p) (bs s) = b at hx ⊢
  go_enter Tryz.func63, Tryz.ntmps63
  go_wp2_with (go_at_call 85; refine hx.mono ?_; rintro e w' ⟨rfl, rfl⟩)
  go_ret2
  exact ⟨rfl, rfl⟩

def restS (p q : ByteArray) : ByteArray := mk ((restP (bs p) (bs q)).getD [])
def restB (p q : ByteArray) : Bool := (restP (bs p) (bs q)).isSome
theorem restP_len (p q r : List UInt8) (h : restP p q = some r) : r.length ≤ p.length := by
  unfold restP at h
  split at h
  · cases h; exact Nat.le_refl _
  · split at h
    · cases h; simp
    · split at h
      · cases h; rw [List.length_drop]; omega
      · cases h
theorem restS_size (p q : ByteArray) : (restS p q).size ≤ p.size := by
  unfold restS
  rw [← bs_len, bs_mk, ← bs_len p]
  cases h : restP (bs p) (bs q) with
  | none => simp
  | some r => exact restP_len _ _ _ h

end Go.Proofs.YtggnglgehobglaaGreatDoor

/- Runes there and back: over bytes. -/
namespace Go.Proofs.YtggnglgehobglaaGreatDoor

theorem dec_eq (l : List UInt8) : dec l =
    if (l.getD 0 0).toNat < 128 then ((l.getD 0 0).toNat, 1)
    else if (l.getD 0 0).toNat / 32 = 6 ∧ 1 < l.length ∧ (l.getD 1 0).toNat / 64 = 2 then
      (if 128 ≤ ((l.getD 0 0).toNat % 32) * 64 + (l.getD 1 0).toNat % 64 then (((l.getD 0 0).toNat % 32) * 64 + (l.getD 1 0).toNat % 64, 2) else (65533, 1))
    else if (l.getD 0 0).toNat / 16 = 14 ∧ (1 < l.length ∧ (l.getD 1 0).toNat / 64 = 2) ∧ (2 < l.length ∧ (l.getD 2 0).toNat / 64 = 2) then
      (if 2048 ≤ ((l.getD 0 0).toNat % 16) * 4096 + ((l.getD 1 0).toNat % 64) * 64 + (l.getD 2 0).toNat % 64 ∧ Utf8.valid (((l.getD 0 0).toNat % 16) * 4096 + ((l.getD 1 0).toNat % 64) * 64 + (l.getD 2 0).toNat % 64 : Nat) = true then (((l.getD 0 0).toNat % 16) * 4096 + ((l.getD 1 0).toNat % 64) * 64 + (l.getD 2 0).toNat % 64, 3) else (65533, 1))
    else if (l.getD 0 0).toNat / 8 = 30 ∧ (1 < l.length ∧ (l.getD 1 0).toNat / 64 = 2) ∧ (2 < l.length ∧ (l.getD 2 0).toNat / 64 = 2) ∧ (3 < l.length ∧ (l.getD 3 0).toNat / 64 = 2) then
      (if 65536 ≤ ((l.getD 0 0).toNat % 8) * 262144 + ((l.getD 1 0).toNat % 64) * 4096 + ((l.getD 2 0).toNat % 64) * 64 + (l.getD 3 0).toNat % 64 ∧ Utf8.valid (((l.getD 0 0).toNat % 8) * 262144 + ((l.getD 1 0).toNat % 64) * 4096 + ((l.getD 2 0).toNat % 64) * 64 + (l.getD 3 0).toNat % 64 : Nat) = true then (((l.getD 0 0).toNat % 8) * 262144 + ((l.getD 1 0).toNat % 64) * 4096 + ((l.getD 2 0).toNat % 64) * 64 + (l.getD 3 0).toNat % 64, 4) else (65533, 1))
    else (65533, 1) := by
  have hg : ∀ k, (⟨l.toArray⟩ : ByteArray).get! k = l.getD k 0 := fun k => by rw [get_list]
  have hz : (⟨l.toArray⟩ : ByteArray).size = l.length := by show l.toArray.size = _; simp
  unfold dec
  simp only [Utf8.decode, hg, hz, Bool.and_eq_true, beq_iff_eq, decide_eq_true_eq, Nat.zero_add, Utf8.runeError, ge_iff_le, and_assoc]

/-- what follows a name does not change its runes -/
theorem dec_append (n r : List UInt8) (hn : n ≠ []) (hr : r = [] ∨ ∃ t, r = 47 :: t) : dec (n ++ r) = dec n := by
  rcases hr with rfl | ⟨t, rfl⟩
  · rw [List.append_nil]
  · match n, hn with
    | [a], _ => rw [dec_eq, dec_eq]; simp
    | [a, b], _ => rw [dec_eq, dec_eq]; simp
    | [a, b, c], _ => rw [dec_eq, dec_eq]; simp
    | a :: b :: c :: d :: u, _ => rw [dec_eq, dec_eq]; simp

def brk (l : List UInt8) : Bool := decide ((dec l).1 = 65533) && !(fffd.isPrefixOf l)
/-- has it no broken bytes? -/
def rightB (l : List UInt8) : Bool :=
  if l = [] then true else !brk l && rightB (l.drop (dec l).2)
termination_by l.length
decreasing_by exact drop_lt l (by assumption)
theorem rightB_nil : rightB [] = true := by rw [rightB]; simp
theorem rightB_go (l : List UInt8) (h : l ≠ []) : rightB l = (!brk l && rightB (l.drop (dec l).2)) := by rw [rightB, if_neg h]

theorem fffd_append (n r : List UInt8) (h : fffd.isPrefixOf n = true) : fffd.isPrefixOf (n ++ r) = true := by
  rw [List.isPrefixOf_iff_prefix] at h ⊢
  exact h.trans (List.prefix_append _ _)
theorem right_name : ∀ (k : Nat) (n r : List UInt8), n.length ≤ k → badAt n = none → (r = [] ∨ ∃ t, r = 47 :: t) → rightB (n ++ r) = rightB r
  | 0, n, r, hk, _, _ => by
    have : n = [] := List.length_eq_zero_iff.1 (by omega)
    rw [this]; rfl
  | k + 1, n, r, hk, hb, hr => by
    by_cases e : n = []
    · rw [e]; rfl
    · cases hbad : bad n with
      | true => rw [badAt_bad n e hbad] at hb; cases hb
      | false =>
        rw [badAt_go n e hbad] at hb
        have hb' : badAt (n.drop (dec n).2) = none := by
          cases h : badAt (n.drop (dec n).2) with
          | none => rfl
          | some j => rw [h] at hb; cases hb
        have hd := dec_append n r e hr
        have hbr : brk (n ++ r) = false := by
          unfold brk
          rw [hd]
          simp only [bad, Bool.or_eq_false_iff] at hbad
          cases h1 : decide ((dec n).1 = 65533) with
          | false => rfl
          | true =>
            have := hbad.2
            rw [h1, Bool.true_and] at this
            have h2 : fffd.isPrefixOf n = true := by simpa using this
            rw [fffd_append n r h2]; rfl
        rw [rightB_go _ (by simp [e]), hbr, hd, List.drop_append_of_le_length (dec_le n e)]
        have := right_name k (n.drop (dec n).2) r (by have := drop_lt n e; omega) hb' hr
        rw [this]; rfl
theorem right_stroke (t : List UInt8) : rightB (47 :: t) = rightB t := by
  have hd := dec_ascii 47 t (by decide)
  rw [rightB_go _ (by simp), hd]
  have : brk (47 :: t) = false := by unfold brk; rw [hd]; rfl
  rw [this]; rfl
theorem right_glue : ∀ (ns : List (List UInt8)), Good ns → rightB (glue ns) = true
  | [], _ => rightB_nil
  | [n], h => by
    rw [glue_one]
    have := right_name _ n [] (Nat.le_refl _) (okName_parts n (h n (by simp))).2.2 (.inl rfl)
    rw [List.append_nil] at this
    rw [this, rightB_nil]
  | n :: m :: r, h => by
    rw [glue_cons _ _ (by simp), right_name _ n _ (Nat.le_refl _) (okName_parts n (h n (by simp))).2.2 (.inr ⟨_, rfl⟩), right_stroke]
    exact right_glue (m :: r) (fun x hx => h x (by simp [hx]))
theorem right_path (l : List UInt8) (h : isP l = true) : rightB l = true := by
  rw [← glue_parts l]; exact right_glue _ (isP_good h)

/-- the runes -/
def runesL (l : List UInt8) : List Int :=
  if l = [] then [] else ((dec l).1 : Int) :: runesL (l.drop (dec l).2)
termination_by l.length
decreasing_by exact drop_lt l (by assumption)
theorem runesL_nil : runesL [] = [] := by rw [runesL]; simp
theorem runesL_go (l : List UInt8) (h : l ≠ []) : runesL l = ((dec l).1 : Int) :: runesL (l.drop (dec l).2) := by rw [runesL, if_neg h]
theorem runesFrom_list (s : ByteArray) : ∀ (bound i : Nat) (acc : Array Value), s.size ≤ i + bound → Conv.runesFrom s bound i acc = acc ++ ((runesL (s.data.toList.drop i)).map (Value.int .i32)).toArray
  | 0, i, acc, h => by
    rw [List.drop_eq_nil_of_le (by simp; omega), runesL_nil]
    simp [Conv.runesFrom]
  | bound + 1, i, acc, h => by
    unfold Conv.runesFrom
    by_cases hi : i < s.size
    · rw [if_pos hi]
      have hne : s.data.toList.drop i ≠ [] := fun e => by
        have := congrArg List.length e
        rw [List.length_drop] at this; simp at this; omega
      have hd := decode_dec s i
      have hp := dec_pos (s.data.toList.drop i)
      rw [← hd] at hp
      simp only
      rw [runesFrom_list s bound _ _ (by omega), runesL_go _ hne, ← hd, List.drop_drop]
      simp
    · rw [if_neg hi, List.drop_eq_nil_of_le (by simp; omega), runesL_nil]; simp

theorem u8_eq (c : UInt8) (n : Nat) (h : n = c.toNat) : UInt8.ofNat n = c := by rw [h]; exact UInt8.ofNat_toNat
theorem take_getD (l : List UInt8) (k : Nat) (h : k ≤ l.length) : l.take k = (List.range k).map fun j => l.getD j 0 := by
  apply List.ext_getElem
  · simp; omega
  · intro i h1 h2
    simp at h1
    simp [List.getElem?_eq_getElem (show i < l.length by omega)]
theorem valid_ascii (n : Nat) (h : n < 2048) : Utf8.valid (n : Int) = true := by simp [Utf8.valid]; omega

theorem encode_dec (l : List UInt8) (hl : l ≠ []) (hb : brk l = false) : (Utf8.encode ((dec l).1 : Int)).data.toList = l.take (dec l).2 := by
  have h0 : 0 < l.length := by cases l with | nil => exact absurd rfl hl | cons a t => simp
  by_cases hp : fffd.isPrefixOf l = true
  · obtain ⟨t, rfl⟩ := List.isPrefixOf_iff_prefix.1 hp
    have : dec (fffd ++ t) = (65533, 3) := by rw [dec_eq]; simp [fffd]; decide
    rw [this]
    simp [fffd]
    decide
  · have hne : (dec l).1 ≠ 65533 := fun e => by
      unfold brk at hb
      rw [e] at hb
      simp at hb
      exact hp (List.isPrefixOf_iff_prefix.2 hb)
    have c0 := (l.getD 0 0).toNat_lt
    have c1 := (l.getD 1 0).toNat_lt
    have c2 := (l.getD 2 0).toNat_lt
    have c3 := (l.getD 3 0).toNat_lt
    rw [dec_eq] at hne ⊢
    by_cases h1 : (l.getD 0 0).toNat < 128
    · rw [if_pos h1]
      simp only
      rw [take_getD l 1 (by omega)]
      have hv := valid_ascii (l.getD 0 0).toNat (by omega)
      simp only [Utf8.encode, hv, if_true, Int.toNat_natCast, h1]
      simp [List.range_succ]
    · rw [if_neg h1] at hne ⊢
      by_cases h2 : (l.getD 0 0).toNat / 32 = 6 ∧ 1 < l.length ∧ (l.getD 1 0).toNat / 64 = 2
      · rw [if_pos h2] at hne ⊢
        by_cases h3 : 128 ≤ ((l.getD 0 0).toNat % 32) * 64 + (l.getD 1 0).toNat % 64
        · rw [if_pos h3]
          simp only
          rw [take_getD l 2 (by omega)]
          have hv := valid_ascii (((l.getD 0 0).toNat % 32) * 64 + (l.getD 1 0).toNat % 64) (by omega)
          simp only [Utf8.encode, hv, if_true, Int.toNat_natCast]
          rw [if_neg (by omega), if_pos (by omega), u8_eq (l.getD 0 0) _ (by omega), u8_eq (l.getD 1 0) _ (by omega)]
          simp [List.range_succ]
        · rw [if_neg h3] at hne; exact absurd rfl hne
      · rw [if_neg h2] at hne ⊢
        by_cases h4 : (l.getD 0 0).toNat / 16 = 14 ∧ (1 < l.length ∧ (l.getD 1 0).toNat / 64 = 2) ∧ (2 < l.length ∧ (l.getD 2 0).toNat / 64 = 2)
        · rw [if_pos h4] at hne ⊢
          split at hne
          · rename_i h5
            rw [if_pos h5]
            simp only
            rw [take_getD l 3 (by omega)]
            have hv := h5.2
            simp only [Utf8.encode, hv, if_true, Int.toNat_natCast]
            rw [if_neg (by omega), if_neg (by omega), if_pos (by omega), u8_eq (l.getD 0 0) _ (by omega), u8_eq (l.getD 1 0) _ (by omega), u8_eq (l.getD 2 0) _ (by omega)]
            simp [List.range_succ]
          · exact absurd rfl hne
        · rw [if_neg h4] at hne ⊢
          by_cases h6 : (l.getD 0 0).toNat / 8 = 30 ∧ (1 < l.length ∧ (l.getD 1 0).toNat / 64 = 2) ∧ (2 < l.length ∧ (l.getD 2 0).toNat / 64 = 2) ∧ (3 < l.length ∧ (l.getD 3 0).toNat / 64 = 2)
          · rw [if_pos h6] at hne ⊢
            split at hne
            · rename_i h7
              rw [if_pos h7]
              simp only
              rw [take_getD l 4 (by omega)]
              have hv := h7.2
              simp only [Utf8.encode, hv, if_true, Int.toNat_natCast]
              rw [if_neg (by omega), if_neg (by omega), if_neg (by omega), u8_eq (l.getD 0 0) _ (by omega), u8_eq (l.getD 1 0) _ (by omega), u8_eq (l.getD 2 0) _ (by omega), u8_eq (l.getD 3 0) _ (by omega)]
              simp [List.range_succ]
            · exact absurd rfl hne
          · rw [if_neg h6] at hne; exact absurd rfl hne

theorem fold_encode : ∀ (k : Nat) (l : List UInt8), l.length ≤ k → rightB l = true → ∀ acc : ByteArray, ((runesL l).foldl (fun r n => r ++ Utf8.encode n) acc).data.toList = acc.data.toList ++ l
  | 0, l, hk, _, acc => by
    have : l = [] := List.length_eq_zero_iff.1 (by omega)
    rw [this, runesL_nil]; simp
  | k + 1, l, hk, hr, acc => by
    by_cases e : l = []
    · rw [e, runesL_nil]; simp
    · rw [rightB_go l e, Bool.and_eq_true] at hr
      have hb : brk l = false := by simpa using hr.1
      rw [runesL_go l e, List.foldl_cons, fold_encode k _ (by have := drop_lt l e; omega) hr.2, ByteArray.data_append, Array.toList_append, encode_dec l e hb, List.append_assoc, List.take_append_drop]
theorem runes_back (l : List UInt8) (h : rightB l = true) : (runesBytes (runesL l)).data.toList = l := by
  have := fold_encode _ l (Nat.le_refl _) h ByteArray.empty
  unfold runesBytes
  rw [this]; rfl
theorem runesL_len (k : Nat) : ∀ l : List UInt8, l.length ≤ k → (runesL l).length ≤ l.length := by
  induction k with
  | zero =>
    intro l h
    have : l = [] := List.length_eq_zero_iff.1 (by omega)
    rw [this, runesL_nil]; simp
  | succ k ih =>
    intro l h
    by_cases e : l = []
    · rw [e, runesL_nil]; simp
    · have h1 := ih (l.drop (dec l).2) (by have := drop_lt l e; omega)
      have h2 := drop_lt l e
      rw [runesL_go l e, List.length_cons]; omega

/-- no byte is wrong -/
def nb (l : List UInt8) : Bool := decide (badAt l = none)
theorem nb_nil : nb [] = true := by unfold nb; rw [badAt_nil]; rfl
theorem nb_go (l : List UInt8) (h : l ≠ []) : nb l = (!bad l && nb (l.drop (dec l).2)) := by
  unfold nb
  cases hb : bad l with
  | true => rw [badAt_bad l h hb]; rfl
  | false =>
    rw [badAt_go l h hb, Bool.not_false, Bool.true_and]
    cases badAt (l.drop (dec l).2) <;> simp
/-- the shape of a name -/
def shp (l : List UInt8) : Bool := decide (0 < l.length) && decide (l.length ≤ 32) && decide (l ≠ [46]) && decide (l ≠ [46, 46])
theorem okName_shape (l : List UInt8) : (shp l && nb l) = okName l := by
  unfold okName spot shp
  by_cases h1 : l = [] ∨ l = [46] ∨ l = [46, 46]
  · rw [if_pos h1]
    rcases h1 with rfl | rfl | rfl <;> simp
  · rw [if_neg h1]
    simp only [not_or] at h1
    have h0 : 0 < l.length := by cases l with | nil => exact absurd rfl h1.1 | cons a t => simp
    by_cases h2 : 32 < l.length
    · rw [if_pos h2]
      simp; intro; omega
    · rw [if_neg h2]
      unfold nb
      cases hb : badAt l with
      | none => simp [h0, h1.2.1, h1.2.2]; omega
      | some k => simp
end Go.Proofs.YtggnglgehobglaaGreatDoor
