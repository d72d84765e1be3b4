import Derived.Test.YtggnglgehobglaaGreatDoorP02
import Derived.Laws.Cover4
import Derived.Laws.IdiomStrings
import Derived.Test.YtggnglgehobglaaGreatDoorP05
/- Runes there and back: over bytes. -/
namespace Go.Proofs.YtggnglgehobglaaGreatDoor

theorem dec_eq (l : List UInt8) : dec l =
    if (l.getD 0 0).toNat < 128 then ((l.getD 0 0).toNat, 1)
    else if (l.getD 0 0).toNat / 32 = 6 ∧ 1 < l.length ∧ (l.getD 1 0).toNat / 64 = 2 then
      (if 128 ≤ ((l.getD 0 0).toNat % 32) * 64 + (l.getD 1 0).toNat % 64 then (((l.getD 0 0).toNat % 32) * 64 + (l.getD 1 0).toNat % 64, 2) else (65533, 1))
    else if (l.getD 0 0).toNat / 16 = 14 ∧ (1 < l.length ∧ (l.getD 1 0).toNat / 64 = 2) ∧ (2 < l.length ∧ (l.getD 2 0).toNat / 64 = 2) then
      (if 2048 ≤ ((l.getD 0 0).toNat % 16) * 4096 + ((l.getD 1 0).toNat % 64) * 64 + (l.getD 2 0).toNat % 64 ∧ Utf8.valid (((l.getD 0 0).toNat % 16) * 4096 + ((l.getD 1 0).toNat % 64) * 64 + (l.getD 2 0).toNat % 64 : Nat) = true then (((l.getD 0 0).toNat % 16) * 4096 + ((l.getD 1 0).toNat % 64) * 64 + (l.getD 2 0).toNat % 64, 3) else (65533, 1))
    else if (l.getD 0 0).toNat / 8 = 30 ∧ (1 < l.length ∧ (l.getD 1 0).toNat / 64 = 2) ∧ (2 < l.length ∧ (l.getD 2 0).toNat / 64 = 2) ∧ (3 < l.length ∧ (l.getD 3 0).toNat / 64 = 2) then
      (if 65536 ≤ ((l.getD 0 0).toNat % 8) * 262144 + ((l.getD 1 0).toNat % 64) * 4096 + ((l.getD 2 0).toNat % 64) * 64 + (l.getD 3 0).toNat % 64 ∧ Utf8.valid (((l.getD 0 0).toNat % 8) * 262144 + ((l.getD 1 0).toNat % 64) * 4096 + ((l.getD 2 0).toNat % 64) * 64 + (l.getD 3 0).toNat % 64 : Nat) = true then (((l.getD 0 0).toNat % 8) * 262144 + ((l.getD 1 0).toNat % 64) * 4096 + ((l.getD 2 0).toNat % 64) * 64 + (l.getD 3 0).toNat % 64, 4) else (65533, 1))
    else (65533, 1) := by
  have hg : ∀ k, (⟨l.toArray⟩ : ByteArray).get! k = l.getD k 0 := fun k => by rw [get_list]
  have hz : (⟨l.toArray⟩ : ByteArray).size = l.length := by show l.toArray.size = _; simp
  unfold dec
  simp only [Utf8.decode, hg, hz, Bool.and_eq_true, beq_iff_eq, decide_eq_true_eq, Nat.zero_add, Utf8.runeError, ge_iff_le, and_assoc]

/-- what follows a name does not change its runes -/
theorem dec_append (n r : List UInt8) (hn : n ≠ []) (hr : r = [] ∨ ∃ t, r = 47 :: t) : dec (n ++ r) = dec n := by
  rcases hr with rfl | ⟨t, rfl⟩
  · rw [List.append_nil]
  · match n, hn with
    | [a], _ => rw [dec_eq, dec_eq]; simp
    | [a, b], _ => rw [dec_eq, dec_eq]; simp
    | [a, b, c], _ => rw [dec_eq, dec_eq]; simp
    | a :: b :: c :: d :: u, _ => rw [dec_eq, dec_eq]; simp

def brk (l : List UInt8) : Bool := decide ((dec l).1 = 65533) && !(fffd.isPrefixOf l)
/-- has it no broken bytes? -/
def rightB (l : List UInt8) : Bool :=
  if l = [] then true else !brk l && rightB (l.drop (dec l).2)
termination_by l.length
decreasing_by exact drop_lt l (by assumption)
theorem rightB_nil : rightB [] = true := by rw [rightB]; simp
theorem rightB_go (l : List UInt8) (h : l ≠ []) : rightB l = (!brk l && rightB (l.drop (dec l).2)) := by rw [rightB, if_neg h]

theorem fffd_append (n r : List UInt8) (h : fffd.isPrefixOf n = true) : fffd.isPrefixOf (n ++ r) = true := by
  rw [List.isPrefixOf_iff_prefix] at h ⊢
  exact h.trans (List.prefix_append _ _)
theorem right_name : ∀ (k : Nat) (n r : List UInt8), n.length ≤ k → badAt n = none → (r = [] ∨ ∃ t, r = 47 :: t) → rightB (n ++ r) = rightB r
  | 0, n, r, hk, _, _ => by
    have : n = [] := List.length_eq_zero_iff.1 (by omega)
    rw [this]; rfl
  | k + 1, n, r, hk, hb, hr => by
    by_cases e : n = []
    · rw [e]; rfl
    · cases hbad : bad n with
      | true => rw [badAt_bad n e hbad] at hb; cases hb
      | false =>
        rw [badAt_go n e hbad] at hb
        have hb' : badAt (n.drop (dec n).2) = none := by
          cases h : badAt (n.drop (dec n).2) with
          | none => rfl
          | some j => rw [h] at hb; cases hb
        have hd := dec_append n r e hr
        have hbr : brk (n ++ r) = false := by
          unfold brk
          rw [hd]
          simp only [bad, Bool.or_eq_false_iff] at hbad
          cases h1 : decide ((dec n).1 = 65533) with
          | false => rfl
          | true =>
            have := hbad.2
            rw [h1, Bool.true_and] at this
            have h2 : fffd.isPrefixOf n = true := by simpa using this
            rw [fffd_append n r h2]; rfl
        rw [rightB_go _ (by simp [e]), hbr, hd, List.drop_append_of_le_length (dec_le n e)]
        have := right_name k (n.drop (dec n).2) r (by have := drop_lt n e; omega) hb' hr
        rw [this]; rfl
theorem right_stroke (t : List UInt8) : rightB (47 :: t) = rightB t := by
  have hd := dec_ascii 47 t (by decide)
  rw [rightB_go _ (by simp), hd]
  have : brk (47 :: t) = false := by unfold brk; rw [hd]; rfl
  rw [this]; rfl
theorem right_glue : ∀ (ns : List (List UInt8)), Good ns → rightB (glue ns) = true
  | [], _ => rightB_nil
  | [n], h => by
    rw [glue_one]
    have := right_name _ n [] (Nat.le_refl _) (okName_parts n (h n (by simp))).2.2 (.inl rfl)
    rw [List.append_nil] at this
    rw [this, rightB_nil]
  | n :: m :: r, h => by
    rw [glue_cons _ _ (by simp), right_name _ n _ (Nat.le_refl _) (okName_parts n (h n (by simp))).2.2 (.inr ⟨_, rfl⟩), right_stroke]
    exact right_glue (m :: r) (fun x hx => h x (by simp [hx]))
theorem right_path (l : List UInt8) (h : isP l = true) : rightB l = true := by
  rw [← glue_parts l]; exact right_glue _ (isP_good h)

/-- the runes -/
def runesL (l : List UInt8) : List Int :=
  if l = [] then [] else ((dec l).1 : Int) :: runesL (l.drop (dec l).2)
termination_by l.length
decreasing_by exact drop_lt l (by assumption)
theorem runesL_nil : runesL [] = [] := by rw [runesL]; simp
theorem runesL_go (l : List UInt8) (h : l ≠ []) : runesL l = ((dec l).1 : Int) :: runesL (l.drop (dec l).2) := by rw [runesL, if_neg h]
theorem runesFrom_list (s : ByteArray) : ∀ (bound i : Nat) (acc : Array Value), s.size ≤ i + bound → Conv.runesFrom s bound i acc = acc ++ ((runesL (s.data.toList.drop i)).map (Value.int .i32)).toArray
  | 0, i, acc, h => by
    rw [List.drop_eq_nil_of_le (by simp; omega), runesL_nil]
    simp [Conv.runesFrom]
  | bound + 1, i, acc, h => by
    unfold Conv.runesFrom
    by_cases hi : i < s.size
    · rw [if_pos hi]
      have hne : s.data.toList.drop i ≠ [] := fun e => by
        have := congrArg List.length e
        rw [List.length_drop] at this; simp at this; omega
      have hd := decode_dec s i
      have hp := dec_pos (s.data.toList.drop i)
      rw [← hd] at hp
      simp only
      rw [runesFrom_list s bound _ _ (by omega), runesL_go _ hne, ← hd, List.drop_drop]
      simp
    · rw [if_neg hi, List.drop_eq_nil_of_le (by simp; omega), runesL_nil]; simp

theorem u8_eq (c : UInt8) (n : Nat) (h : n = c.toNat) : UInt8.ofNat n = c := by rw [h]; exact UInt8.ofNat_toNat
theorem take_getD (l : List UInt8) (k : Nat) (h : k ≤ l.length) : l.take k = (List.range k).map fun j => l.getD j 0 := by
  apply List.ext_getElem
  · simp; omega
  · intro i h1 h2
    simp at h1
    simp [List.getElem?_eq_getElem (show i < l.length by omega)]
theorem valid_ascii (n : Nat) (h : n < 2048) : Utf8.valid (n : Int) = true := by simp [Utf8.valid]; omega

theorem encode_dec (l : List UInt8) (hl : l ≠ []) (hb : brk l = false) : (Utf8.encode ((dec l).1 : Int)).data.toList = l.take (dec l).2 := by
  have h0 : 0 < l.length := by cases l with | nil => exact absurd rfl hl | cons a t => simp
  by_cases hp : fffd.isPrefixOf l = true
  · obtain ⟨t, rfl⟩ := List.isPrefixOf_iff_prefix.1 hp
    have : dec (fffd ++ t) = (65533, 3) := by rw [dec_eq]; simp [fffd]; decide
    rw [this]
    simp [fffd]
    decide
  · have hne : (dec l).1 ≠ 65533 := fun e => by
      unfold brk at hb
      rw [e] at hb
      simp at hb
      exact hp (List.isPrefixOf_iff_prefix.2 hb)
    have c0 := (l.getD 0 0).toNat_lt
    have c1 := (l.getD 1 0).toNat_lt
    have c2 := (l.getD 2 0).toNat_lt
    have c3 := (l.getD 3 0).toNat_lt
    rw [dec_eq] at hne ⊢
    by_cases h1 : (l.getD 0 0).toNat < 128
    · rw [if_pos h1]
      simp only
      rw [take_getD l 1 (by omega)]
      have hv := valid_ascii (l.getD 0 0).toNat (by omega)
      simp only [Utf8.encode, hv, if_true, Int.toNat_natCast, h1]
      simp [List.range_succ]
    · rw [if_neg h1] at hne ⊢
      by_cases h2 : (l.getD 0 0).toNat / 32 = 6 ∧ 1 < l.length ∧ (l.getD 1 0).toNat / 64 = 2
      · rw [if_pos h2] at hne ⊢
        by_cases h3 : 128 ≤ ((l.getD 0 0).toNat % 32) * 64 + (l.getD 1 0).toNat % 64
        · rw [if_pos h3]
          simp only
          rw [take_getD l 2 (by omega)]
          have hv := valid_ascii (((l.getD 0 0).toNat % 32) * 64 + (l.getD 1 0).toNat % 64) (by omega)
          simp only [Utf8.encode, hv, if_true, Int.toNat_natCast]
          rw [if_neg (by omega), if_pos (by omega), u8_eq (l.getD 0 0) _ (by omega), u8_eq (l.getD 1 0) _ (by omega)]
          simp [List.range_succ]
        · rw [if_neg h3] at hne; exact absurd rfl hne
      · rw [if_neg h2] at hne ⊢
        by_cases h4 : (l.getD 0 0).toNat / 16 = 14 ∧ (1 < l.length ∧ (l.getD 1 0).toNat / 64 = 2) ∧ (2 < l.length ∧ (l.getD 2 0).toNat / 64 = 2)
        · rw [if_pos h4] at hne ⊢
          split at hne
          · rename_i h5
            rw [if_pos h5]
            simp only
            rw [take_getD l 3 (by omega)]
            have hv := h5.2
            simp only [Utf8.encode, hv, if_true, Int.toNat_natCast]
            rw [if_neg (by omega), if_neg (by omega), if_pos (by omega), u8_eq (l.getD 0 0) _ (by omega), u8_eq (l.getD 1 0) _ (by omega), u8_eq (l.getD 2 0) _ (by omega)]
            simp [List.range_succ]
          · exact absurd rfl hne
        · rw [if_neg h4] at hne ⊢
          by_cases h6 : (l.getD 0 0).toNat / 8 = 30 ∧ (1 < l.length ∧ (l.getD 1 0).toNat / 64 = 2) ∧ (2 < l.length ∧ (l.getD 2 0).toNat / 64 = 2) ∧ (3 < l.length ∧ (l.getD 3 0).toNat / 64 = 2)
          · rw [if_pos h6] at hne ⊢
            split at hne
            · rename_i h7
              rw [if_pos h7]
              simp only
              rw [take_getD l 4 (by omega)]
              have hv := h7.2
              simp only [Utf8.encode, hv, if_true, Int.toNat_natCast]
              rw [if_neg (by omega), if_neg (by omega), if_neg (by omega), u8_eq (l.getD 0 0) _ (by omega), u8_eq (l.getD 1 0) _ (by omega), u8_eq (l.getD 2 0) _ (by omega), u8_eq (l.getD 3 0) _ (by omega)]
              simp [List.range_succ]
            · exact absurd rfl hne
          · rw [if_neg h6] at hne; exact absurd rfl hne

theorem fold_encode : ∀ (k : Nat) (l : List UInt8), l.length ≤ k → rightB l = true → ∀ acc : ByteArray, ((runesL l).foldl (fun r n => r ++ Utf8.encode n) acc).data.toList = acc.data.toList ++ l
  | 0, l, hk, _, acc => by
    have : l = [] := List.length_eq_zero_iff.1 (by omega)
    rw [this, runesL_nil]; simp
  | k + 1, l, hk, hr, acc => by
    by_cases e : l = []
    · rw [e, runesL_nil]; simp
    · rw [rightB_go l e, Bool.and_eq_true] at hr
      have hb : brk l = false := by simpa using hr.1
      rw [runesL_go l e, List.foldl_cons, fold_encode k _ (by have := drop_lt l e; omega) hr.2, ByteArray.data_append, Array.toList_append, encode_dec l e hb, List.append_assoc, List.take_append_drop]
theorem runes_back (l : List UInt8) (h : rightB l = true) : (runesBytes (runesL l)).data.toList = l := by
  have := fold_encode _ l (Nat.le_refl _) h ByteArray.empty
  unfold runesBytes
  rw [this]; rfl
theorem runesL_len (k : Nat) : ∀ l : List UInt8, l.length ≤ k → (runesL l).length ≤ l.length := by
  induction k with
  | zero =>
    intro l h
    have : l = [] := List.length_eq_zero_iff.1 (by omega)
    rw [this, runesL_nil]; simp
  | succ k ih =>
    intro l h
    by_cases e : l = []
    · rw [e, runesL_nil]; simp
    · have h1 := ih (l.drop (dec l).2) (by have := drop_lt l e; omega)
      have h2 := drop_lt l e
      rw [runesL_go l e, List.length_cons]; omega

/-- no byte is wrong -/
def nb (l : List UInt8) : Bool := decide (badAt l = none)
theorem nb_nil : nb [] = true := by unfold nb; rw [badAt_nil]; rfl
theorem nb_go (l : List UInt8) (h : l ≠ []) : nb l = (!bad l && nb (l.drop (dec l).2)) := by
  unfold nb
  cases hb : bad l with
  | true => rw [badAt_bad l h hb]; rfl
  | false =>
    rw [badAt_go l h hb, Bool.not_false, Bool.true_and]
    cases badAt (l.drop (dec l).2) <;> simp
/-- the shape of a name -/
def shp (l : List UInt8) : Bool := decide (0 < l.length) && decide (l.length ≤ 32) && decide (l ≠ [46]) && decide (l ≠ [46, 46])
theorem okName_shape (l : List UInt8) : (shp l && nb l) = okName l := by
  unfold okName spot shp
  by_cases h1 : l = [] ∨ l = [46] ∨ l = [46, 46]
  · rw [if_pos h1]
    rcases h1 with rfl | rfl | rfl <;> simp
  · rw [if_neg h1]
    simp only [not_or] at h1
    have h0 : 0 < l.length := by cases l with | nil => exact absurd rfl h1.1 | cons a t => simp
    by_cases h2 : 32 < l.length
    · rw [if_pos h2]
      simp; intro; omega
    · rw [if_neg h2]
      unfold nb
      cases hb : badAt l with
      | none => simp [h0, h1.2.1, h1.2.2]; omega
      | some k => simp
end Go.Proofs.YtggnglgehobglaaGreatDoor

/- The walks of pathmap's rest, join and isPath: rows of names, however long. -/
namespace Go.Proofs.YtggnglgehobglaaGreatDoor
open Go.RowKit Go.Shelf

attribute [local go_sem] Oper.semAt_some

theorem rune_str (r : Nat) (W : World) : (convert 21 9 (.int .i32 (r : Int))).run Tryz.prog W = .ok (.string (Utf8.encode (r : Int))) W := by
  kernel_rfl
theorem prefix_step {a b : List UInt8} {k d : Nat} (h : a.take k <+: b) (hk : k + d ≤ a.length) : a.take (k + d) <+: b ↔ (a.drop k).take d <+: b.drop k := by
  have hk' : (a.take k).length = k := by rw [List.length_take]; omega
  obtain ⟨t, rfl⟩ := h
  have e1 : a.take (k + d) = a.take k ++ (a.drop k).take d := by rw [List.take_add]
  have e2 : (a.take k ++ t).drop k = t := by rw [List.drop_append_of_le_length (by omega), List.drop_eq_nil_of_le (by omega), List.nil_append]
  rw [e1, e2]
  exact List.prefix_append_right_inj _
theorem restP_no {p q : List UInt8} (h0 : q ≠ []) (h1 : q ≠ p) (h : ¬ q <+: p) : restP p q = none := by
  unfold restP
  rw [if_neg h0, if_neg h1, if_neg]
  intro hh
  have := List.isPrefixOf_iff_prefix.1 hh
  exact h ((List.prefix_append q [47]).trans this)
theorem restP_yes {p q : List UInt8} (h0 : q ≠ []) (h1 : q ≠ p) (h : q <+: p) : restP p q = if pre [47] (p.drop q.length) then some (p.drop (q.length + 1)) else none := by
  obtain ⟨t, rfl⟩ := h
  unfold restP
  rw [if_neg h0, if_neg h1, List.drop_left]
  have e : (q ++ [47]).isPrefixOf (q ++ t) = pre [47] t := by
    rw [Bool.eq_iff_iff, List.isPrefixOf_iff_prefix, pre_iff, List.prefix_append_right_inj]
  rw [e]

set_option maxRecDepth 100000 in
set_option maxHeartbeats 4000000 in
theorem mrest_any (p q : ByteArray) (w : World) (hp : p.size ≤ 500000) (hq : q.size ≤ 500000) (hr : rightB (bs q) = true) :
    Calls Tryz.prog 40 #[.string p, .string q] w fun e w' => e = .returned (.tuple #[.string (restS p q), .bool (restB p q)]) ∧ Below w.heap.size w w' := by
  by_cases h1 : q.toList = []
  · have e1 : bs q = [] := by rw [← toList_bs]; exact h1
    have eS : restS p q = p := by unfold restS restP; rw [if_pos e1]; exact mk_bs p
    have eB : restB p q = true := by unfold restB restP; rw [if_pos e1]; rfl
    rw [eS, eB]
    clear hr e1 eS eB
    have b1 : q.toList.isEmpty = true := by rw [h1]; rfl
    go_enter Tryz.func40, Tryz.ntmps40
    go_wp2
    go_ret2
    exact ⟨rfl, Below.refl _ _⟩
  · have n1 : bs q ≠ [] := by rw [← toList_bs]; exact h1
    have b1 : q.toList.isEmpty = false := by simpa using h1
    by_cases h2 : q = p
    · subst h2
      have eS : restS q q = ⟨#[]⟩ := by unfold restS restP; rw [if_neg n1, if_pos rfl]; rfl
      have eB : restB q q = true := by unfold restB restP; rw [if_neg n1, if_pos rfl]; rfl
      rw [eS, eB]
      clear hr n1 eS eB h1
      go_enter Tryz.func40, Tryz.ntmps40
      go_wp2
      go_ret2
      exact ⟨rfl, Below.refl _ _⟩
    · have n2 : bs q ≠ bs p := fun e => h2 (bs_inj e)
      have b2 : (q.toList == p.toList) = false := by rw [beq_eq_false_iff_ne, toList_bs, toList_bs]; exact n2
      have HN : Hid (bs q ≠ [] ∧ bs q ≠ bs p) := ⟨n1, n2⟩
      have HR : Hid (rightB (bs q) = true) := hr
      clear h1 h2 n1 n2 hr
      go_enter Tryz.func40, Tryz.ntmps40
      go_wp2
      go_loopw [] (fun wr => ∃ k : Nat, k ≤ q.size ∧ wr = w.iter q k ∧ Hid (rightB ((bs q).drop k) = true ∧ (bs q).take k <+: bs p)) (fun wr => q.size - wr.iterPos w.heap.size)
      case atStart => exact ⟨0, Nat.zero_le _, rfl, by simpa using HR.out, by simp⟩
      case round =>
        obtain ⟨k, hk, rfl, H⟩ := hrel
        have hkp : k ≤ p.size := by
          have := H.out.2.length_le
          rw [List.length_take, bs_len, bs_len] at this
          omega
        by_cases hlt : k < q.size
        · obtain ⟨r, hrr⟩ : ∃ r, r = (dec ((bs q).drop k)).1 := ⟨_, rfl⟩
          obtain ⟨d, hd⟩ : ∃ d, d = (dec ((bs q).drop k)).2 := ⟨_, rfl⟩
          have hne : (bs q).drop k ≠ [] := fun e => by
            have := congrArg List.length e
            rw [List.length_drop, bs_len] at this; simp at this; omega
          have hd1 : 1 ≤ d := by rw [hd]; exact dec_pos _
          have hd2 : k + d ≤ q.size := by
            have := dec_le _ hne
            rw [← hd, List.length_drop, bs_len] at this; omega
          have hdec : Utf8.decode q k = (r, d) := by rw [decode_dec, hrr, hd]; rfl
          have hrle : r ≤ 2147483647 := by have := decode_le q k; rw [hdec] at this; exact this
          have hrg := rightB_go _ hne
          rw [H.out.1] at hrg
          have hrg' := hrg.symm
          rw [Bool.and_eq_true, Bool.not_eq_true'] at hrg'
          have henc := encode_dec _ hne hrg'.1
          rw [← hrr, ← hd] at henc
          have hnx := run_next_any (P := Tryz.prog) w q k (h := hlt)
          rw [hdec] at hnx
          obtain ⟨C, hC⟩ : ∃ C, C = Utf8.encode (r : Int) := ⟨_, rfl⟩
          have hcv : ∀ W, (convert 21 9 (.int .i32 (r : Int))).run Tryz.prog W = .ok (.string C) W := fun W => by rw [hC]; exact rune_str r W
          have hCs : C.size ≤ 500000 := by
            have := congrArg List.length henc
            rw [← hC] at this
            have h2 : C.data.toList.length = C.size := by rw [Array.length_toList]; rfl
            rw [h2, List.length_take, List.length_drop, bs_len] at this
            omega
          have hCb : bs C = ((bs q).drop k).take d := by rw [hC]; exact henc
          have hpre := fun W => has_prefix (p.extract k p.size) C W (by unfold maxLen; simp; omega) (by unfold maxLen; omega)
          have hst := prefix_step (d := d) H.out.2 (by rw [bs_len]; exact hd2)
          have hbx : bs (p.extract k p.size) = (bs p).drop k := by
            rw [bs_extract, show (bs p).take p.size = bs p by rw [← bs_len]; exact List.take_length]
          rw [hCb, hbx] at hpre
          have HRight : Hid (rightB ((bs q).drop (k + d)) = true) := by
            show _ = _
            rw [← List.drop_drop, hd]; exact hrg'.2
          obtain ⟨W1, hW1⟩ : ∃ W1, W1 = w.iter q k := ⟨_, rfl⟩
          obtain ⟨W2, hW2⟩ : ∃ W2, W2 = w.iter q (k + d) := ⟨_, rfl⟩
          have HB2 : Hid (Below w.heap.size w W2) := by rw [hW2]; exact (Below.refl _ w).alloc (Nat.le_refl _) _
          have HW2 : Hid (W2 = w.iter q (k + d)) := hW2
          have hm1 : Hid (q.size - W2.iterPos w.heap.size < q.size - W1.iterPos w.heap.size) := by
            have e1 := World.iterPos_iter w q k
            have e2 := World.iterPos_iter w q (k + d)
            rw [← hW1] at e1
            rw [← hW2] at e2
            show _ < _
            rw [e1, e2]; omega
          rw [← hW1, ← hW2] at hnx
          rw [← hW1]
          have i3 : (k : Int) ≤ p.size := by omega
          cases hpr : pre (((bs q).drop k).take d) ((bs p).drop k) with
          | true =>
            rw [hpr] at hpre
            have HX : Hid ((bs q).take (k + d) <+: bs p) := hst.2 ((pre_iff _ _).1 hpr)
            clear hpr hst hbx hCb henc hrg hrg' hne hd hrr hdec hW1 hW2 H hC
            go_wp2_with (go_at_call 62; refine (hpre _).mono ?_; rintro e w' ⟨rfl, rfl⟩)
            go_roundw
            case rel => exact ⟨k + d, hd2, HW2.out, HRight.out, HX.out⟩
            case measure => exact hm1.out
          | false =>
            rw [hpr] at hpre
            have hno : restP (bs p) (bs q) = none := restP_no HN.out.1 HN.out.2 (fun hh => by
              have h3 : pre (((bs q).drop k).take d) ((bs p).drop k) = true := (pre_iff _ _).2 (hst.1 ((List.take_prefix _ _).trans hh))
              rw [hpr] at h3; cases h3)
            have HS : Hid (restS p q = ⟨#[]⟩ ∧ restB p q = false) := ⟨by unfold restS; rw [hno]; rfl, by unfold restB; rw [hno]; rfl⟩
            clear hpr hst hbx hCb henc hrg hrg' hne hd hrr hdec hW1 hW2 H hC hno
            go_wp2_with (go_at_call 62; refine (hpre _).mono ?_; rintro e w' ⟨rfl, rfl⟩)
            go_ret2
            exact ⟨by rw [HS.out.1, HS.out.2]; rfl, HB2.out⟩
        · obtain rfl : k = q.size := by omega
          have hnx := run_next_end (P := Tryz.prog) w q q.size (h := Nat.lt_irrefl _)
          obtain ⟨W1, hW1⟩ : ∃ W1, W1 = w.iter q q.size := ⟨_, rfl⟩
          have HB1 : Hid (Below w.heap.size w W1) := by rw [hW1]; exact (Below.refl _ w).alloc (Nat.le_refl _) _
          have hpx : bs q <+: bs p := by have h := H.out.2; rw [← bs_len, List.take_length] at h; exact h
          have hyes := restP_yes HN.out.1 HN.out.2 hpx
          have hbx : bs (p.extract q.size p.size) = (bs p).drop q.size := by
            rw [bs_extract, show (bs p).take p.size = bs p by rw [← bs_len]; exact List.take_length]
          have hcut := cut_prefix (p.extract q.size p.size) ⟨#[47]⟩ W1 (by simp; omega) (by decide)
          rw [hbx, show bs ⟨#[47]⟩ = [47] from rfl] at hcut
          rw [bs_len] at hyes
          rw [← hW1] at hnx
          rw [← hW1]
          have i3 : (q.size : Int) ≤ p.size := by omega
          cases hpr : pre [47] ((bs p).drop q.size) with
          | true =>
            rw [hpr] at hcut hyes
            simp only [if_true] at hcut hyes
            obtain ⟨T, hT⟩ : ∃ T, T = (p.extract q.size p.size).extract (ByteArray.size ⟨#[47]⟩) (p.extract q.size p.size).size := ⟨_, rfl⟩
            rw [← hT] at hcut
            have HS : Hid (restS p q = T ∧ restB p q = true) := by
              refine ⟨?_, by unfold restB; rw [hyes]; rfl⟩
              unfold restS
              rw [hyes, hT]
              apply bs_inj
              rw [bs_mk, bs_extract, hbx, Option.getD_some]
              have e3 : (p.extract q.size p.size).size = ((bs p).drop q.size).length := by rw [← bs_len, hbx]
              rw [e3, List.take_length, List.drop_drop]
              rfl
            clear hpr hyes hbx hpx hT hW1 H
            go_wp2_with (go_at_call 63; refine hcut.mono ?_; rintro e w' ⟨rfl, rfl⟩)
            go_ret2
            exact ⟨by rw [HS.out.1, HS.out.2]; rfl, HB1.out⟩
          | false =>
            rw [hpr] at hcut hyes
            simp only [Bool.false_eq_true, if_false] at hcut hyes
            have HS : Hid (restS p q = ⟨#[]⟩ ∧ restB p q = false) := ⟨by unfold restS; rw [hyes]; rfl, by unfold restB; rw [hyes]; rfl⟩
            clear hpr hyes hbx hpx hW1 H
            go_wp2_with (go_at_call 63; refine hcut.mono ?_; rintro e w' ⟨rfl, rfl⟩)
            go_ret2
            exact ⟨by rw [HS.out.1, HS.out.2]; rfl, HB1.out⟩
end Go.Proofs.YtggnglgehobglaaGreatDoor
