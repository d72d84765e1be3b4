import Derived.Test.YtggnglgehobglaaGreatDoorP06
import Derived.Lib.RuneBytes
import Derived.Lib.Bytealg
import Derived.Laws.Bits
import Derived.Lib.Strings
/- Quoted texts and words as rows of bytes: what the document says of them. Of no program. -/
namespace Go.Proofs.YtggnglgehobglaaGreatDoor

theorem dec2 (a b : UInt8) (t : List UInt8) (h1 : a.toNat / 32 = 6) (h2 : b.toNat / 64 = 2) (h3 : 128 ≤ a.toNat % 32 * 64 + b.toNat % 64) : dec (a :: b :: t) = (a.toNat % 32 * 64 + b.toNat % 64, 2) := by
  rw [dec_eq]
  simp only [List.getD_cons_zero, List.getD_cons_succ, List.length_cons]
  rw [if_neg (by omega), if_pos ⟨h1, by omega, h2⟩, if_pos h3]
theorem dec3 (a b c : UInt8) (t : List UInt8) (h1 : a.toNat / 16 = 14) (h2 : b.toNat / 64 = 2) (h3 : c.toNat / 64 = 2) (h4 : 2048 ≤ a.toNat % 16 * 4096 + b.toNat % 64 * 64 + c.toNat % 64) (h5 : Utf8.valid (a.toNat % 16 * 4096 + b.toNat % 64 * 64 + c.toNat % 64 : Nat) = true) :
    dec (a :: b :: c :: t) = (a.toNat % 16 * 4096 + b.toNat % 64 * 64 + c.toNat % 64, 3) := by
  rw [dec_eq]
  simp only [List.getD_cons_zero, List.getD_cons_succ, List.length_cons]
  rw [if_neg (by omega), if_neg (by omega), if_pos ⟨h1, ⟨by omega, h2⟩, by omega, h3⟩, if_pos ⟨h4, h5⟩]
theorem dec4 (a b c d : UInt8) (t : List UInt8) (h1 : a.toNat / 8 = 30) (h2 : b.toNat / 64 = 2) (h3 : c.toNat / 64 = 2) (h3' : d.toNat / 64 = 2) (h4 : 65536 ≤ a.toNat % 8 * 262144 + b.toNat % 64 * 4096 + c.toNat % 64 * 64 + d.toNat % 64) (h5 : Utf8.valid (a.toNat % 8 * 262144 + b.toNat % 64 * 4096 + c.toNat % 64 * 64 + d.toNat % 64 : Nat) = true) :
    dec (a :: b :: c :: d :: t) = (a.toNat % 8 * 262144 + b.toNat % 64 * 4096 + c.toNat % 64 * 64 + d.toNat % 64, 4) := by
  rw [dec_eq]
  simp only [List.getD_cons_zero, List.getD_cons_succ, List.length_cons]
  rw [if_neg (by omega), if_neg (by omega), if_neg (by omega), if_pos ⟨h1, ⟨by omega, h2⟩, ⟨by omega, h3⟩, by omega, h3'⟩, if_pos ⟨h4, h5⟩]

theorem fffd_of (a b c : UInt8) (t : List UInt8) (h1 : a.toNat / 16 = 14) (h2 : b.toNat / 64 = 2) (h3 : c.toNat / 64 = 2) (e : a.toNat % 16 * 4096 + b.toNat % 64 * 64 + c.toNat % 64 = 65533) : fffd <+: a :: b :: c :: t := by
  have e0 : a = 239 := UInt8.toNat_inj.1 (by show _ = 239; omega)
  have e1 : b = 191 := UInt8.toNat_inj.1 (by show _ = 191; omega)
  have e2 : c = 189 := UInt8.toNat_inj.1 (by show _ = 189; omega)
  subst e0; subst e1; subst e2
  exact ⟨t, rfl⟩
/-- a form stays what it is, whatever follows; or it is a broken byte -/
theorem dec_form (l : List UInt8) (hl : l ≠ []) : ((∀ m, dec (l.take (dec l).2 ++ m) = dec l) ∧ ((dec l).1 = 65533 → fffd <+: l)) ∨ (dec l = (65533, 1) ∧ 128 ≤ (l.getD 0 0).toNat) := by
  match l, hl with
  | [a], _ =>
    by_cases h : a.toNat < 128
    · left; rw [dec_ascii a [] h]; exact ⟨fun m => dec_ascii a m h, fun e => by simp only at e; omega⟩
    · right; refine ⟨?_, by simpa using h⟩
      rw [dec_eq]; simp [h]
  | [a, b], _ =>
    by_cases h : a.toNat < 128
    · left; rw [dec_ascii a [b] h]; exact ⟨fun m => dec_ascii a m h, fun e => by simp only at e; omega⟩
    · by_cases h2 : a.toNat / 32 = 6 ∧ b.toNat / 64 = 2 ∧ 128 ≤ a.toNat % 32 * 64 + b.toNat % 64
      · left; rw [dec2 a b [] h2.1 h2.2.1 h2.2.2]; exact ⟨fun m => dec2 a b m h2.1 h2.2.1 h2.2.2, fun e => by simp only at e; omega⟩
      · right; refine ⟨?_, by simpa using h⟩
        rw [dec_eq]
        simp only [List.getD_cons_zero, List.getD_cons_succ, List.length_cons, List.length_nil]
        rw [if_neg h]
        by_cases h3 : a.toNat / 32 = 6 ∧ 1 < 0 + 1 + 1 ∧ b.toNat / 64 = 2
        · rw [if_pos h3, if_neg (fun h4 => h2 ⟨h3.1, h3.2.2, h4⟩)]
        · rw [if_neg h3, if_neg (by omega), if_neg (by omega)]
  | [a, b, c], _ =>
    by_cases h : a.toNat < 128
    · left; rw [dec_ascii a [b, c] h]; exact ⟨fun m => dec_ascii a m h, fun e => by simp only at e; omega⟩
    · by_cases h2 : a.toNat / 32 = 6 ∧ b.toNat / 64 = 2 ∧ 128 ≤ a.toNat % 32 * 64 + b.toNat % 64
      · left; rw [dec2 a b [c] h2.1 h2.2.1 h2.2.2]; exact ⟨fun m => dec2 a b m h2.1 h2.2.1 h2.2.2, fun e => by simp only at e; omega⟩
      · by_cases h5 : a.toNat / 16 = 14 ∧ b.toNat / 64 = 2 ∧ c.toNat / 64 = 2 ∧ 2048 ≤ a.toNat % 16 * 4096 + b.toNat % 64 * 64 + c.toNat % 64 ∧ Utf8.valid (a.toNat % 16 * 4096 + b.toNat % 64 * 64 + c.toNat % 64 : Nat) = true
        · left; rw [dec3 a b c [] h5.1 h5.2.1 h5.2.2.1 h5.2.2.2.1 h5.2.2.2.2]; exact ⟨fun m => dec3 a b c m h5.1 h5.2.1 h5.2.2.1 h5.2.2.2.1 h5.2.2.2.2, fun e => fffd_of a b c _ h5.1 h5.2.1 h5.2.2.1 e⟩
        · right; refine ⟨?_, by simpa using h⟩
          rw [dec_eq]
          simp only [List.getD_cons_zero, List.getD_cons_succ, List.length_cons, List.length_nil]
          rw [if_neg h]
          by_cases h3 : a.toNat / 32 = 6 ∧ 1 < 0 + 1 + 1 + 1 ∧ b.toNat / 64 = 2
          · rw [if_pos h3, if_neg (fun h4 => h2 ⟨h3.1, h3.2.2, h4⟩)]
          · rw [if_neg h3]
            by_cases h6 : a.toNat / 16 = 14 ∧ (1 < 0 + 1 + 1 + 1 ∧ b.toNat / 64 = 2) ∧ (2 < 0 + 1 + 1 + 1 ∧ c.toNat / 64 = 2)
            · rw [if_pos h6, if_neg (fun h4 => h5 ⟨h6.1, h6.2.1.2, h6.2.2.2, h4⟩)]
            · rw [if_neg h6, if_neg (by omega)]
  | a :: b :: c :: d :: t, _ =>
    by_cases h : a.toNat < 128
    · left; rw [dec_ascii a _ h]; exact ⟨fun m => dec_ascii a m h, fun e => by simp only at e; omega⟩
    · by_cases h2 : a.toNat / 32 = 6 ∧ b.toNat / 64 = 2 ∧ 128 ≤ a.toNat % 32 * 64 + b.toNat % 64
      · left; rw [dec2 a b _ h2.1 h2.2.1 h2.2.2]; exact ⟨fun m => dec2 a b m h2.1 h2.2.1 h2.2.2, fun e => by simp only at e; omega⟩
      · by_cases h5 : a.toNat / 16 = 14 ∧ b.toNat / 64 = 2 ∧ c.toNat / 64 = 2 ∧ 2048 ≤ a.toNat % 16 * 4096 + b.toNat % 64 * 64 + c.toNat % 64 ∧ Utf8.valid (a.toNat % 16 * 4096 + b.toNat % 64 * 64 + c.toNat % 64 : Nat) = true
        · left; rw [dec3 a b c _ h5.1 h5.2.1 h5.2.2.1 h5.2.2.2.1 h5.2.2.2.2]; exact ⟨fun m => dec3 a b c m h5.1 h5.2.1 h5.2.2.1 h5.2.2.2.1 h5.2.2.2.2, fun e => fffd_of a b c _ h5.1 h5.2.1 h5.2.2.1 e⟩
        · by_cases h7 : a.toNat / 8 = 30 ∧ b.toNat / 64 = 2 ∧ c.toNat / 64 = 2 ∧ d.toNat / 64 = 2 ∧ 65536 ≤ a.toNat % 8 * 262144 + b.toNat % 64 * 4096 + c.toNat % 64 * 64 + d.toNat % 64 ∧ Utf8.valid (a.toNat % 8 * 262144 + b.toNat % 64 * 4096 + c.toNat % 64 * 64 + d.toNat % 64 : Nat) = true
          · left; rw [dec4 a b c d _ h7.1 h7.2.1 h7.2.2.1 h7.2.2.2.1 h7.2.2.2.2.1 h7.2.2.2.2.2]; exact ⟨fun m => dec4 a b c d m h7.1 h7.2.1 h7.2.2.1 h7.2.2.2.1 h7.2.2.2.2.1 h7.2.2.2.2.2, fun e => by simp only at e; omega⟩
          · right; refine ⟨?_, by simpa using h⟩
            rw [dec_eq]
            simp only [List.getD_cons_zero, List.getD_cons_succ, List.length_cons]
            rw [if_neg h]
            by_cases h3 : a.toNat / 32 = 6 ∧ 1 < t.length + 1 + 1 + 1 + 1 ∧ b.toNat / 64 = 2
            · rw [if_pos h3, if_neg (fun h4 => h2 ⟨h3.1, h3.2.2, h4⟩)]
            · rw [if_neg h3]
              by_cases h6 : a.toNat / 16 = 14 ∧ (1 < t.length + 1 + 1 + 1 + 1 ∧ b.toNat / 64 = 2) ∧ (2 < t.length + 1 + 1 + 1 + 1 ∧ c.toNat / 64 = 2)
              · rw [if_pos h6, if_neg (fun h4 => h5 ⟨h6.1, h6.2.1.2, h6.2.2.2, h4⟩)]
              · rw [if_neg h6]
                by_cases h8 : a.toNat / 8 = 30 ∧ (1 < t.length + 1 + 1 + 1 + 1 ∧ b.toNat / 64 = 2) ∧ (2 < t.length + 1 + 1 + 1 + 1 ∧ c.toNat / 64 = 2) ∧ (3 < t.length + 1 + 1 + 1 + 1 ∧ d.toNat / 64 = 2)
                · rw [if_pos h8, if_neg (fun h4 => h7 ⟨h8.1, h8.2.1.2, h8.2.2.1.2, h8.2.2.2.2, h4⟩)]
                · rw [if_neg h8]

theorem dec_fffd (t : List UInt8) : dec (fffd ++ t) = (65533, 3) := dec3 239 191 189 t (by decide) (by decide) (by decide) (by decide) (by decide)
/-- a broken byte is told by its width -/
theorem brk_iff (l : List UInt8) (hl : l ≠ []) : brk l = (decide ((dec l).1 = 65533) && decide ((dec l).2 = 1)) := by
  unfold brk
  by_cases h : (dec l).1 = 65533
  · rw [decide_eq_true h, Bool.true_and, Bool.true_and]
    by_cases hp : fffd.isPrefixOf l = true
    · obtain ⟨t, rfl⟩ := List.isPrefixOf_iff_prefix.1 hp
      rw [dec_fffd, hp]; rfl
    · rw [Bool.eq_false_iff.2 hp]
      rcases dec_form l hl with hf | hb
      · exact absurd (List.isPrefixOf_iff_prefix.2 (hf.2 h)) hp
      · rw [hb.1]; rfl
  · simp [h]
theorem dec_form' (l : List UInt8) (hl : l ≠ []) (hb : brk l = false) (m : List UInt8) : dec (l.take (dec l).2 ++ m) = dec l := by
  rcases dec_form l hl with hf | h
  · exact hf.1 m
  · rw [brk_iff l hl, h.1] at hb; cases hb
/-- a rune below 128 is its byte -/
theorem dec_low (l : List UInt8) (hl : l ≠ []) (h : (dec l).1 < 128) : ∃ c t, l = c :: t ∧ c.toNat = (dec l).1 ∧ (dec l).2 = 1 := by
  match l, hl with
  | c :: t, _ =>
    by_cases hc : c.toNat < 128
    · rw [dec_ascii c t hc]; exact ⟨c, t, rfl, rfl, rfl⟩
    · have := dec_high c t (by omega); omega
theorem dec_lead (c : UInt8) (t : List UInt8) (h : 128 ≤ (dec (c :: t)).1) : 128 ≤ c.toNat := by
  by_cases hc : c.toNat < 128
  · rw [dec_ascii c t hc] at h; exact h
  · omega
theorem drop_len (l : List UInt8) (h : ¬ l = []) : (l.drop (dec l).2).length < l.length := drop_lt l h

/-! quoted -/
def ctl (r : Nat) : Bool := decide (r < 32) || (decide (127 ≤ r) && decide (r ≤ 159))
def hexd (x : Nat) : UInt8 := if x < 10 then UInt8.ofNat (48 + x) else UInt8.ofNat (87 + x)
def esc (b : UInt8) : List UInt8 := [92, 120, hexd (b.toNat / 16), hexd (b.toNat % 16)]
def escs (l : List UInt8) : List UInt8 := l.flatMap esc
/-- the piece at the front, quoted -/
def qpiece (l : List UInt8) : List UInt8 :=
  if (dec l).1 = 34 ∨ (dec l).1 = 92 then [92, UInt8.ofNat (dec l).1]
  else if (dec l).1 = 10 then [92, 110]
  else if ctl (dec l).1 || brk l then escs (l.take (dec l).2)
  else l.take (dec l).2
def qs (l : List UInt8) : List UInt8 :=
  if l = [] then [] else qpiece l ++ qs (l.drop (dec l).2)
termination_by l.length
decreasing_by exact drop_lt l (by assumption)
theorem qs_nil : qs [] = [] := by rw [qs]; simp
theorem qs_go (l : List UInt8) (h : l ≠ []) : qs l = qpiece l ++ qs (l.drop (dec l).2) := by rw [qs, if_neg h]
def quoteL (l : List UInt8) : List UInt8 := 34 :: (qs l ++ [34])

/-- may the rune at the front not stand in a plain word? -/
def badw (l : List UInt8) : Bool := decide ((dec l).1 = 32) || decide ((dec l).1 = 34) || decide ((dec l).1 = 92) || ctl (dec l).1 || brk l
def plainF (l : List UInt8) : Bool :=
  if l = [] then true else !badw l && plainF (l.drop (dec l).2)
termination_by l.length
decreasing_by exact drop_lt l (by assumption)
theorem plainF_nil : plainF [] = true := by rw [plainF]; simp
theorem plainF_go (l : List UInt8) (h : l ≠ []) : plainF l = (!badw l && plainF (l.drop (dec l).2)) := by rw [plainF, if_neg h]
def plainL (l : List UInt8) : Bool := decide (l ≠ []) && decide (l.getD 0 0 ≠ 35) && plainF l

theorem escs_len (l : List UInt8) : (escs l).length = 4 * l.length := by
  induction l with
  | nil => rfl
  | cons a t ih => simp only [escs, List.flatMap_cons, List.length_append, List.length_cons] at ih ⊢; rw [ih]; simp [esc]; omega
theorem qpiece_len (l : List UInt8) (hl : l ≠ []) : (qpiece l).length ≤ 4 * (dec l).2 := by
  have := dec_pos l
  have h2 := dec_le l hl
  unfold qpiece
  split
  · simp; omega
  · split
    · simp; omega
    · split
      · rw [escs_len, List.length_take]; omega
      · rw [List.length_take]; omega
theorem qs_len : ∀ (k : Nat) (l : List UInt8), l.length ≤ k → (qs l).length ≤ 4 * l.length
  | 0, l, h => by
    have : l = [] := List.length_eq_zero_iff.1 (by omega)
    rw [this, qs_nil]; simp
  | k + 1, l, h => by
    by_cases e : l = []
    · rw [e, qs_nil]; simp
    · have h1 := drop_lt l e
      have h2 := qs_len k (l.drop (dec l).2) (by omega)
      have h3 := qpiece_len l e
      have h4 := dec_le l e
      rw [qs_go l e, List.length_append]
      rw [List.length_drop] at h2
      omega
end Go.Proofs.YtggnglgehobglaaGreatDoor

/- What is quoted, undone: over bytes. -/
namespace Go.Proofs.YtggnglgehobglaaGreatDoor
open Go.RowKit

def digL : List UInt8 := [48, 49, 50, 51, 52, 53, 54, 55, 56, 57, 97, 98, 99, 100, 101, 102]
def ixd (c : UInt8) : Int := Lib.indexByte digL c
/-- the byte that two digits say -/
def hxI (a b : Int) : Int := bits BinOp.or IntKind.i64 (a * 16) b % 256
def hx (c d : UInt8) : UInt8 := UInt8.ofNat (hxI (ixd c) (ixd d)).toNat
theorem hxI_lo (a b : Int) : 0 ≤ hxI a b := Int.emod_nonneg _ (by decide)
theorem hxI_hi (a b : Int) : hxI a b < 256 := Int.emod_lt_of_pos _ (by decide)
theorem hx_val (c d : UInt8) : ((hx c d).toNat : Int) = hxI (ixd c) (ixd d) := by
  have h0 := hxI_lo (ixd c) (ixd d)
  have h1 := hxI_hi (ixd c) (ixd d)
  unfold hx
  rw [UInt8.toNat_ofNat']
  omega
theorem ixd_lo : ∀ c : UInt8, -1 ≤ ixd c ∧ ixd c ≤ 15 := by
  have : ∀ z : Fin 256, -1 ≤ ixd (UInt8.ofNat z.val) ∧ ixd (UInt8.ofNat z.val) ≤ 15 := by decide +kernel
  intro c
  have h := this ⟨c.toNat, c.toNat_lt⟩
  simp only [UInt8.ofNat_toNat] at h
  exact h
theorem hx_esc : ∀ b : UInt8, hx (hexd (b.toNat / 16)) (hexd (b.toNat % 16)) = b := by
  have : ∀ z : Fin 256, hx (hexd (z.val / 16)) (hexd (z.val % 16)) = UInt8.ofNat z.val := by decide +kernel
  intro b
  have h := this ⟨b.toNat, b.toNat_lt⟩
  simp only [UInt8.ofNat_toNat] at h
  exact h
theorem hexd_low (x : Nat) (h : x < 16) : (hexd x).toNat < 128 := by
  have : ∀ z : Fin 16, (hexd z.val).toNat < 128 := by decide +kernel
  exact this ⟨x, h⟩
theorem hexd_print (x : Nat) (h : x < 16) : 48 ≤ (hexd x).toNat ∧ (hexd x).toNat ≤ 102 := by
  have : ∀ z : Fin 16, 48 ≤ (hexd z.val).toNat ∧ (hexd z.val).toNat ≤ 102 := by decide +kernel
  exact this ⟨x, h⟩

/-- the byte that the backslash at the front tells, and how many bytes tell it -/
def escd (l : List UInt8) : UInt8 × Nat :=
  if 4 ≤ l.length ∧ l.getD 1 0 = 120 then (hx (l.getD 2 0) (l.getD 3 0), 4)
  else if 2 ≤ l.length ∧ l.getD 1 0 = 110 then (10, 2)
  else if 2 ≤ l.length then (l.getD 1 0, 2) else (92, 1)
def enc (r : Nat) : List UInt8 := Lib.encodeRune (r : Int)
def unesc (l : List UInt8) (k : Nat) : List UInt8 :=
  if l = [] then []
  else if 0 < k then unesc (l.drop (dec l).2) (k - (dec l).2)
  else if (dec l).1 = 92 then (escd l).1 :: unesc (l.drop (dec l).2) ((escd l).2 - (dec l).2)
  else enc (dec l).1 ++ unesc (l.drop (dec l).2) 0
termination_by l.length
decreasing_by all_goals exact drop_lt l (by assumption)
theorem unesc_nil (k : Nat) : unesc [] k = [] := by rw [unesc]; simp
theorem unesc_skip (l : List UInt8) (k : Nat) (h : l ≠ []) (hk : 0 < k) : unesc l k = unesc (l.drop (dec l).2) (k - (dec l).2) := by rw [unesc, if_neg h, if_pos hk]
theorem unesc_esc (l : List UInt8) (h : l ≠ []) (hr : (dec l).1 = 92) : unesc l 0 = (escd l).1 :: unesc (l.drop (dec l).2) ((escd l).2 - (dec l).2) := by
  rw [unesc, if_neg h, if_neg (by omega), if_pos hr]
theorem unesc_go (l : List UInt8) (h : l ≠ []) (hr : (dec l).1 ≠ 92) : unesc l 0 = enc (dec l).1 ++ unesc (l.drop (dec l).2) 0 := by
  rw [unesc, if_neg h, if_neg (by omega), if_neg hr]
theorem unesc_low (c : UInt8) (t : List UInt8) (k : Nat) (hc : c.toNat < 128) : unesc (c :: t) (k + 1) = unesc t k := by
  rw [unesc_skip _ _ (by simp) (by omega), dec_ascii c t hc]; rfl

theorem toNat_u8 (x : Int) (n : Nat) (h : x = (n : Int)) : x.toNat.toUInt8 = UInt8.ofNat n := by subst h; rfl
theorem enc_eq (r : Nat) : enc r = (Utf8.encode (r : Int)).data.toList := by
  unfold enc Lib.encodeRune
  by_cases h1 : r ≤ 127
  · have hv : Utf8.valid (r : Int) = true := by simp [Utf8.valid]; omega
    rw [Lib.encodeRuneZ_one (by omega) (by omega)]
    simp only [Utf8.encode, hv, if_true, Int.toNat_natCast]
    rw [if_pos (by omega)]; rfl
  · by_cases h2 : r ≤ 2047
    · have hv : Utf8.valid (r : Int) = true := by simp [Utf8.valid]; omega
      rw [Lib.encodeRuneZ_two (by omega) (by omega)]
      simp only [Utf8.encode, hv, if_true, Int.toNat_natCast, List.map_cons, List.map_nil]
      rw [if_neg (by omega), if_pos (by omega), toNat_u8 _ (192 + r / 64) (by omega), toNat_u8 _ (128 + r % 64) (by omega)]
    · by_cases h3 : r < 55296 ∨ (57343 < r ∧ r ≤ 65535)
      · have hv : Utf8.valid (r : Int) = true := by simp [Utf8.valid]; omega
        rw [Lib.encodeRuneZ_three (by omega)]
        simp only [Utf8.encode, hv, if_true, Int.toNat_natCast, List.map_cons, List.map_nil]
        rw [if_neg (by omega), if_neg (by omega), if_pos (by omega), toNat_u8 _ (224 + r / 4096) (by omega), toNat_u8 _ (128 + r / 64 % 64) (by omega), toNat_u8 _ (128 + r % 64) (by omega)]
      · by_cases h4 : 65536 ≤ r ∧ r ≤ 1114111
        · have hv : Utf8.valid (r : Int) = true := by simp [Utf8.valid]; omega
          rw [Lib.encodeRuneZ_four (by omega) (by omega)]
          simp only [Utf8.encode, hv, if_true, Int.toNat_natCast, List.map_cons, List.map_nil]
          rw [if_neg (by omega), if_neg (by omega), if_neg (by omega), toNat_u8 _ (240 + r / 262144) (by omega), toNat_u8 _ (128 + r / 4096 % 64) (by omega), toNat_u8 _ (128 + r / 64 % 64) (by omega), toNat_u8 _ (128 + r % 64) (by omega)]
        · have hv : Utf8.valid (r : Int) = false := by simp [Utf8.valid]; omega
          rw [Lib.encodeRuneZ_bad (by omega)]
          simp only [Utf8.encode, hv, Bool.false_eq_true, if_false]
          rfl
theorem enc_len (r : Nat) : (enc r).length ≤ 4 := by
  have := Lib.encodeRuneZ_length (r : Int)
  unfold enc Lib.encodeRune
  rw [List.length_map]; omega

/-- a piece that is quoted is undone -/
theorem unesc_escs : ∀ (l X : List UInt8), unesc (escs l ++ X) 0 = l ++ unesc X 0
  | [], X => rfl
  | b :: t, X => by
    have e : escs (b :: t) ++ X = 92 :: 120 :: hexd (b.toNat / 16) :: hexd (b.toNat % 16) :: (escs t ++ X) := by simp [escs, esc]
    have hb := b.toNat_lt
    rw [e, unesc_esc _ (by simp) (by rw [dec_ascii 92 _ (by decide)]; rfl), dec_ascii 92 _ (by decide)]
    have he : escd (92 :: 120 :: hexd (b.toNat / 16) :: hexd (b.toNat % 16) :: (escs t ++ X)) = (b, 4) := by
      unfold escd
      rw [if_pos ⟨by simp, rfl⟩]
      show (hx (hexd (b.toNat / 16)) (hexd (b.toNat % 16)), 4) = _
      rw [hx_esc]
    rw [he]
    show b :: unesc (120 :: hexd (b.toNat / 16) :: hexd (b.toNat % 16) :: (escs t ++ X)) 3 = _
    rw [unesc_low _ _ _ (by decide), unesc_low _ _ _ (hexd_low _ (by omega)), unesc_low _ _ _ (hexd_low _ (by omega)), unesc_escs t X]
    rfl
theorem unesc_two (c : UInt8) (X : List UInt8) (hc : c.toNat < 128) (h1 : c ≠ 120) : unesc (92 :: c :: X) 0 = (if c = 110 then 10 else c) :: unesc X 0 := by
  rw [unesc_esc _ (by simp) (by rw [dec_ascii 92 _ (by decide)]; rfl), dec_ascii 92 _ (by decide)]
  have he : escd (92 :: c :: X) = (if c = 110 then 10 else c, 2) := by
    unfold escd
    rw [if_neg (fun h => h1 h.2)]
    by_cases h2 : c = 110
    · rw [if_pos ⟨by simp, h2⟩, if_pos h2]
    · rw [if_neg (fun h => h2 h.2), if_pos (by simp), if_neg h2]; rfl
  rw [he]
  show _ :: unesc (c :: X) 1 = _
  rw [unesc_low _ _ _ hc]
theorem dec_byte (l : List UInt8) (h : l ≠ []) (r : Nat) (hr : (dec l).1 = r) (h1 : r < 128) : l.take (dec l).2 = [UInt8.ofNat r] := by
  obtain ⟨c, t, rfl, hc, hw⟩ := dec_low l h (by omega)
  rw [hw, ← hr, ← hc, UInt8.ofNat_toNat]; rfl
theorem unesc_piece (l X : List UInt8) (h : l ≠ []) : unesc (qpiece l ++ X) 0 = l.take (dec l).2 ++ unesc X 0 := by
  unfold qpiece
  by_cases h1 : (dec l).1 = 34 ∨ (dec l).1 = 92
  · rw [if_pos h1]
    rcases h1 with h1 | h1
    · rw [dec_byte l h 34 h1 (by omega), h1]
      exact unesc_two 34 X (by decide) (by decide)
    · rw [dec_byte l h 92 h1 (by omega), h1]
      exact unesc_two 92 X (by decide) (by decide)
  · rw [if_neg h1]
    by_cases h2 : (dec l).1 = 10
    · rw [if_pos h2, dec_byte l h 10 h2 (by omega)]
      exact unesc_two 110 X (by decide) (by decide)
    · rw [if_neg h2]
      by_cases h3 : (ctl (dec l).1 || brk l) = true
      · rw [if_pos h3]; exact unesc_escs _ X
      · rw [if_neg h3]
        have hb : brk l = false := by simp at h3; exact h3.2
        have hd := dec_form' l h hb X
        have hn := dec_le l h
        have hp := dec_pos l
        have hne : l.take (dec l).2 ++ X ≠ [] := by
          intro e
          have := congrArg List.length e
          rw [List.length_append, List.length_take, List.length_nil] at this; omega
        rw [unesc_go _ hne (by rw [hd]; exact fun e => h1 (.inr e)), hd, enc_eq, encode_dec l h hb, List.drop_append_of_le_length (by rw [List.length_take]; omega), List.drop_take]
        simp
theorem unesc_qs : ∀ (k : Nat) (l : List UInt8), l.length ≤ k → unesc (qs l) 0 = l
  | 0, l, h => by
    have : l = [] := List.length_eq_zero_iff.1 (by omega)
    rw [this, qs_nil, unesc_nil]
  | k + 1, l, h => by
    by_cases e : l = []
    · rw [e, qs_nil, unesc_nil]
    · have h1 := drop_lt l e
      rw [qs_go l e, unesc_piece l _ e, unesc_qs k _ (by omega), List.take_append_drop]

/-- what stands between the quotes -/
def inside (l : List UInt8) : List UInt8 := Lib.trimSuffix (Lib.trimPrefix l [34]) [34]
def opened (l : List UInt8) : Bool := Lib.hasPrefix l [34]
def closed (l : List UInt8) : Bool := Lib.hasSuffix (Lib.trimPrefix l [34]) [34]
/-- the text that, quoted, is l -/
def unq (l : List UInt8) : Option (List UInt8) :=
  if opened l = true ∧ closed l = true ∧ quoteL (unesc (inside l) 0) = l then some (unesc (inside l) 0) else none
theorem unq_some (l t : List UInt8) (h : unq l = some t) : quoteL t = l := by
  unfold unq at h
  split at h
  · rename_i hc; cases h; exact hc.2.2
  · cases h
theorem inside_quote (t : List UInt8) : opened (quoteL t) = true ∧ closed (quoteL t) = true ∧ inside (quoteL t) = qs t := by
  have h1 : Lib.hasPrefix (quoteL t) [34] = true := by simp [Lib.hasPrefix, quoteL, List.isPrefixOf]
  have h2 : Lib.trimPrefix (quoteL t) [34] = qs t ++ [34] := by unfold Lib.trimPrefix; rw [if_pos h1]; rfl
  have h3 : Lib.hasSuffix (qs t ++ [34]) [34] = true := by
    unfold Lib.hasSuffix
    rw [List.isSuffixOf_iff_suffix]
    exact List.suffix_append _ _
  refine ⟨h1, by unfold closed; rw [h2, h3], ?_⟩
  unfold inside
  rw [h2]
  unfold Lib.trimSuffix
  rw [if_pos h3]
  simp
theorem unq_quote (t : List UInt8) : unq (quoteL t) = some t := by
  obtain ⟨h1, h2, h3⟩ := inside_quote t
  unfold unq
  rw [h3, unesc_qs _ t (Nat.le_refl _), if_pos ⟨h1, h2, rfl⟩]
theorem unq_none (l : List UInt8) (h : ∀ t, quoteL t ≠ l) : unq l = none := by
  cases hu : unq l with
  | none => rfl
  | some t => exact absurd (unq_some l t hu) (h t)

theorem unesc_len : ∀ (n : Nat) (l : List UInt8) (k : Nat), l.length ≤ n → (unesc l k).length ≤ 4 * l.length
  | 0, l, k, h => by
    have : l = [] := List.length_eq_zero_iff.1 (by omega)
    rw [this, unesc_nil]; simp
  | n + 1, l, k, h => by
    by_cases e : l = []
    · rw [e, unesc_nil]; simp
    · have h1 := drop_lt l e
      have h2 := dec_le l e
      have h3 := dec_pos l
      have hl : (l.drop (dec l).2).length = l.length - (dec l).2 := List.length_drop
      rw [unesc, if_neg e]
      split
      · have := unesc_len n (l.drop (dec l).2) (k - (dec l).2) (by omega); omega
      · split
        · have := unesc_len n (l.drop (dec l).2) ((escd l).2 - (dec l).2) (by omega)
          rw [List.length_cons]; omega
        · have := unesc_len n (l.drop (dec l).2) 0 (by omega)
          have h4 := enc_len (dec l).1
          rw [List.length_append]; omega
theorem inside_len (l : List UInt8) : (inside l).length ≤ l.length := by
  unfold inside Lib.trimSuffix Lib.trimPrefix
  repeat' split
  all_goals simp
  all_goals omega
end Go.Proofs.YtggnglgehobglaaGreatDoor
