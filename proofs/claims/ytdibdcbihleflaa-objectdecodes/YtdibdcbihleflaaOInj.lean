/- Plain facts: the bytes of a commit tell the commit. -/
import Derived.Test.YtdibdcbihleflaaOCommit3
namespace Go.Proofs.Ytdibdcbihleflaa
open Go.RowKit

theorem ofNat_inj {a b : Nat} (ha : a < 256) (hb : b < 256) (h : UInt8.ofNat a = UInt8.ofNat b) : a = b := by
  have := congrArg UInt8.toNat h
  rw [UInt8.toNat_ofNat', UInt8.toNat_ofNat'] at this
  omega
theorem ofNat_mod {a b : Nat} (h : UInt8.ofNat a = UInt8.ofNat b) : a % 256 = b % 256 := by
  have := congrArg UInt8.toNat h
  rw [UInt8.toNat_ofNat', UInt8.toNat_ofNat'] at this
  omega
theorem shortF_inj : ∀ (f x y : Nat) (r s : List UInt8), x < 2 ^ (7 * (f + 1)) → y < 2 ^ (7 * (f + 1)) → shortF f x ++ r = shortF f y ++ s → x = y ∧ r = s := by
  intro f
  induction f with
  | zero =>
    intro x y r s hx hy h
    simp only [shortF, List.singleton_append, List.cons.injEq] at h
    simp at hx hy
    exact ⟨ofNat_inj (by omega) (by omega) h.1, h.2⟩
  | succ f ih =>
    intro x y r s hx hy h
    have e : 2 ^ (7 * (f + 1 + 1)) = 128 * 2 ^ (7 * (f + 1)) := by rw [show 7 * (f + 1 + 1) = 7 + 7 * (f + 1) by omega, Nat.pow_add]
    rw [e] at hx hy
    by_cases h1 : x < 128 <;> by_cases h2 : y < 128
    · rw [shortF_low _ _ h1, shortF_low _ _ h2] at h
      simp only [List.singleton_append, List.cons.injEq] at h
      exact ⟨ofNat_inj (by omega) (by omega) h.1, h.2⟩
    · rw [shortF_low _ _ h1, shortF_high _ _ h2] at h
      simp only [List.cons_append, List.cons.injEq] at h
      have := ofNat_inj (by omega) (by omega) h.1
      omega
    · rw [shortF_high _ _ h1, shortF_low _ _ h2] at h
      simp only [List.cons_append, List.cons.injEq] at h
      have := ofNat_inj (by omega) (by omega) h.1
      omega
    · rw [shortF_high _ _ h1, shortF_high _ _ h2] at h
      simp only [List.cons_append, List.cons.injEq] at h
      have e1 := ofNat_inj (by omega) (by omega) h.1
      obtain ⟨e2, e3⟩ := ih (x / 128) (y / 128) r s (by omega) (by omega) h.2
      exact ⟨by omega, e3⟩
theorem short_inj {x y : Nat} {r s : List UInt8} (hx : x < 1099511627776) (hy : y < 1099511627776) (h : short x ++ r = short y ++ s) : x = y ∧ r = s :=
  shortF_inj 9 x y r s (Nat.lt_of_lt_of_le hx (by decide)) (Nat.lt_of_lt_of_le hy (by decide)) h
theorem wide_inj {x y : Nat} (hx : x < 18446744073709551616) (hy : y < 18446744073709551616) (h : wide x = wide y) : x = y := by
  simp only [wide, wideTo, List.nil_append, List.cons_append, List.cons.injEq, and_true] at h
  obtain ⟨h0, h1, h2, h3, h4, h5, h6, h7⟩ := h
  have h0 := ofNat_mod h0
  have h1 := ofNat_mod h1
  have h2 := ofNat_mod h2
  have h3 := ofNat_mod h3
  have h4 := ofNat_mod h4
  have h5 := ofNat_mod h5
  have h6 := ofNat_mod h6
  have h7 := ofNat_mod h7
  simp at h0 h1 h2 h3 h4 h5 h6 h7
  omega
theorem wide_app {x y : Nat} {r s : List UInt8} (hx : x < 18446744073709551616) (hy : y < 18446744073709551616) (h : wide x ++ r = wide y ++ s) : x = y ∧ r = s := by
  obtain ⟨h1, h2⟩ := List.append_inj h (by rw [wide_len, wide_len])
  exact ⟨wide_inj hx hy h1, h2⟩
theorem text_app {a b : ByteArray} {r s : List UInt8} (ha : a.size < 1099511627776) (hb : b.size < 1099511627776) (h : (short a.size ++ a.data.toList) ++ r = (short b.size ++ b.data.toList) ++ s) : a = b ∧ r = s := by
  rw [List.append_assoc, List.append_assoc] at h
  obtain ⟨h1, h2⟩ := short_inj ha hb h
  obtain ⟨h3, h4⟩ := List.append_inj h2 (by have e1 : a.data.toList.length = a.size := Array.length_toList; have e2 : b.data.toList.length = b.size := Array.length_toList; omega)
  refine ⟨?_, h4⟩
  cases a; cases b
  simpa using h3
theorem pars_app : ∀ {l m : List Int} {r s : List UInt8}, l.length = m.length → (∀ x ∈ l, 0 ≤ x ∧ x < 18446744073709551616) → (∀ x ∈ m, 0 ≤ x ∧ x < 18446744073709551616) → parsB l ++ r = parsB m ++ s → l = m ∧ r = s := by
  intro l
  induction l with
  | nil =>
    intro m r s hl _ _ h
    cases m with
    | nil => simpa [parsB] using h
    | cons y m => simp at hl
  | cons x l ih =>
    intro m r s hl h1 h2 h
    cases m with
    | nil => simp at hl
    | cons y m =>
      simp only [parsB, List.map_cons, List.flatten_cons, List.append_assoc] at h
      have b1 := h1 x (by simp)
      have b2 := h2 y (by simp)
      obtain ⟨e1, e2⟩ := wide_app (by omega) (by omega) h
      obtain ⟨e3, e4⟩ := ih (by simpa using hl) (fun z hz => h1 z (by simp [hz])) (fun z hz => h2 z (by simp [hz])) e2
      exact ⟨by rw [e3, show x = y by omega], e4⟩
theorem du_inj {d e : Int} (hd : -9223372036854775808 ≤ d ∧ d < 9223372036854775808) (he : -9223372036854775808 ≤ e ∧ e < 9223372036854775808) (h : du d = du e) : d = e := by
  have h1 := (du_eq d).1
  have h2 := (du_eq e).1
  rw [h] at h1
  rw [← h1] at h2
  simp [IntKind.wrap, IntKind.bits, IntKind.signed] at h2
  omega
theorem comB_inj {w w' : World} {t t' : Int} {pa pa' : Option Addr} {pn pn' pc pc' : Nat} {ps ps' : List Int} {au au' : ByteArray} {d d' : Int} {tx tx' : ByteArray} (h : Com w t pa pn pc ps au d tx) (h' : Com w' t' pa' pn' pc' ps' au' d' tx')
    (h0 : comErr t ps au tx = 0) (h0' : comErr t' ps' au' tx' = 0) (he : comB t ps au d tx = comB t' ps' au' d' tx') : t = t' ∧ ps = ps' ∧ au = au' ∧ d = d' ∧ tx = tx' := by
  obtain ⟨_, f1, f2, f3⟩ := com_fits h0
  obtain ⟨_, g1, g2, g3⟩ := com_fits h0'
  have a1 := h.tree
  have a2 := h'.tree
  simp only [comB, List.append_assoc] at he
  simp only [List.cons_append, List.nil_append, List.cons.injEq, true_and] at he
  obtain ⟨e1, he⟩ := wide_app (by omega) (by omega) he
  obtain ⟨e2, he⟩ := short_inj (by omega) (by omega) he
  obtain ⟨e3, he⟩ := pars_app e2 h.pars h'.pars he
  have he2 : (short au.size ++ au.data.toList) ++ (wide (du d) ++ (short tx.size ++ tx.data.toList)) = (short au'.size ++ au'.data.toList) ++ (wide (du d') ++ (short tx'.size ++ tx'.data.toList)) := by simpa only [List.append_assoc] using he
  obtain ⟨e4, he⟩ := text_app (by omega) (by omega) he2
  obtain ⟨e5, he⟩ := wide_app (du_eq d).2 (du_eq d').2 he
  have he3 : (short tx.size ++ tx.data.toList) ++ [] = (short tx'.size ++ tx'.data.toList) ++ [] := by rw [List.append_nil, List.append_nil]; exact he
  obtain ⟨e6, _⟩ := text_app (by omega) (by omega) he3
  exact ⟨by omega, e3, e4, du_inj h.date h'.date e5, e6⟩
end Go.Proofs.Ytdibdcbihleflaa
