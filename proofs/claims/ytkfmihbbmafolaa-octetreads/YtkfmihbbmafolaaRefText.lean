/- The walks of the document's text and of its Do of a text. -/
import Derived.Test.YtkfmihbbmafolaaRefDo
namespace Go.Proofs.Ytkfmihbbmafolaa
open Go.RowKit

theorem below3 (w : World) (o1 o2 o3 : Obj) : Below w.heap.size w (((w.alloc o1).alloc o2).alloc o3) :=
  (((Below.refl _ _).alloc (Nat.le_refl _) _).alloc (by simp) _).alloc (by simp; omega) _
theorem bytes3 {w : World} {a : Option Addr} {n : Nat} {l : List UInt8} (h : Bytes w a n l) (o1 o2 o3 : Obj) : Bytes (((w.alloc o1).alloc o2).alloc o3) a n l := h.low (below3 _ _ _ _)
theorem below6 (w : World) (o1 o2 o3 o4 o5 o6 : Obj) : Below w.heap.size w ((((((w.alloc o1).alloc o2).alloc o3).alloc o4).alloc o5).alloc o6) :=
  ((((((Below.refl _ _).alloc (Nat.le_refl _) _).alloc (by simp) _).alloc (by simp; omega) _).alloc (by simp; omega) _).alloc (by simp; omega) _).alloc (by simp; omega) _

theorem txt_cases (l : List UInt8) (m : Int) : (txt l m).2.2 = 0 ∨ ((txt l m).2.2 ≠ 0 ∧
    ((m < 0 ∧ (txt l m).2.2 = 2) ∨ (¬ m < 0 ∧ (num l).2.2 ≠ 0 ∧ (txt l m).2.2 = (num l).2.2) ∨ (¬ m < 0 ∧ (num l).2.2 = 0 ∧ m < (num l).1 ∧ (txt l m).2.2 = 3) ∨ (¬ m < 0 ∧ (num l).2.2 = 0 ∧ ¬ m < (num l).1 ∧ ((l.length - (num l).2.1 : Nat) : Int) < (num l).1 ∧ (txt l m).2.2 = 110))) := by
  by_cases h0 : m < 0
  · rw [txt_arg l m h0]; simp [h0]
  · by_cases h1 : (num l).2.2 ≠ 0
    · rw [txt_num l m h0 h1]; simp [h0, h1]
    · have h1' : (num l).2.2 = 0 := by simpa using h1
      by_cases h2 : m < (num l).1
      · rw [txt_long l m h0 h1' h2]; simp [h0, h1', h2]
      · by_cases h3 : ((l.length - (num l).2.1 : Nat) : Int) < (num l).1
        · rw [txt_short l m h0 h1' h2 h3]; simp [h0, h1', h2]; simpa using h3
        · rw [txt_ok l m h0 h1' h2 h3]; simp

theorem txt_zero (l : List UInt8) (m : Int) (h : (txt l m).2.2 = 0) : ¬ m < 0 ∧ (num l).2.2 = 0 ∧ ¬ m < (num l).1 ∧ ¬ ((l.length - (num l).2.1 : Nat) : Int) < (num l).1 ∧ txt l m = ((num l).2.1, (num l).2.1 + (num l).1.toNat, 0) := by
  by_cases h0 : m < 0
  · rw [txt_arg l m h0] at h; simp at h
  · by_cases h1 : (num l).2.2 ≠ 0
    · rw [txt_num l m h0 h1] at h; simp at h; exact absurd h h1
    · have h1' : (num l).2.2 = 0 := by simpa using h1
      by_cases h2 : m < (num l).1
      · rw [txt_long l m h0 h1' h2] at h; simp at h
      · by_cases h3 : ((l.length - (num l).2.1 : Nat) : Int) < (num l).1
        · rw [txt_short l m h0 h1' h2 h3] at h; simp at h
        · exact ⟨h0, h1', h2, h3, txt_ok l m h0 h1' h2 h3⟩

set_option maxHeartbeats 1000000 in
theorem refText_no (b off n c : Nat) (m er : Int) (l : List UInt8) (w : World) (hb : Bytes w (some ⟨b, off, none⟩) n l) (hc : n ≤ c) (hm : n ≤ maxLen) (hmost : m ≤ 9223372036854775807) (ht : (txt l m).2.2 = er) (hne : er ≠ 0) :
    Calls Try.prog 45 #[.agg #[.slice (some ⟨b, off, none⟩) n c, .int .i64 0], .int .i64 m] w (DoPost w b (.no l er)) := by
  have hmx := hm
  unfold maxLen at hmx
  have hl := hb.1
  have hfit := num_fits l
  have hle := num_le l
  rcases txt_cases l m with h | ⟨_, h⟩
  · exact absurd (ht.symm.trans h) hne
  · obtain ⟨y, k, e1, hnum⟩ : ∃ y k e1, num l = (y, k, e1) := ⟨_, _, _, rfl⟩
    rw [hnum] at h hfit hle
    simp only at h hfit hle
    rw [hl] at h hle
    have Hnum : Hid (num l = (y, k, e1)) := hnum
    clear hnum hl
    rcases h with ⟨h0, h1⟩ | ⟨h0, h1, h2⟩ | ⟨h0, h1, h2, h3⟩ | ⟨h0, h1, h2, h3, h4⟩
    · obtain rfl : er = 2 := ht.symm.trans h1
      clear ht h1 hne hle hfit
      go_enter Try.func45, Try.ntmps45
      go_wp2
      refine bodyPost_ret (v := .tuple #[.agg #[.slice (some ⟨b, off, none⟩) n c, .int .i64 2], .agg #[.int .u64 0, .slice none 0 0]]) (by simp [results, Try.results43, go_sem]) rfl ?_
      go_wp2
      exact bodyPost_ret (v := .tuple #[.agg #[.slice (some ⟨b, off, none⟩) n c, .int .i64 2], .agg #[.int .u64 0, .slice none 0 0]]) (by simp [results, Try.results45, go_sem]) rfl
        ⟨off, n, c, none, 0, 0, rfl, hb.low (below6 _ _ _ _ _ _ _), hc, Bytes.nothing _ _, by simp, below6 _ _ _ _ _ _ _⟩
    · obtain rfl : er = e1 := ht.symm.trans h2
      have hne' : (er != 0) = true := by simpa using hne
      clear ht h1 h2 hne hle hfit
      go_enter Try.func45, Try.ntmps45
      go_wp2_with fail
      refine (number_any _ n c l _ (bytes3 hb _ _ _) hm).mono ?_
      rw [Hnum.out]
      rintro e w1 ⟨rfl, rfl⟩
      go_wp2
      refine bodyPost_ret (v := .tuple #[.agg #[.slice (some ⟨b, off, none⟩) n c, .int .i64 er], .agg #[.int .u64 0, .slice none 0 0]]) (by simp [results, Try.results43, go_sem]) rfl ?_
      go_wp2
      exact bodyPost_ret (v := .tuple #[.agg #[.slice (some ⟨b, off, none⟩) n c, .int .i64 er], .agg #[.int .u64 0, .slice none 0 0]]) (by simp [results, Try.results45, go_sem]) rfl
        ⟨off, n, c, none, 0, 0, rfl, hb.low (below6 _ _ _ _ _ _ _), hc, Bytes.nothing _ _, by simp, below6 _ _ _ _ _ _ _⟩
    · obtain rfl : er = 3 := ht.symm.trans h3
      subst h1
      clear ht h3 hne hle
      go_enter Try.func45, Try.ntmps45
      go_wp2_with fail
      refine (number_any _ n c l _ (bytes3 hb _ _ _) hm).mono ?_
      rw [Hnum.out]
      rintro e w1 ⟨rfl, rfl⟩
      go_wp2
      refine bodyPost_ret (v := .tuple #[.agg #[.slice (some ⟨b, off, none⟩) n c, .int .i64 3], .agg #[.int .u64 0, .slice none 0 0]]) (by simp [results, Try.results43, go_sem]) rfl ?_
      go_wp2
      exact bodyPost_ret (v := .tuple #[.agg #[.slice (some ⟨b, off, none⟩) n c, .int .i64 3], .agg #[.int .u64 0, .slice none 0 0]]) (by simp [results, Try.results45, go_sem]) rfl
        ⟨off, n, c, none, 0, 0, rfl, hb.low (below6 _ _ _ _ _ _ _), hc, Bytes.nothing _ _, by simp, below6 _ _ _ _ _ _ _⟩
    · obtain rfl : er = 110 := ht.symm.trans h4
      subst h1
      have hsub : (n : Int) - (k : Int) = ((n - k : Nat) : Int) := by omega
      clear ht h4 hne
      go_enter Try.func45, Try.ntmps45
      go_wp2_with fail
      refine (number_any _ n c l _ (bytes3 hb _ _ _) hm).mono ?_
      rw [Hnum.out]
      rintro e w1 ⟨rfl, rfl⟩
      go_wp2
      refine bodyPost_ret (v := .tuple #[.agg #[.slice (some ⟨b, off, none⟩) n c, .int .i64 110], .agg #[.int .u64 0, .slice none 0 0]]) (by simp [results, Try.results43, go_sem]) rfl ?_
      go_wp2
      exact bodyPost_ret (v := .tuple #[.agg #[.slice (some ⟨b, off, none⟩) n c, .int .i64 110], .agg #[.int .u64 0, .slice none 0 0]]) (by simp [results, Try.results45, go_sem]) rfl
        ⟨off, n, c, none, 0, 0, rfl, hb.low (below6 _ _ _ _ _ _ _), hc, Bytes.nothing _ _, by simp, below6 _ _ _ _ _ _ _⟩

theorem Bytes.part {w : World} {b off n : Nat} {l : List UInt8} (h : Bytes w (some ⟨b, off, none⟩) n l) (f t : Nat) (hft : f ≤ t) (htn : t ≤ n) : Bytes w (some ⟨b, off + f, none⟩) (t - f) ((l.take t).drop f) :=
  (h.take t htn).fwd f hft

set_option maxHeartbeats 1000000 in
theorem refText_yes (b off n c f t : Nat) (m : Int) (l : List UInt8) (w : World) (hb : Bytes w (some ⟨b, off, none⟩) n l) (hc : n ≤ c) (hm : n ≤ maxLen) (hmost : m ≤ 9223372036854775807) (ht : txt l m = (f, t, 0)) :
    Calls Try.prog 45 #[.agg #[.slice (some ⟨b, off, none⟩) n c, .int .i64 0], .int .i64 m] w (DoPost w b ⟨l.drop t, 0, 0, (l.take t).drop f⟩) := by
  have hmx := hm
  unfold maxLen at hmx
  have hl := hb.1
  have hfit := num_fits l
  have hle := num_le l
  obtain ⟨h0, h1, h2, h3, h4⟩ := txt_zero l m (by rw [ht])
  rw [ht] at h4
  obtain ⟨y, k, e1, hnum⟩ : ∃ y k e1, num l = (y, k, e1) := ⟨_, _, _, rfl⟩
  rw [hnum] at h1 h2 h3 h4 hfit hle
  simp only [Prod.mk.injEq, and_true] at h1 h2 h3 h4 hfit hle
  rw [hl] at h3 hle
  obtain ⟨Y, rfl⟩ := Int.eq_ofNat_of_zero_le hfit.1
  simp only [Int.toNat_natCast] at h4
  obtain ⟨rfl, rfl⟩ := h4
  subst h1
  have Hnum : Hid (num l = ((Y : Int), f, 0)) := hnum
  have hsub : (n : Int) - (f : Int) = ((n - f : Nat) : Int) := by omega
  have hft : f ≤ f + Y := by omega
  have htn : f + Y ≤ n := by omega
  have Hl : Hid (l.length = n) := hl
  have hYm : (Y : Int) ≤ 9223372036854775807 := by omega
  obtain ⟨t, htt⟩ : ∃ t, t = f + Y := ⟨_, rfl⟩
  have Ht : Hid (t = f + Y) := htt
  rw [← htt] at hft htn ⊢
  have i0 : (0 : Int) ≤ (f : Int) := by omega
  have i1 : (f : Int) ≤ (t : Int) := by omega
  have i2 : (t : Int) ≤ (n : Int) := by omega
  have i3 : (n : Int) ≤ (c : Int) := by omega
  have i4 : (t : Int) ≤ (c : Int) := by omega
  have i5 : (0 : Int) ≤ (t : Int) := by omega
  have Hb : Hid (Bytes w (some ⟨b, off, none⟩) n l) := hb
  have hb3 := bytes3 hb
  clear hnum hl hfit ht htt hb
  by_cases hcf : c = f
  · have e1 : t = f := by omega
    have e2 : n = f := by omega
    subst hcf e1 e2
    go_enter Try.func45, Try.ntmps45
    go_wp2_with fail
    refine (number_any _ _ _ l _ (hb3 _ _ _) hm).mono ?_
    rw [Hnum.out]
    rintro e w1 ⟨rfl, rfl⟩
    go_wp2_with fail
    rw [show (n : Int) + (Y : Int) = (n : Int) from by have := Ht.out; omega]
    go_region
    go_wp2
    exact bodyPost_ret (v := .tuple #[.agg #[.slice (some ⟨b, off, none⟩) 0 0, .int .i64 0], .agg #[.int .u64 0, .slice (some ⟨b, off, none⟩) 0 0]]) (by simp [results, Try.results45, go_sem]) rfl
      ⟨off, 0, 0, some ⟨b, off, none⟩, 0, 0, rfl, by have := Bytes.done (w := w) Hl.out (Nat.le_refl n) (some ⟨b, off, none⟩); rw [Nat.sub_self] at this; exact this.low (below3 _ _ _ _).drew, Nat.le_refl _, by show Bytes _ _ 0 ((l.take n).drop n); rw [List.drop_eq_nil_of_le (List.length_take_le _ _)]; exact Bytes.nothing _ _, by simp, (below3 _ _ _ _).drew⟩
  · by_cases hct : c = t
    · have e2 : n = t := by omega
      subst hct e2
      go_enter Try.func45, Try.ntmps45
      go_wp2_with fail
      refine (number_any _ _ _ l _ (hb3 _ _ _) hm).mono ?_
      rw [Hnum.out]
      rintro e w1 ⟨rfl, rfl⟩
      go_wp2_with fail
      rw [show (f : Int) + (Y : Int) = (n : Int) from by have := Ht.out; omega]
      go_region
      go_wp2
      exact bodyPost_ret (v := .tuple #[.agg #[.slice (some ⟨b, off, none⟩) 0 0, .int .i64 0], .agg #[.int .u64 0, .slice (some ⟨b, off + f, none⟩) (n - f) (n - f)]]) (by simp [results, Try.results45, go_sem]) rfl
        ⟨off, 0, 0, some ⟨b, off + f, none⟩, n - f, n - f, rfl, by have := Bytes.done (w := w) Hl.out (Nat.le_refl n) (some ⟨b, off, none⟩); rw [Nat.sub_self] at this; exact this.low (below3 _ _ _ _).drew, Nat.le_refl _, (Hb.out.part f n hft (Nat.le_refl _)).low (below3 _ _ _ _).drew, by simp, (below3 _ _ _ _).drew⟩
    · go_enter Try.func45, Try.ntmps45
      go_wp2_with fail
      refine (number_any _ _ _ l _ (hb3 _ _ _) hm).mono ?_
      rw [Hnum.out]
      rintro e w1 ⟨rfl, rfl⟩
      go_wp2_with fail
      rw [show (f : Int) + (Y : Int) = (t : Int) from by have := Ht.out; omega]
      go_region
      go_wp2
      exact bodyPost_ret (v := .tuple #[.agg #[.slice (some ⟨b, off + t, none⟩) (n - t) (c - t), .int .i64 0], .agg #[.int .u64 0, .slice (some ⟨b, off + f, none⟩) (t - f) (c - f)]]) (by simp [results, Try.results45, go_sem]) rfl
        ⟨off + t, n - t, c - t, some ⟨b, off + f, none⟩, t - f, c - f, rfl, (Hb.out.fwd t htn).low (below3 _ _ _ _).drew, by omega, (Hb.out.part f t hft htn).low (below3 _ _ _ _).drew, by simp, (below3 _ _ _ _).drew⟩

end Go.Proofs.Ytkfmihbbmafolaa
