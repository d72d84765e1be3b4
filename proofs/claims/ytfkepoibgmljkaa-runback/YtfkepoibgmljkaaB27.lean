import Derived.Test.YtfkepoibgmljkaaB26
import Derived.Test.YtfkepoibgmljkaaB02
import Derived.Test.YtfkepoibgmljkaaB06
import Derived.RegionTactic
/- The walks of the document's Reader: refused; Do of a reader with an error, of a byte, of a number. -/
namespace Go.Proofs.Ytfkepoibgmljkaa
open Go.RowKit

/-- what a read of the document's Reader answers: a Reader of a part of the same row, and what is told -/
def DoPost (w : World) (b : Nat) (o : Out) (e : Ending) (w' : World) : Prop :=
  ∃ off n c q m d, e = .returned (.tuple #[.agg #[.slice (some ⟨b, off, none⟩) n c, .int .i64 o.err], .agg #[.int .u64 o.num, .slice q m d]]) ∧ Bytes w' (some ⟨b, off, none⟩) n o.rest ∧ n ≤ c ∧ Bytes w' q m o.bytes ∧ (∀ x, q = some x → x.block = b) ∧ Below w.heap.size w w'

theorem Bytes.nothing (w : World) (a : Option Addr) : Bytes w a 0 [] := ⟨rfl, fun h => by omega⟩
theorem Bytes.low {w w' : World} {a : Option Addr} {n : Nat} {l : List UInt8} (h : Bytes w a n l) (hB : Below w.heap.size w w') : Bytes w' a n l := by
  refine ⟨h.1, fun h0 => ?_⟩
  obtain ⟨b, off, rfl, hc⟩ := h.2 h0
  exact ⟨b, off, rfl, fun i hi => by rw [hB.cell (World.block_lt_of_cell? w _ (hc i hi))]; exact hc i hi⟩
theorem Bytes.fwd {w : World} {b off n : Nat} {l : List UInt8} (h : Bytes w (some ⟨b, off, none⟩) n l) (k : Nat) (hk : k ≤ n) : Bytes w (some ⟨b, off + k, none⟩) (n - k) (l.drop k) := by
  have hl := h.1
  refine ⟨by simp; omega, fun h0 => ⟨b, off + k, rfl, fun i hi => ?_⟩⟩
  obtain ⟨b', off', hx, hc⟩ := h.2 (by omega)
  simp only [Option.some.injEq, Addr.mk.injEq, and_true] at hx
  obtain ⟨rfl, rfl⟩ := hx
  rw [bt_drop, Nat.add_assoc]
  exact hc (k + i) (by omega)
theorem Bytes.done {w : World} {n k : Nat} {l : List UInt8} (hl : l.length = n) (hk : n ≤ k) (p : Option Addr) : Bytes w p (n - k) (l.drop k) := by
  have e : l.drop k = [] := List.drop_eq_nil_of_le (by omega)
  rw [e, show n - k = 0 from by omega]
  exact Bytes.nothing _ _

theorem below4 (w : World) (o1 o2 o3 o4 : Obj) : Below w.heap.size w ((((w.alloc o1).alloc o2).alloc o3).alloc o4) :=
  ((((Below.refl _ _).alloc (Nat.le_refl _) _).alloc (by simp) _).alloc (by simp; omega) _).alloc (by simp; omega) _
theorem cell4 (w : World) (p : Addr) (v : Value) (h : w.cell? p = some v) (o1 o2 o3 o4 : Obj) : ((((w.alloc o1).alloc o2).alloc o3).alloc o4).cell? p = some v := by
  rw [(below4 w o1 o2 o3 o4).cell (World.block_lt_of_cell? w _ h)]; exact h
theorem below7 (w : World) (o1 o2 o3 o4 o5 o6 o7 : Obj) : Below w.heap.size w (((((((w.alloc o1).alloc o2).alloc o3).alloc o4).alloc o5).alloc o6).alloc o7) :=
  (((((((Below.refl _ _).alloc (Nat.le_refl _) _).alloc (by simp) _).alloc (by simp; omega) _).alloc (by simp; omega) _).alloc (by simp; omega) _).alloc (by simp; omega) _).alloc (by simp; omega) _

theorem do_stuck (b off n c : Nat) (x k m : Int) (l : List UInt8) (w : World) (hb : Bytes w (some ⟨b, off, none⟩) n l) (hc : n ≤ c) (hx : (x != 0) = true) :
    Calls Try.prog 21 #[.agg #[.slice (some ⟨b, off, none⟩) n c, .int .i64 x], .agg #[.int .i64 k, .int .i64 m]] w (DoPost w b (.no l x)) := by
  go_enter Try.func21, Try.ntmps21
  go_wp2
  exact bodyPost_ret (v := .tuple #[.agg #[.slice (some ⟨b, off, none⟩) n c, .int .i64 x], .agg #[.int .u64 0, .slice none 0 0]]) (by simp [results, Try.results21, go_sem]) rfl
    ⟨off, n, c, none, 0, 0, rfl, hb.low (below4 _ _ _ _ _), hc, Bytes.nothing _ _, by simp, below4 _ _ _ _ _⟩

theorem do_byte_no (b off c : Nat) (m : Int) (w : World) :
    Calls Try.prog 21 #[.agg #[.slice (some ⟨b, off, none⟩) 0 c, .int .i64 0], .agg #[.int .i64 0, .int .i64 m]] w (DoPost w b (.no [] 110)) := by
  go_enter Try.func21, Try.ntmps21
  go_wp2
  refine bodyPost_ret (v := .tuple #[.agg #[.slice (some ⟨b, off, none⟩) 0 c, .int .i64 110], .agg #[.int .u64 0, .slice none 0 0]]) (by simp [results, Try.results34, go_sem]) rfl ?_
  go_wp2
  exact bodyPost_ret (v := .tuple #[.agg #[.slice (some ⟨b, off, none⟩) 0 c, .int .i64 110], .agg #[.int .u64 0, .slice none 0 0]]) (by simp [results, Try.results21, go_sem]) rfl
    ⟨off, 0, c, none, 0, 0, rfl, Bytes.nothing _ _, Nat.zero_le _, Bytes.nothing _ _, by simp, below7 _ _ _ _ _ _ _ _⟩

theorem do_byte_yes (b off n c : Nat) (m : Int) (l : List UInt8) (w : World) (hb : Bytes w (some ⟨b, off, none⟩) n l) (hn : 0 < n) (hc : n ≤ c) :
    Calls Try.prog 21 #[.agg #[.slice (some ⟨b, off, none⟩) n c, .int .i64 0], .agg #[.int .i64 0, .int .i64 m]] w (DoPost w b ⟨l.drop 1, 0, bt l 0, []⟩) := by
  have hl := hb.1
  obtain ⟨b', off', hx, hcell⟩ := hb.2 hn
  simp only [Option.some.injEq, Addr.mk.injEq, and_true] at hx
  obtain ⟨rfl, rfl⟩ := hx
  have h0 := hcell 0 hn
  rw [Nat.add_zero] at h0
  have b0 := bt_lo l 0
  have b1 := bt_hi l 0
  have n0 : ((n : Int) == 0) = false := by simp; omega
  have i0 : (0 : Int) < (n : Int) := by omega
  have i1 : (1 : Int) ≤ (n : Int) := by omega
  have i2 : (n : Int) ≤ (c : Int) := by omega
  have h4 := cell4 w _ _ h0
  have Hl : Hid (l.length = n) := hl
  clear hcell hl
  by_cases h1 : c = 1
  · subst h1
    obtain rfl : n = 1 := by omega
    go_enter Try.func21, Try.ntmps21
    go_wp2
    go_region
    go_wp2
    exact bodyPost_ret (v := .tuple #[.agg #[.slice (some ⟨b, off, none⟩) 0 0, .int .i64 0], .agg #[.int .u64 (bt l 0), .slice none 0 0]]) (by simp [results, Try.results21, go_sem]) rfl
      ⟨off, 0, 0, none, 0, 0, rfl, Bytes.done Hl.out (Nat.le_refl _) _, Nat.le_refl _, Bytes.nothing _ _, by simp, (below4 _ _ _ _ _).drew⟩
  · go_enter Try.func21, Try.ntmps21
    go_wp2
    go_region
    go_wp2
    exact bodyPost_ret (v := .tuple #[.agg #[.slice (some ⟨b, off + 1, none⟩) (n - 1) (c - 1), .int .i64 0], .agg #[.int .u64 (bt l 0), .slice none 0 0]]) (by simp [results, Try.results21, go_sem]) rfl
      ⟨off + 1, n - 1, c - 1, none, 0, 0, rfl, (hb.fwd 1 hn).low (below4 _ _ _ _ _).drew, by omega, Bytes.nothing _ _, by simp, (below4 _ _ _ _ _).drew⟩

theorem bytes4 {w : World} {a : Option Addr} {n : Nat} {l : List UInt8} (h : Bytes w a n l) (o1 o2 o3 o4 : Obj) : Bytes ((((w.alloc o1).alloc o2).alloc o3).alloc o4) a n l := h.low (below4 _ _ _ _ _)

set_option maxHeartbeats 400000 in
theorem do_uint_no (b off n c : Nat) (m x y : Int) (k : Nat) (l : List UInt8) (w : World) (hb : Bytes w (some ⟨b, off, none⟩) n l) (hc : n ≤ c) (hm : n ≤ maxLen) (hnum : num l = (y, k, x)) (hx : (x != 0) = true) :
    Calls Try.prog 21 #[.agg #[.slice (some ⟨b, off, none⟩) n c, .int .i64 0], .agg #[.int .i64 1, .int .i64 m]] w (DoPost w b (.no l x)) := by
  have Hnum : Hid (num l = (y, k, x)) := hnum
  clear hnum
  go_enter Try.func21, Try.ntmps21
  go_wp2_with fail
  refine (number_any _ n c l _ (bytes4 hb _ _ _ _) hm).mono ?_
  rw [Hnum.out]
  rintro e w1 ⟨rfl, rfl⟩
  go_wp2
  refine bodyPost_ret (v := .tuple #[.agg #[.slice (some ⟨b, off, none⟩) n c, .int .i64 x], .agg #[.int .u64 0, .slice none 0 0]]) (by simp [results, Try.results34, go_sem]) rfl ?_
  go_wp2
  exact bodyPost_ret (v := .tuple #[.agg #[.slice (some ⟨b, off, none⟩) n c, .int .i64 x], .agg #[.int .u64 0, .slice none 0 0]]) (by simp [results, Try.results21, go_sem]) rfl
    ⟨off, n, c, none, 0, 0, rfl, hb.low (below7 _ _ _ _ _ _ _ _), hc, Bytes.nothing _ _, by simp, below7 _ _ _ _ _ _ _ _⟩

set_option maxHeartbeats 400000 in
theorem do_uint_yes (b off n c : Nat) (m y : Int) (k : Nat) (l : List UInt8) (w : World) (hb : Bytes w (some ⟨b, off, none⟩) n l) (hc : n ≤ c) (hm : n ≤ maxLen) (hnum : num l = (y, k, 0)) :
    Calls Try.prog 21 #[.agg #[.slice (some ⟨b, off, none⟩) n c, .int .i64 0], .agg #[.int .i64 1, .int .i64 m]] w (DoPost w b ⟨l.drop k, 0, y, []⟩) := by
  have hkl := num_le l
  rw [hnum] at hkl
  simp only at hkl
  have Hl : Hid (l.length = n) := hb.1
  have hk : k ≤ n := by have := Hl.out; omega
  have i0 : (0 : Int) ≤ (k : Int) := by omega
  have i1 : (k : Int) ≤ (n : Int) := by omega
  have i2 : (n : Int) ≤ (c : Int) := by omega
  have Hnum : Hid (num l = (y, k, 0)) := hnum
  clear hnum hkl
  by_cases h1 : c = k
  · obtain rfl : n = k := by omega
    obtain rfl : c = n := h1
    go_enter Try.func21, Try.ntmps21
    go_wp2_with fail
    refine (number_any _ c c l _ (bytes4 hb _ _ _ _) hm).mono ?_
    rw [Hnum.out]
    rintro e w1 ⟨rfl, rfl⟩
    go_wp2
    exact bodyPost_ret (v := .tuple #[.agg #[.slice (some ⟨b, off, none⟩) 0 0, .int .i64 0], .agg #[.int .u64 y, .slice none 0 0]]) (by simp [results, Try.results21, go_sem]) rfl
      ⟨off, 0, 0, none, 0, 0, rfl, by have := Bytes.done (w := w) Hl.out (Nat.le_refl c) (some ⟨b, off, none⟩); rw [Nat.sub_self] at this; exact this.low (below4 _ _ _ _ _), Nat.le_refl _, Bytes.nothing _ _, by simp, below4 _ _ _ _ _⟩
  · go_enter Try.func21, Try.ntmps21
    go_wp2_with fail
    refine (number_any _ n c l _ (bytes4 hb _ _ _ _) hm).mono ?_
    rw [Hnum.out]
    rintro e w1 ⟨rfl, rfl⟩
    go_wp2
    exact bodyPost_ret (v := .tuple #[.agg #[.slice (some ⟨b, off + k, none⟩) (n - k) (c - k), .int .i64 0], .agg #[.int .u64 y, .slice none 0 0]]) (by simp [results, Try.results21, go_sem]) rfl
      ⟨off + k, n - k, c - k, none, 0, 0, rfl, (hb.fwd k hk).low (below4 _ _ _ _ _), by omega, Bytes.nothing _ _, by simp, below4 _ _ _ _ _⟩
end Go.Proofs.Ytfkepoibgmljkaa

/- The walks of the document's Do of a wide form and of raw bytes. -/
namespace Go.Proofs.Ytfkepoibgmljkaa
open Go.RowKit

set_option maxHeartbeats 400000 in
theorem do_word_no (b off n c : Nat) (m : Int) (l : List UInt8) (w : World) (hb : Bytes w (some ⟨b, off, none⟩) n l) (hc : n ≤ c) (h8 : n < 8) :
    Calls Try.prog 21 #[.agg #[.slice (some ⟨b, off, none⟩) n c, .int .i64 0], .agg #[.int .i64 2, .int .i64 m]] w (DoPost w b (.no l 110)) := by
  go_enter Try.func21, Try.ntmps21
  go_wp2
  refine bodyPost_ret (v := .tuple #[.agg #[.slice (some ⟨b, off, none⟩) n c, .int .i64 110], .agg #[.int .u64 0, .slice none 0 0]]) (by simp [results, Try.results34, go_sem]) rfl ?_
  go_wp2
  exact bodyPost_ret (v := .tuple #[.agg #[.slice (some ⟨b, off, none⟩) n c, .int .i64 110], .agg #[.int .u64 0, .slice none 0 0]]) (by simp [results, Try.results21, go_sem]) rfl
    ⟨off, n, c, none, 0, 0, rfl, hb.low (below7 _ _ _ _ _ _ _ _), hc, Bytes.nothing _ _, by simp, below7 _ _ _ _ _ _ _ _⟩

set_option maxHeartbeats 1000000 in
theorem do_word_yes (b off n c : Nat) (m : Int) (l : List UInt8) (w : World) (hb : Bytes w (some ⟨b, off, none⟩) n l) (hc : n ≤ c) (h8 : 8 ≤ n) :
    Calls Try.prog 21 #[.agg #[.slice (some ⟨b, off, none⟩) n c, .int .i64 0], .agg #[.int .i64 2, .int .i64 m]] w (DoPost w b ⟨l.drop 8, 0, wideVal l 8, []⟩) := by
  obtain ⟨b', off', hx, hcell⟩ := hb.2 (by omega)
  simp only [Option.some.injEq, Addr.mk.injEq, and_true] at hx
  obtain ⟨rfl, rfl⟩ := hx
  have Hc4 : Hid (∀ i, i < n → ∀ o1 o2 o3 o4, ((((w.alloc o1).alloc o2).alloc o3).alloc o4).cell? ⟨b, off + i, none⟩ = some (.int .u8 (bt l i))) := fun i hi => cell4 w _ _ (hcell i hi)
  have Hl : Hid (l.length = n) := hb.1
  have n8 : ¬ (n : Int) < 8 := by omega
  have i1 : (8 : Int) ≤ (n : Int) := by omega
  have i2 : (n : Int) ≤ (c : Int) := by omega
  clear hcell
  go_enter Try.func21, Try.ntmps21
  go_wp2
  go_loop [10, 11] (fun x i => ∃ k : Nat, k ≤ 8 ∧ i = .int .i64 k ∧ x = .int .u64 (wideVal l k)) (fun _ i => 8 - (intOf i).toNat)
  case atStart => exact ⟨0, Nat.zero_le _, rfl, rfl⟩
  case round =>
    obtain ⟨k, hk, rfl, rfl⟩ := hrel
    by_cases hlt : k < 8
    · have hck := Hc4.out k (by omega)
      have b0 := bt_lo l k
      have b1 := bt_hi l k
      have h0 := wideVal_lo l k
      have h1 := wideVal_7 l k (by omega)
      have hkn : (k : Int) < (n : Int) := by omega
      have HS : Hid (wideVal l k * 256 + bt l k = wideVal l (k + 1)) := rfl
      go_wp2
      go_round
      case rel => exact ⟨k + 1, by omega, by go_num, by rw [HS.out]⟩
      case measure => simp [intOf]; omega
    · obtain rfl : k = 8 := by omega
      by_cases h1 : c = 8
      · subst h1
        obtain rfl : n = 8 := by omega
        go_wp2
        exact bodyPost_ret (v := .tuple #[.agg #[.slice (some ⟨b, off, none⟩) 0 0, .int .i64 0], .agg #[.int .u64 (wideVal l 8), .slice none 0 0]]) (by simp [results, Try.results21, go_sem]) rfl
          ⟨off, 0, 0, none, 0, 0, rfl, Bytes.done Hl.out (Nat.le_refl _) _, Nat.le_refl _, Bytes.nothing _ _, by simp, below4 _ _ _ _ _⟩
      · go_wp2
        exact bodyPost_ret (v := .tuple #[.agg #[.slice (some ⟨b, off + 8, none⟩) (n - 8) (c - 8), .int .i64 0], .agg #[.int .u64 (wideVal l 8), .slice none 0 0]]) (by simp [results, Try.results21, go_sem]) rfl
          ⟨off + 8, n - 8, c - 8, none, 0, 0, rfl, (hb.fwd 8 h8).low (below4 _ _ _ _ _), by omega, Bytes.nothing _ _, by simp, below4 _ _ _ _ _⟩

set_option maxHeartbeats 400000 in
theorem do_raw_arg (b off n c : Nat) (m : Int) (l : List UInt8) (w : World) (hb : Bytes w (some ⟨b, off, none⟩) n l) (hc : n ≤ c) (hm : m < 0) :
    Calls Try.prog 21 #[.agg #[.slice (some ⟨b, off, none⟩) n c, .int .i64 0], .agg #[.int .i64 4, .int .i64 m]] w (DoPost w b (.no l 2)) := by
  go_enter Try.func21, Try.ntmps21
  go_wp2
  refine bodyPost_ret (v := .tuple #[.agg #[.slice (some ⟨b, off, none⟩) n c, .int .i64 2], .agg #[.int .u64 0, .slice none 0 0]]) (by simp [results, Try.results34, go_sem]) rfl ?_
  go_wp2
  exact bodyPost_ret (v := .tuple #[.agg #[.slice (some ⟨b, off, none⟩) n c, .int .i64 2], .agg #[.int .u64 0, .slice none 0 0]]) (by simp [results, Try.results21, go_sem]) rfl
    ⟨off, n, c, none, 0, 0, rfl, hb.low (below7 _ _ _ _ _ _ _ _), hc, Bytes.nothing _ _, by simp, below7 _ _ _ _ _ _ _ _⟩

set_option maxHeartbeats 400000 in
theorem do_raw_short (b off n c : Nat) (m : Int) (l : List UInt8) (w : World) (hb : Bytes w (some ⟨b, off, none⟩) n l) (hc : n ≤ c) (hm : (n : Int) < m) :
    Calls Try.prog 21 #[.agg #[.slice (some ⟨b, off, none⟩) n c, .int .i64 0], .agg #[.int .i64 4, .int .i64 m]] w (DoPost w b (.no l 110)) := by
  have h0 : ¬ m < 0 := by omega
  go_enter Try.func21, Try.ntmps21
  go_wp2
  refine bodyPost_ret (v := .tuple #[.agg #[.slice (some ⟨b, off, none⟩) n c, .int .i64 110], .agg #[.int .u64 0, .slice none 0 0]]) (by simp [results, Try.results34, go_sem]) rfl ?_
  go_wp2
  exact bodyPost_ret (v := .tuple #[.agg #[.slice (some ⟨b, off, none⟩) n c, .int .i64 110], .agg #[.int .u64 0, .slice none 0 0]]) (by simp [results, Try.results21, go_sem]) rfl
    ⟨off, n, c, none, 0, 0, rfl, hb.low (below7 _ _ _ _ _ _ _ _), hc, Bytes.nothing _ _, by simp, below7 _ _ _ _ _ _ _ _⟩

set_option maxHeartbeats 400000 in
theorem do_raw_yes (b off n c k : Nat) (l : List UInt8) (w : World) (hb : Bytes w (some ⟨b, off, none⟩) n l) (hc : n ≤ c) (hk : k ≤ n) :
    Calls Try.prog 21 #[.agg #[.slice (some ⟨b, off, none⟩) n c, .int .i64 0], .agg #[.int .i64 4, .int .i64 k]] w (DoPost w b ⟨l.drop k, 0, 0, l.take k⟩) := by
  have Hl : Hid (l.length = n) := hb.1
  have i0 : (0 : Int) ≤ (k : Int) := by omega
  have i1 : (k : Int) ≤ (n : Int) := by omega
  have i2 : (n : Int) ≤ (c : Int) := by omega
  have i3 : (k : Int) ≤ (c : Int) := by omega
  have j0 : ¬ (k : Int) < 0 := by omega
  have j1 : ¬ (n : Int) < (k : Int) := by omega
  have hbt := hb.take k hk
  have Hbt : Hid (Bytes w (some ⟨b, off, none⟩) k (l.take k)) := hbt
  have Hb : Hid (Bytes w (some ⟨b, off, none⟩) n l) := hb
  clear hbt hb
  by_cases h1 : c = k
  · obtain rfl : n = k := by omega
    obtain rfl : c = n := h1
    go_enter Try.func21, Try.ntmps21
    go_wp2
    go_region
    go_wp2
    exact bodyPost_ret (v := .tuple #[.agg #[.slice (some ⟨b, off, none⟩) 0 0, .int .i64 0], .agg #[.int .u64 0, .slice (some ⟨b, off, none⟩) c c]]) (by simp [results, Try.results21, go_sem]) rfl
      ⟨off, 0, 0, some ⟨b, off, none⟩, c, c, rfl, by have := Bytes.done (w := w) Hl.out (Nat.le_refl c) (some ⟨b, off, none⟩); rw [Nat.sub_self] at this; exact this.low (below4 _ _ _ _ _).drew, Nat.le_refl _, Hbt.out.low (below4 _ _ _ _ _).drew, by simp, (below4 _ _ _ _ _).drew⟩
  · go_enter Try.func21, Try.ntmps21
    go_wp2
    go_region
    go_wp2
    exact bodyPost_ret (v := .tuple #[.agg #[.slice (some ⟨b, off + k, none⟩) (n - k) (c - k), .int .i64 0], .agg #[.int .u64 0, .slice (some ⟨b, off, none⟩) k c]]) (by simp [results, Try.results21, go_sem]) rfl
      ⟨off + k, n - k, c - k, some ⟨b, off, none⟩, k, c, rfl, (Hb.out.fwd k hk).low (below4 _ _ _ _ _).drew, by omega, Hbt.out.low (below4 _ _ _ _ _).drew, by simp, (below4 _ _ _ _ _).drew⟩
end Go.Proofs.Ytfkepoibgmljkaa
