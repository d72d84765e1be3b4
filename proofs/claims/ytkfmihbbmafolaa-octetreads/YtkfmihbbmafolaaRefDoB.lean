/- The walks of the document's Do of a wide form and of raw bytes. -/
import Derived.Test.YtkfmihbbmafolaaRefDo
namespace Go.Proofs.Ytkfmihbbmafolaa
open Go.RowKit

set_option maxHeartbeats 400000 in
theorem do_word_no (b off n c : Nat) (m : Int) (l : List UInt8) (w : World) (hb : Bytes w (some ⟨b, off, none⟩) n l) (hc : n ≤ c) (h8 : n < 8) :
    Calls Try.prog 25 #[.agg #[.slice (some ⟨b, off, none⟩) n c, .int .i64 0], .agg #[.int .i64 2, .int .i64 m]] w (DoPost w b (.no l 110)) := by
  go_enter Try.func25, Try.ntmps25
  go_wp2
  refine bodyPost_ret (v := .tuple #[.agg #[.slice (some ⟨b, off, none⟩) n c, .int .i64 110], .agg #[.int .u64 0, .slice none 0 0]]) (by simp [results, Try.results43, go_sem]) rfl ?_
  go_wp2
  exact bodyPost_ret (v := .tuple #[.agg #[.slice (some ⟨b, off, none⟩) n c, .int .i64 110], .agg #[.int .u64 0, .slice none 0 0]]) (by simp [results, Try.results25, go_sem]) rfl
    ⟨off, n, c, none, 0, 0, rfl, hb.low (below7 _ _ _ _ _ _ _ _), hc, Bytes.nothing _ _, by simp, below7 _ _ _ _ _ _ _ _⟩

set_option maxHeartbeats 1000000 in
theorem do_word_yes (b off n c : Nat) (m : Int) (l : List UInt8) (w : World) (hb : Bytes w (some ⟨b, off, none⟩) n l) (hc : n ≤ c) (h8 : 8 ≤ n) :
    Calls Try.prog 25 #[.agg #[.slice (some ⟨b, off, none⟩) n c, .int .i64 0], .agg #[.int .i64 2, .int .i64 m]] w (DoPost w b ⟨l.drop 8, 0, wideVal l 8, []⟩) := by
  obtain ⟨b', off', hx, hcell⟩ := hb.2 (by omega)
  simp only [Option.some.injEq, Addr.mk.injEq, and_true] at hx
  obtain ⟨rfl, rfl⟩ := hx
  have Hc4 : Hid (∀ i, i < n → ∀ o1 o2 o3 o4, ((((w.alloc o1).alloc o2).alloc o3).alloc o4).cell? ⟨b, off + i, none⟩ = some (.int .u8 (bt l i))) := fun i hi => cell4 w _ _ (hcell i hi)
  have Hl : Hid (l.length = n) := hb.1
  have n8 : ¬ (n : Int) < 8 := by omega
  have i1 : (8 : Int) ≤ (n : Int) := by omega
  have i2 : (n : Int) ≤ (c : Int) := by omega
  clear hcell
  go_enter Try.func25, Try.ntmps25
  go_wp2
  go_loop [10, 11] (fun x i => ∃ k : Nat, k ≤ 8 ∧ i = .int .i64 k ∧ x = .int .u64 (wideVal l k)) (fun _ i => 8 - (intOf i).toNat)
  case atStart => exact ⟨0, Nat.zero_le _, rfl, rfl⟩
  case round =>
    obtain ⟨k, hk, rfl, rfl⟩ := hrel
    by_cases hlt : k < 8
    · have hck := Hc4.out k (by omega)
      have b0 := bt_lo l k
      have b1 := bt_hi l k
      have h0 := wideVal_lo l k
      have h1 := wideVal_7 l k (by omega)
      have hkn : (k : Int) < (n : Int) := by omega
      have HS : Hid (wideVal l k * 256 + bt l k = wideVal l (k + 1)) := rfl
      go_wp2
      go_round
      case rel => exact ⟨k + 1, by omega, by go_num, by rw [HS.out]⟩
      case measure => simp [intOf]; omega
    · obtain rfl : k = 8 := by omega
      by_cases h1 : c = 8
      · subst h1
        obtain rfl : n = 8 := by omega
        go_wp2
        exact bodyPost_ret (v := .tuple #[.agg #[.slice (some ⟨b, off, none⟩) 0 0, .int .i64 0], .agg #[.int .u64 (wideVal l 8), .slice none 0 0]]) (by simp [results, Try.results25, go_sem]) rfl
          ⟨off, 0, 0, none, 0, 0, rfl, Bytes.done Hl.out (Nat.le_refl _) _, Nat.le_refl _, Bytes.nothing _ _, by simp, below4 _ _ _ _ _⟩
      · go_wp2
        exact bodyPost_ret (v := .tuple #[.agg #[.slice (some ⟨b, off + 8, none⟩) (n - 8) (c - 8), .int .i64 0], .agg #[.int .u64 (wideVal l 8), .slice none 0 0]]) (by simp [results, Try.results25, go_sem]) rfl
          ⟨off + 8, n - 8, c - 8, none, 0, 0, rfl, (hb.fwd 8 h8).low (below4 _ _ _ _ _), by omega, Bytes.nothing _ _, by simp, below4 _ _ _ _ _⟩

set_option maxHeartbeats 400000 in
theorem do_raw_arg (b off n c : Nat) (m : Int) (l : List UInt8) (w : World) (hb : Bytes w (some ⟨b, off, none⟩) n l) (hc : n ≤ c) (hm : m < 0) :
    Calls Try.prog 25 #[.agg #[.slice (some ⟨b, off, none⟩) n c, .int .i64 0], .agg #[.int .i64 4, .int .i64 m]] w (DoPost w b (.no l 2)) := by
  go_enter Try.func25, Try.ntmps25
  go_wp2
  refine bodyPost_ret (v := .tuple #[.agg #[.slice (some ⟨b, off, none⟩) n c, .int .i64 2], .agg #[.int .u64 0, .slice none 0 0]]) (by simp [results, Try.results43, go_sem]) rfl ?_
  go_wp2
  exact bodyPost_ret (v := .tuple #[.agg #[.slice (some ⟨b, off, none⟩) n c, .int .i64 2], .agg #[.int .u64 0, .slice none 0 0]]) (by simp [results, Try.results25, go_sem]) rfl
    ⟨off, n, c, none, 0, 0, rfl, hb.low (below7 _ _ _ _ _ _ _ _), hc, Bytes.nothing _ _, by simp, below7 _ _ _ _ _ _ _ _⟩

set_option maxHeartbeats 400000 in
theorem do_raw_short (b off n c : Nat) (m : Int) (l : List UInt8) (w : World) (hb : Bytes w (some ⟨b, off, none⟩) n l) (hc : n ≤ c) (hm : (n : Int) < m) :
    Calls Try.prog 25 #[.agg #[.slice (some ⟨b, off, none⟩) n c, .int .i64 0], .agg #[.int .i64 4, .int .i64 m]] w (DoPost w b (.no l 110)) := by
  have h0 : ¬ m < 0 := by omega
  go_enter Try.func25, Try.ntmps25
  go_wp2
  refine bodyPost_ret (v := .tuple #[.agg #[.slice (some ⟨b, off, none⟩) n c, .int .i64 110], .agg #[.int .u64 0, .slice none 0 0]]) (by simp [results, Try.results43, go_sem]) rfl ?_
  go_wp2
  exact bodyPost_ret (v := .tuple #[.agg #[.slice (some ⟨b, off, none⟩) n c, .int .i64 110], .agg #[.int .u64 0, .slice none 0 0]]) (by simp [results, Try.results25, go_sem]) rfl
    ⟨off, n, c, none, 0, 0, rfl, hb.low (below7 _ _ _ _ _ _ _ _), hc, Bytes.nothing _ _, by simp, below7 _ _ _ _ _ _ _ _⟩

set_option maxHeartbeats 400000 in
theorem do_raw_yes (b off n c k : Nat) (l : List UInt8) (w : World) (hb : Bytes w (some ⟨b, off, none⟩) n l) (hc : n ≤ c) (hk : k ≤ n) :
    Calls Try.prog 25 #[.agg #[.slice (some ⟨b, off, none⟩) n c, .int .i64 0], .agg #[.int .i64 4, .int .i64 k]] w (DoPost w b ⟨l.drop k, 0, 0, l.take k⟩) := by
  have Hl : Hid (l.length = n) := hb.1
  have i0 : (0 : Int) ≤ (k : Int) := by omega
  have i1 : (k : Int) ≤ (n : Int) := by omega
  have i2 : (n : Int) ≤ (c : Int) := by omega
  have i3 : (k : Int) ≤ (c : Int) := by omega
  have j0 : ¬ (k : Int) < 0 := by omega
  have j1 : ¬ (n : Int) < (k : Int) := by omega
  have hbt := hb.take k hk
  have Hbt : Hid (Bytes w (some ⟨b, off, none⟩) k (l.take k)) := hbt
  have Hb : Hid (Bytes w (some ⟨b, off, none⟩) n l) := hb
  clear hbt hb
  by_cases h1 : c = k
  · obtain rfl : n = k := by omega
    obtain rfl : c = n := h1
    go_enter Try.func25, Try.ntmps25
    go_wp2
    go_region
    go_wp2
    exact bodyPost_ret (v := .tuple #[.agg #[.slice (some ⟨b, off, none⟩) 0 0, .int .i64 0], .agg #[.int .u64 0, .slice (some ⟨b, off, none⟩) c c]]) (by simp [results, Try.results25, go_sem]) rfl
      ⟨off, 0, 0, some ⟨b, off, none⟩, c, c, rfl, by have := Bytes.done (w := w) Hl.out (Nat.le_refl c) (some ⟨b, off, none⟩); rw [Nat.sub_self] at this; exact this.low (below4 _ _ _ _ _).drew, Nat.le_refl _, Hbt.out.low (below4 _ _ _ _ _).drew, by simp, (below4 _ _ _ _ _).drew⟩
  · go_enter Try.func25, Try.ntmps25
    go_wp2
    go_region
    go_wp2
    exact bodyPost_ret (v := .tuple #[.agg #[.slice (some ⟨b, off + k, none⟩) (n - k) (c - k), .int .i64 0], .agg #[.int .u64 0, .slice (some ⟨b, off, none⟩) k c]]) (by simp [results, Try.results25, go_sem]) rfl
      ⟨off + k, n - k, c - k, some ⟨b, off, none⟩, k, c, rfl, (Hb.out.fwd k hk).low (below4 _ _ _ _ _).drew, by omega, Hbt.out.low (below4 _ _ _ _ _).drew, by simp, (below4 _ _ _ _ _).drew⟩
end Go.Proofs.Ytkfmihbbmafolaa
