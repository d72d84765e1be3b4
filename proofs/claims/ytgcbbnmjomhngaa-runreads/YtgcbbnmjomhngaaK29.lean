import Derived.Test.YtgcbbnmjomhngaaK28
import Derived.Shelf.SlSortCmp.NoneTotal
import Derived.Shelf.SlSortCmp.WholeK
import Derived.Shelf.SlSorted.Search
import Derived.Test.YtgcbbnmjomhngaaProg
/- The walks of the document's Do of a wide form and of raw bytes. -/
namespace Go.Proofs.Ytgcbbnmjomhngaa
open Go.RowKit

set_option maxHeartbeats 400000 in
theorem do_word_no (b off n c : Nat) (m : Int) (l : List UInt8) (w : World) (hb : Bytes w (some ⟨b, off, none⟩) n l) (hc : n ≤ c) (h8 : n < 8) :
    Calls Try.prog 35 #[.agg #[.slice (some ⟨b, off, none⟩) n c, .int .i64 0], .agg #[.int .i64 2, .int .i64 m]] w (DoPost w b (.no l 110)) := by
  go_enter Try.func35, Try.ntmps35
  go_wp2
  refine bodyPost_ret (v := .tuple #[.agg #[.slice (some ⟨b, off, none⟩) n c, .int .i64 110], .agg #[.int .u64 0, .slice none 0 0]]) (by simp [results, Try.results52, go_sem]) rfl ?_
  go_wp2
  exact bodyPost_ret (v := .tuple #[.agg #[.slice (some ⟨b, off, none⟩) n c, .int .i64 110], .agg #[.int .u64 0, .slice none 0 0]]) (by simp [results, Try.results35, go_sem]) rfl
    ⟨off, n, c, none, 0, 0, rfl, hb.low (below7 _ _ _ _ _ _ _ _), hc, Bytes.nothing _ _, by simp, below7 _ _ _ _ _ _ _ _⟩

set_option maxHeartbeats 1000000 in
theorem do_word_yes (b off n c : Nat) (m : Int) (l : List UInt8) (w : World) (hb : Bytes w (some ⟨b, off, none⟩) n l) (hc : n ≤ c) (h8 : 8 ≤ n) :
    Calls Try.prog 35 #[.agg #[.slice (some ⟨b, off, none⟩) n c, .int .i64 0], .agg #[.int .i64 2, .int .i64 m]] w (DoPost w b ⟨l.drop 8, 0, wideVal l 8, []⟩) := by
  obtain ⟨b', off', hx, hcell⟩ := hb.2 (by omega)
  simp only [Option.some.injEq, Addr.mk.injEq, and_true] at hx
  obtain ⟨rfl, rfl⟩ := hx
  have Hc4 : Hid (∀ i, i < n → ∀ o1 o2 o3 o4, ((((w.alloc o1).alloc o2).alloc o3).alloc o4).cell? ⟨b, off + i, none⟩ = some (.int .u8 (bt l i))) := fun i hi => cell4 w _ _ (hcell i hi)
  have Hl : Hid (l.length = n) := hb.1
  have n8 : ¬ (n : Int) < 8 := by omega
  have i1 : (8 : Int) ≤ (n : Int) := by omega
  have i2 : (n : Int) ≤ (c : Int) := by omega
  clear hcell
  go_enter Try.func35, Try.ntmps35
  go_wp2
  go_loop [10, 11] (fun x i => ∃ k : Nat, k ≤ 8 ∧ i = .int .i64 k ∧ x = .int .u64 (wideVal l k)) (fun _ i => 8 - (intOf i).toNat)
  case atStart => exact ⟨0, Nat.zero_le _, rfl, rfl⟩
  case round =>
    obtain ⟨k, hk, rfl, rfl⟩ := hrel
    by_cases hlt : k < 8
    · have hck := Hc4.out k (by omega)
      have b0 := bt_lo l k
      have b1 := bt_hi l k
      have h0 := wideVal_lo l k
      have h1 := wideVal_7 l k (by omega)
      have hkn : (k : Int) < (n : Int) := by omega
      have HS : Hid (wideVal l k * 256 + bt l k = wideVal l (k + 1)) := rfl
      go_wp2
      go_round
      case rel => exact ⟨k + 1, by omega, by go_num, by rw [HS.out]⟩
      case measure => simp [intOf]; omega
    · obtain rfl : k = 8 := by omega
      by_cases h1 : c = 8
      · subst h1
        obtain rfl : n = 8 := by omega
        go_wp2
        exact bodyPost_ret (v := .tuple #[.agg #[.slice (some ⟨b, off, none⟩) 0 0, .int .i64 0], .agg #[.int .u64 (wideVal l 8), .slice none 0 0]]) (by simp [results, Try.results35, go_sem]) rfl
          ⟨off, 0, 0, none, 0, 0, rfl, Bytes.done Hl.out (Nat.le_refl _) _, Nat.le_refl _, Bytes.nothing _ _, by simp, below4 _ _ _ _ _⟩
      · go_wp2
        exact bodyPost_ret (v := .tuple #[.agg #[.slice (some ⟨b, off + 8, none⟩) (n - 8) (c - 8), .int .i64 0], .agg #[.int .u64 (wideVal l 8), .slice none 0 0]]) (by simp [results, Try.results35, go_sem]) rfl
          ⟨off + 8, n - 8, c - 8, none, 0, 0, rfl, (hb.fwd 8 h8).low (below4 _ _ _ _ _), by omega, Bytes.nothing _ _, by simp, below4 _ _ _ _ _⟩

set_option maxHeartbeats 400000 in
theorem do_raw_arg (b off n c : Nat) (m : Int) (l : List UInt8) (w : World) (hb : Bytes w (some ⟨b, off, none⟩) n l) (hc : n ≤ c) (hm : m < 0) :
    Calls Try.prog 35 #[.agg #[.slice (some ⟨b, off, none⟩) n c, .int .i64 0], .agg #[.int .i64 4, .int .i64 m]] w (DoPost w b (.no l 2)) := by
  go_enter Try.func35, Try.ntmps35
  go_wp2
  refine bodyPost_ret (v := .tuple #[.agg #[.slice (some ⟨b, off, none⟩) n c, .int .i64 2], .agg #[.int .u64 0, .slice none 0 0]]) (by simp [results, Try.results52, go_sem]) rfl ?_
  go_wp2
  exact bodyPost_ret (v := .tuple #[.agg #[.slice (some ⟨b, off, none⟩) n c, .int .i64 2], .agg #[.int .u64 0, .slice none 0 0]]) (by simp [results, Try.results35, go_sem]) rfl
    ⟨off, n, c, none, 0, 0, rfl, hb.low (below7 _ _ _ _ _ _ _ _), hc, Bytes.nothing _ _, by simp, below7 _ _ _ _ _ _ _ _⟩

set_option maxHeartbeats 400000 in
theorem do_raw_short (b off n c : Nat) (m : Int) (l : List UInt8) (w : World) (hb : Bytes w (some ⟨b, off, none⟩) n l) (hc : n ≤ c) (hm : (n : Int) < m) :
    Calls Try.prog 35 #[.agg #[.slice (some ⟨b, off, none⟩) n c, .int .i64 0], .agg #[.int .i64 4, .int .i64 m]] w (DoPost w b (.no l 110)) := by
  have h0 : ¬ m < 0 := by omega
  go_enter Try.func35, Try.ntmps35
  go_wp2
  refine bodyPost_ret (v := .tuple #[.agg #[.slice (some ⟨b, off, none⟩) n c, .int .i64 110], .agg #[.int .u64 0, .slice none 0 0]]) (by simp [results, Try.results52, go_sem]) rfl ?_
  go_wp2
  exact bodyPost_ret (v := .tuple #[.agg #[.slice (some ⟨b, off, none⟩) n c, .int .i64 110], .agg #[.int .u64 0, .slice none 0 0]]) (by simp [results, Try.results35, go_sem]) rfl
    ⟨off, n, c, none, 0, 0, rfl, hb.low (below7 _ _ _ _ _ _ _ _), hc, Bytes.nothing _ _, by simp, below7 _ _ _ _ _ _ _ _⟩

set_option maxHeartbeats 400000 in
theorem do_raw_yes (b off n c k : Nat) (l : List UInt8) (w : World) (hb : Bytes w (some ⟨b, off, none⟩) n l) (hc : n ≤ c) (hk : k ≤ n) :
    Calls Try.prog 35 #[.agg #[.slice (some ⟨b, off, none⟩) n c, .int .i64 0], .agg #[.int .i64 4, .int .i64 k]] w (DoPost w b ⟨l.drop k, 0, 0, l.take k⟩) := by
  have Hl : Hid (l.length = n) := hb.1
  have i0 : (0 : Int) ≤ (k : Int) := by omega
  have i1 : (k : Int) ≤ (n : Int) := by omega
  have i2 : (n : Int) ≤ (c : Int) := by omega
  have i3 : (k : Int) ≤ (c : Int) := by omega
  have j0 : ¬ (k : Int) < 0 := by omega
  have j1 : ¬ (n : Int) < (k : Int) := by omega
  have hbt := hb.take k hk
  have Hbt : Hid (Bytes w (some ⟨b, off, none⟩) k (l.take k)) := hbt
  have Hb : Hid (Bytes w (some ⟨b, off, none⟩) n l) := hb
  clear hbt hb
  by_cases h1 : c = k
  · obtain rfl : n = k := by omega
    obtain rfl : c = n := h1
    go_enter Try.func35, Try.ntmps35
    go_wp2
    go_region
    go_wp2
    exact bodyPost_ret (v := .tuple #[.agg #[.slice (some ⟨b, off, none⟩) 0 0, .int .i64 0], .agg #[.int .u64 0, .slice (some ⟨b, off, none⟩) c c]]) (by simp [results, Try.results35, go_sem]) rfl
      ⟨off, 0, 0, some ⟨b, off, none⟩, c, c, rfl, by have := Bytes.done (w := w) Hl.out (Nat.le_refl c) (some ⟨b, off, none⟩); rw [Nat.sub_self] at this; exact this.low (below4 _ _ _ _ _).drew, Nat.le_refl _, Hbt.out.low (below4 _ _ _ _ _).drew, by simp, (below4 _ _ _ _ _).drew⟩
  · go_enter Try.func35, Try.ntmps35
    go_wp2
    go_region
    go_wp2
    exact bodyPost_ret (v := .tuple #[.agg #[.slice (some ⟨b, off + k, none⟩) (n - k) (c - k), .int .i64 0], .agg #[.int .u64 0, .slice (some ⟨b, off, none⟩) k c]]) (by simp [results, Try.results35, go_sem]) rfl
      ⟨off + k, n - k, c - k, some ⟨b, off, none⟩, k, c, rfl, (Hb.out.fwd k hk).low (below4 _ _ _ _ _).drew, by omega, Hbt.out.low (below4 _ _ _ _ _).drew, by simp, (below4 _ _ _ _ _).drew⟩
end Go.Proofs.Ytgcbbnmjomhngaa

/- The kit's contracts, laid at this translation by the kit's own command, in plain words. -/
namespace Go.Proofs.Ytgcbbnmjomhngaa
open Go.RowKit Go.Shelf

def Try.sortV_ren : Go.Shelf.Ren := ⟨fun | 6 => 23 | 15 => 40 | 14 => 39 | 28 => 63 | 29 => 64 | 20 => 55 | 21 => 56 | 22 => 57 | 23 => 58 | 24 => 59 | 25 => 60 | 26 => 61 | 27 => 62 | 46 => 74 | 47 => 75 | 48 => 76 | 49 => 77 | 50 => 78 | 57 => 79 | n => n, fun | 22 => 22 | 24 => 47 | 25 => 60 | 3 => 3 | 39 => 82 | 0 => 0 | 53 => 104 | 55 => 31 | 4 => 4 | 46 => 97 | 45 => 96 | 50 => 101 | 5 => 5 | 9 => 9 | 66 => 114 | 70 => 117 | 76 => 120 | 77 => 121 | n => n, fun | n => n⟩
theorem Try.sortV : Go.Proofs.SlLaysF0.n6 Try.prog Try.sortV_ren := {
  mixed := by kernel_rfl
  f6 := ⟨Try.f23.name, by decide, Try.func23.trans (congrArg some (by kernel_rfl))⟩
  f14 := ⟨Try.f39.name, by decide, Try.func39.trans (congrArg some (by kernel_rfl))⟩
  f15 := Try.func40.trans (congrArg some (by kernel_rfl))
  f20 := ⟨Try.f55.name, by decide, Try.func55.trans (congrArg some (by kernel_rfl))⟩
  f21 := ⟨Try.f56.name, by decide, Try.func56.trans (congrArg some (by kernel_rfl))⟩
  f22 := ⟨Try.f57.name, by decide, Try.func57.trans (congrArg some (by kernel_rfl))⟩
  f23 := ⟨Try.f58.name, by decide, Try.func58.trans (congrArg some (by kernel_rfl))⟩
  f24 := ⟨Try.f59.name, by decide, Try.func59.trans (congrArg some (by kernel_rfl))⟩
  f25 := ⟨Try.f60.name, by decide, Try.func60.trans (congrArg some (by kernel_rfl))⟩
  f26 := ⟨Try.f61.name, by decide, Try.func61.trans (congrArg some (by kernel_rfl))⟩
  f27 := ⟨Try.f62.name, by decide, Try.func62.trans (congrArg some (by kernel_rfl))⟩
  f28 := Try.func63.trans (congrArg some (by kernel_rfl))
  f29 := Try.func64.trans (congrArg some (by kernel_rfl))
  f46 := ⟨Try.f74.name, by decide, Try.func74.trans (congrArg some (by kernel_rfl))⟩
  f47 := Try.func75.trans (congrArg some (by kernel_rfl))
  f48 := Try.func76.trans (congrArg some (by kernel_rfl))
  f49 := ⟨Try.f77.name, by decide, Try.func77.trans (congrArg some (by kernel_rfl))⟩
  f50 := ⟨Try.f78.name, by decide, Try.func78.trans (congrArg some (by kernel_rfl))⟩
  f57 := ⟨Try.f79.name, by decide, Try.func79.trans (congrArg some (by kernel_rfl))⟩
  t0 := Try.underlying0
  a0 := Try.isAgg0
  z0 := Try.sizeOf0
  v0 := Try.zeroValue0
  t3 := Try.underlying3
  a3 := Try.isAgg3
  z3 := Try.sizeOf3
  v3 := Try.zeroValue3
  t4 := Try.underlying4
  a4 := Try.isAgg4
  z4 := Try.sizeOf4
  v4 := Try.zeroValue4
  t5 := Try.underlying5
  a5 := Try.isAgg5
  z5 := Try.sizeOf5
  v5 := Try.zeroValue5
  t9 := Try.underlying9
  a9 := Try.isAgg9
  z9 := Try.sizeOf9
  v9 := Try.zeroValue9
  t22 := Try.underlying22
  a22 := Try.isAgg22
  z22 := Try.sizeOf22
  v22 := Try.zeroValue22
  t25 := Try.underlying60
  a25 := Try.isAgg60
  z25 := Try.sizeOf60
  v25 := Try.zeroValue60
  t39 := Try.underlying82
  a39 := Try.isAgg82
  z39 := Try.sizeOf82
  v39 := Try.zeroValue82
  t45 := Try.underlying96
  a45 := Try.isAgg96
  z45 := Try.sizeOf96
  v45 := Try.zeroValue96
  t46 := Try.underlying97
  a46 := Try.isAgg97
  z46 := Try.sizeOf97
  v46 := Try.zeroValue97
  t50 := Try.underlying101
  a50 := Try.isAgg101
  z50 := Try.sizeOf101
  v50 := Try.zeroValue101
  t53 := Try.underlying104
  a53 := Try.isAgg104
  z53 := Try.sizeOf104
  v53 := Try.zeroValue104
  t55 := Try.underlying31
  a55 := Try.isAgg31
  z55 := Try.sizeOf31
  v55 := Try.zeroValue31
  t66 := Try.underlying114
  a66 := Try.isAgg114
  z66 := Try.sizeOf114
  v66 := Try.zeroValue114
  t70 := Try.underlying117
  a70 := Try.isAgg117
  z70 := Try.sizeOf117
  v70 := Try.zeroValue117
  t76 := Try.underlying120
  a76 := Try.isAgg120
  z76 := Try.sizeOf120
  v76 := Try.zeroValue120
  t77 := Try.underlying121
  a77 := Try.isAgg121
  z77 := Try.sizeOf121
  v77 := Try.zeroValue121 }
def Try.searchV_ren : Go.Shelf.Ren := ⟨fun | 16 => 36 | n => n, fun | 3 => 3 | 35 => 78 | 4 => 4 | 38 => 82 | n => n, fun | n => n⟩
theorem Try.searchV : Go.Proofs.SlLaysO.n16 Try.prog Try.searchV_ren := {
  mixed := by kernel_rfl
  f16 := Try.func36.trans (congrArg some (by kernel_rfl))
  t3 := Try.underlying3
  a3 := Try.isAgg3
  z3 := Try.sizeOf3
  v3 := Try.zeroValue3
  t4 := Try.underlying4
  a4 := Try.isAgg4
  z4 := Try.sizeOf4
  v4 := Try.zeroValue4
  t35 := Try.underlying78
  a35 := Try.isAgg78
  z35 := Try.sizeOf78
  v35 := Try.zeroValue78
  t38 := Try.underlying82
  a38 := Try.isAgg82
  z38 := Try.sizeOf82
  v38 := Try.zeroValue82 }

end Go.Proofs.Ytgcbbnmjomhngaa
