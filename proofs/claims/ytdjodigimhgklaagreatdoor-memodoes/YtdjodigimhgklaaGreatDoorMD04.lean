import Derived.Shelf.SlSortCmp.NoneTotal
import Derived.Shelf.SlSortCmp.WholeK
import Derived.Test.YtdjodigimhgklaaGreatDoorProg
import Derived.Test.YtdjodigimhgklaaGreatDoorMD01
import Derived.Outline
import Derived.Test.YtdjodigimhgklaaGreatDoorMD03
import Derived.Shelf.SlIter.Nil
import Derived.Shelf.SortM.Plain
import Derived.Shelf.SortM.SortNone
/- The kit's contracts, laid at this translation by the kit's own command, in plain words. -/
namespace Go.Proofs.YtdjodigimhgklaaGreatDoor
open Go.RowKit Go.Shelf

def Tryz.sortI_ren : Go.Shelf.Ren := ⟨fun | 6 => 82 | 15 => 106 | 14 => 126 | 28 => 145 | 29 => 146 | 20 => 159 | 21 => 160 | 22 => 161 | 23 => 162 | 24 => 163 | 25 => 164 | 26 => 165 | 27 => 166 | 46 => 186 | 47 => 178 | 48 => 179 | 49 => 187 | 50 => 188 | 57 => 198 | n => n, fun | 22 => 73 | 24 => 3 | 25 => 150 | 3 => 3 | 39 => 77 | 0 => 0 | 53 => 198 | 55 => 22 | 4 => 4 | 46 => 192 | 45 => 191 | 50 => 126 | 5 => 5 | 9 => 9 | 66 => 224 | 70 => 227 | 76 => 238 | 77 => 239 | n => n, fun | n => n⟩
theorem Tryz.sortI : Go.Proofs.SlLaysF.n6 Tryz.prog Tryz.sortI_ren := {
  mixed := by kernel_rfl
  f6 := ⟨Tryz.f82.name, by decide, Tryz.func82.trans (congrArg some (by kernel_rfl))⟩
  f14 := ⟨Tryz.f126.name, by decide, Tryz.func126.trans (congrArg some (by kernel_rfl))⟩
  f15 := Tryz.func106.trans (congrArg some (by kernel_rfl))
  f20 := ⟨Tryz.f159.name, by decide, Tryz.func159.trans (congrArg some (by kernel_rfl))⟩
  f21 := ⟨Tryz.f160.name, by decide, Tryz.func160.trans (congrArg some (by kernel_rfl))⟩
  f22 := ⟨Tryz.f161.name, by decide, Tryz.func161.trans (congrArg some (by kernel_rfl))⟩
  f23 := ⟨Tryz.f162.name, by decide, Tryz.func162.trans (congrArg some (by kernel_rfl))⟩
  f24 := ⟨Tryz.f163.name, by decide, Tryz.func163.trans (congrArg some (by kernel_rfl))⟩
  f25 := ⟨Tryz.f164.name, by decide, Tryz.func164.trans (congrArg some (by kernel_rfl))⟩
  f26 := ⟨Tryz.f165.name, by decide, Tryz.func165.trans (congrArg some (by kernel_rfl))⟩
  f27 := ⟨Tryz.f166.name, by decide, Tryz.func166.trans (congrArg some (by kernel_rfl))⟩
  f28 := Tryz.func145.trans (congrArg some (by kernel_rfl))
  f29 := Tryz.func146.trans (congrArg some (by kernel_rfl))
  f46 := ⟨Tryz.f186.name, by decide, Tryz.func186.trans (congrArg some (by kernel_rfl))⟩
  f47 := Tryz.func178.trans (congrArg some (by kernel_rfl))
  f48 := Tryz.func179.trans (congrArg some (by kernel_rfl))
  f49 := ⟨Tryz.f187.name, by decide, Tryz.func187.trans (congrArg some (by kernel_rfl))⟩
  f50 := ⟨Tryz.f188.name, by decide, Tryz.func188.trans (congrArg some (by kernel_rfl))⟩
  f57 := ⟨Tryz.f198.name, by decide, Tryz.func198.trans (congrArg some (by kernel_rfl))⟩
  t0 := Tryz.underlying0
  a0 := Tryz.isAgg0
  z0 := Tryz.sizeOf0
  v0 := Tryz.zeroValue0
  t3 := Tryz.underlying3
  a3 := Tryz.isAgg3
  z3 := Tryz.sizeOf3
  v3 := Tryz.zeroValue3
  t4 := Tryz.underlying4
  a4 := Tryz.isAgg4
  z4 := Tryz.sizeOf4
  v4 := Tryz.zeroValue4
  t5 := Tryz.underlying5
  a5 := Tryz.isAgg5
  z5 := Tryz.sizeOf5
  v5 := Tryz.zeroValue5
  t9 := Tryz.underlying9
  a9 := Tryz.isAgg9
  z9 := Tryz.sizeOf9
  v9 := Tryz.zeroValue9
  t22 := Tryz.underlying73
  a22 := Tryz.isAgg73
  z22 := Tryz.sizeOf73
  v22 := Tryz.zeroValue73
  a24 := Tryz.isAgg3
  z24 := Tryz.sizeOf3
  t25 := Tryz.underlying150
  a25 := Tryz.isAgg150
  z25 := Tryz.sizeOf150
  v25 := Tryz.zeroValue150
  t39 := Tryz.underlying77
  a39 := Tryz.isAgg77
  z39 := Tryz.sizeOf77
  v39 := Tryz.zeroValue77
  t45 := Tryz.underlying191
  a45 := Tryz.isAgg191
  z45 := Tryz.sizeOf191
  v45 := Tryz.zeroValue191
  t46 := Tryz.underlying192
  a46 := Tryz.isAgg192
  z46 := Tryz.sizeOf192
  v46 := Tryz.zeroValue192
  t50 := Tryz.underlying126
  a50 := Tryz.isAgg126
  z50 := Tryz.sizeOf126
  v50 := Tryz.zeroValue126
  t53 := Tryz.underlying198
  a53 := Tryz.isAgg198
  z53 := Tryz.sizeOf198
  v53 := Tryz.zeroValue198
  t55 := Tryz.underlying22
  a55 := Tryz.isAgg22
  z55 := Tryz.sizeOf22
  v55 := Tryz.zeroValue22
  t66 := Tryz.underlying224
  a66 := Tryz.isAgg224
  z66 := Tryz.sizeOf224
  v66 := Tryz.zeroValue224
  t70 := Tryz.underlying227
  a70 := Tryz.isAgg227
  z70 := Tryz.sizeOf227
  v70 := Tryz.zeroValue227
  t76 := Tryz.underlying238
  a76 := Tryz.isAgg238
  z76 := Tryz.sizeOf238
  v76 := Tryz.zeroValue238
  t77 := Tryz.underlying239
  a77 := Tryz.isAgg239
  z77 := Tryz.sizeOf239
  v77 := Tryz.zeroValue239 }
def Tryz.sortI0_ren : Go.Shelf.Ren := ⟨fun | 6 => 82 | 15 => 106 | 14 => 126 | 28 => 145 | 29 => 146 | 20 => 159 | 21 => 160 | 22 => 161 | 23 => 162 | 24 => 163 | 25 => 164 | 26 => 165 | 27 => 166 | 46 => 186 | 47 => 178 | 48 => 179 | 49 => 187 | 50 => 188 | 57 => 198 | n => n, fun | 22 => 73 | 24 => 3 | 25 => 150 | 3 => 3 | 39 => 77 | 0 => 0 | 53 => 198 | 55 => 22 | 4 => 4 | 46 => 192 | 45 => 191 | 50 => 126 | 5 => 5 | 9 => 9 | 66 => 224 | 70 => 227 | 76 => 238 | 77 => 239 | n => n, fun | n => n⟩
theorem Tryz.sortI0 : Go.Proofs.SlLaysF0.n6 Tryz.prog Tryz.sortI0_ren := {
  mixed := by kernel_rfl
  f6 := ⟨Tryz.f82.name, by decide, Tryz.func82.trans (congrArg some (by kernel_rfl))⟩
  f14 := ⟨Tryz.f126.name, by decide, Tryz.func126.trans (congrArg some (by kernel_rfl))⟩
  f15 := Tryz.func106.trans (congrArg some (by kernel_rfl))
  f20 := ⟨Tryz.f159.name, by decide, Tryz.func159.trans (congrArg some (by kernel_rfl))⟩
  f21 := ⟨Tryz.f160.name, by decide, Tryz.func160.trans (congrArg some (by kernel_rfl))⟩
  f22 := ⟨Tryz.f161.name, by decide, Tryz.func161.trans (congrArg some (by kernel_rfl))⟩
  f23 := ⟨Tryz.f162.name, by decide, Tryz.func162.trans (congrArg some (by kernel_rfl))⟩
  f24 := ⟨Tryz.f163.name, by decide, Tryz.func163.trans (congrArg some (by kernel_rfl))⟩
  f25 := ⟨Tryz.f164.name, by decide, Tryz.func164.trans (congrArg some (by kernel_rfl))⟩
  f26 := ⟨Tryz.f165.name, by decide, Tryz.func165.trans (congrArg some (by kernel_rfl))⟩
  f27 := ⟨Tryz.f166.name, by decide, Tryz.func166.trans (congrArg some (by kernel_rfl))⟩
  f28 := Tryz.func145.trans (congrArg some (by kernel_rfl))
  f29 := Tryz.func146.trans (congrArg some (by kernel_rfl))
  f46 := ⟨Tryz.f186.name, by decide, Tryz.func186.trans (congrArg some (by kernel_rfl))⟩
  f47 := Tryz.func178.trans (congrArg some (by kernel_rfl))
  f48 := Tryz.func179.trans (congrArg some (by kernel_rfl))
  f49 := ⟨Tryz.f187.name, by decide, Tryz.func187.trans (congrArg some (by kernel_rfl))⟩
  f50 := ⟨Tryz.f188.name, by decide, Tryz.func188.trans (congrArg some (by kernel_rfl))⟩
  f57 := ⟨Tryz.f198.name, by decide, Tryz.func198.trans (congrArg some (by kernel_rfl))⟩
  t0 := Tryz.underlying0
  a0 := Tryz.isAgg0
  z0 := Tryz.sizeOf0
  v0 := Tryz.zeroValue0
  t3 := Tryz.underlying3
  a3 := Tryz.isAgg3
  z3 := Tryz.sizeOf3
  v3 := Tryz.zeroValue3
  t4 := Tryz.underlying4
  a4 := Tryz.isAgg4
  z4 := Tryz.sizeOf4
  v4 := Tryz.zeroValue4
  t5 := Tryz.underlying5
  a5 := Tryz.isAgg5
  z5 := Tryz.sizeOf5
  v5 := Tryz.zeroValue5
  t9 := Tryz.underlying9
  a9 := Tryz.isAgg9
  z9 := Tryz.sizeOf9
  v9 := Tryz.zeroValue9
  t22 := Tryz.underlying73
  a22 := Tryz.isAgg73
  z22 := Tryz.sizeOf73
  v22 := Tryz.zeroValue73
  t25 := Tryz.underlying150
  a25 := Tryz.isAgg150
  z25 := Tryz.sizeOf150
  v25 := Tryz.zeroValue150
  t39 := Tryz.underlying77
  a39 := Tryz.isAgg77
  z39 := Tryz.sizeOf77
  v39 := Tryz.zeroValue77
  t45 := Tryz.underlying191
  a45 := Tryz.isAgg191
  z45 := Tryz.sizeOf191
  v45 := Tryz.zeroValue191
  t46 := Tryz.underlying192
  a46 := Tryz.isAgg192
  z46 := Tryz.sizeOf192
  v46 := Tryz.zeroValue192
  t50 := Tryz.underlying126
  a50 := Tryz.isAgg126
  z50 := Tryz.sizeOf126
  v50 := Tryz.zeroValue126
  t53 := Tryz.underlying198
  a53 := Tryz.isAgg198
  z53 := Tryz.sizeOf198
  v53 := Tryz.zeroValue198
  t55 := Tryz.underlying22
  a55 := Tryz.isAgg22
  z55 := Tryz.sizeOf22
  v55 := Tryz.zeroValue22
  t66 := Tryz.underlying224
  a66 := Tryz.isAgg224
  z66 := Tryz.sizeOf224
  v66 := Tryz.zeroValue224
  t70 := Tryz.underlying227
  a70 := Tryz.isAgg227
  z70 := Tryz.sizeOf227
  v70 := Tryz.zeroValue227
  t76 := Tryz.underlying238
  a76 := Tryz.isAgg238
  z76 := Tryz.sizeOf238
  v76 := Tryz.zeroValue238
  t77 := Tryz.underlying239
  a77 := Tryz.isAgg239
  z77 := Tryz.sizeOf239
  v77 := Tryz.zeroValue239 }

end Go.Proofs.YtdjodigimhgklaaGreatDoor

/- The walk of the program's Hash. -/
namespace Go.Proofs.YtdjodigimhgklaaGreatDoor
open Go.RowKit

/-- the hash of the first k bytes of l -/
def hashTo (l : List UInt8) : Nat → Int
  | 0 => 14695981039346656037
  | k + 1 => IntKind.u64.wrap (bits BinOp.xor IntKind.u64 (hashTo l k) (bt l k) * 1099511628211)
theorem hashTo_zero (l : List UInt8) : hashTo l 0 = 14695981039346656037 := rfl
theorem hashTo_succ (l : List UInt8) (k : Nat) : hashTo l (k + 1) = IntKind.u64.wrap (bits BinOp.xor IntKind.u64 (hashTo l k) (bt l k) * 1099511628211) := rfl
theorem hashTo_lo (l : List UInt8) (k : Nat) : 0 ≤ hashTo l k := by
  cases k with
  | zero => rw [hashTo_zero]; omega
  | succ k => rw [hashTo_succ]; rw [IntKind.wrap_u64]; omega
theorem hashTo_hi (l : List UInt8) (k : Nat) : hashTo l k ≤ 18446744073709551615 := by
  cases k with
  | zero => rw [hashTo_zero]; omega
  | succ k => rw [hashTo_succ]; rw [IntKind.wrap_u64]; omega

set_option maxHeartbeats 400000 in
theorem hash_any (a : Option Addr) (n cap : Nat) (l : List UInt8) (w : World) (hb : Bytes w a n l) (hm : n ≤ maxLen) :
    Calls Tryz.prog 112 #[.slice a n cap] w fun e w' => e = .returned (.int .u64 (hashTo l n)) ∧ w' = w := by
  unfold maxLen at hm
  obtain ⟨hl, hc⟩ := hb
  go_enter Tryz.func112, Tryz.ntmps112
  go_wp2
  go_loop [3, 8] (fun h i => ∃ k : Nat, k ≤ n ∧ i = .int .i64 k ∧ h = .int .u64 (hashTo l k)) (fun _ i => n - (intOf i).toNat)
  case atStart => exact ⟨0, Nat.zero_le _, rfl, rfl⟩
  case round =>
    obtain ⟨k, hk, rfl, rfl⟩ := hrel
    by_cases hlt : k < n
    · obtain ⟨b, off, rfl, hcell⟩ := hc (by omega)
      have hck := hcell k hlt
      have b0 := bt_lo l k
      have b1 := bt_hi l k
      have h0 := hashTo_lo l k
      have h1 := hashTo_hi l k
      clear hcell hc
      go_wp2
      go_round
      case rel => exact ⟨k + 1, by omega, by go_num, by rw [hashTo_succ]⟩
      case measure => simp [intOf]; omega
    · go_wp2
      go_ret
      obtain rfl : k = n := by omega
      exact ⟨rfl, rfl⟩

end Go.Proofs.YtdjodigimhgklaaGreatDoor

/- Plain facts on the wide form that is read and on a text's bounds; nothing of the program is named here. -/
namespace Go.Proofs.YtdjodigimhgklaaGreatDoor
open Go.RowKit

/-- the number that the first k bytes make, the highest first -/
def wideVal (l : List UInt8) : Nat → Int
  | 0 => 0
  | k + 1 => wideVal l k * 256 + bt l k
theorem wideVal_succ (l : List UInt8) (k : Nat) : wideVal l (k + 1) = wideVal l k * 256 + bt l k := rfl
theorem wideVal_lo (l : List UInt8) (k : Nat) : 0 ≤ wideVal l k := by
  induction k with
  | zero => simp [wideVal]
  | succ k ih => rw [wideVal_succ]; have := bt_lo l k; omega
theorem wideVal_hi (l : List UInt8) (k : Nat) : wideVal l k < 256 ^ k := by
  induction k with
  | zero => simp [wideVal]
  | succ k ih =>
    rw [wideVal_succ, Int.pow_succ]
    have := bt_hi l k
    omega
theorem pow256_7 (k : Nat) (h : k ≤ 7) : (256 : Int) ^ k ≤ 72057594037927936 := by
  have h9 : (256 : Int) ^ 7 = 72057594037927936 := by decide
  rw [← h9]
  have hn : (256 : Nat) ^ k ≤ 256 ^ 7 := Nat.pow_le_pow_right (by omega) h
  have e : ∀ j : Nat, (256 : Int) ^ j = ((256 ^ j : Nat) : Int) := by
    intro j
    simp
  rw [e, e]
  exact Int.ofNat_le.2 hn
theorem wideVal_7 (l : List UInt8) (k : Nat) (h : k ≤ 7) : wideVal l k < 72057594037927936 := by
  have := wideVal_hi l k
  have := pow256_7 k h
  omega
theorem wideVal_fits (l : List UInt8) (k : Nat) (h : k ≤ 8) : wideVal l k ≤ 18446744073709551615 := by
  cases k with
  | zero => simp [wideVal]
  | succ k =>
    rw [wideVal_succ]
    have := wideVal_7 l k (by omega)
    have := bt_hi l k
    omega
theorem shl8 (x v : Int) (h0 : 0 ≤ x) (h1 : x < 72057594037927936) (v0 : 0 ≤ v) (v1 : v ≤ 255) : bits BinOp.or IntKind.u64 (x * 256) v = x * 256 + v :=
  bits_join .u64 64 (by decide) wraps64 8 (x * 256) v (by omega) (by omega) (by omega) v0 (by omega) (by omega)

/-- where a text begins, and ends, whose form l begins with; or why there is none -/
def txt (l : List UInt8) (most : Int) : Nat × Nat × Int :=
  if most < 0 then (0, 0, 2)
  else if (num l).2.2 ≠ 0 then (0, 0, (num l).2.2)
  else if most < (num l).1 then (0, 0, 3)
  else if ((l.length - (num l).2.1 : Nat) : Int) < (num l).1 then (0, 0, 110)
  else ((num l).2.1, (num l).2.1 + (num l).1.toNat, 0)

theorem txt_arg (l : List UInt8) (most : Int) (h : most < 0) : txt l most = (0, 0, 2) := by rw [txt, if_pos h]
theorem txt_num (l : List UInt8) (most : Int) (h : ¬ most < 0) (hn : (num l).2.2 ≠ 0) : txt l most = (0, 0, (num l).2.2) := by rw [txt, if_neg h, if_pos hn]
theorem txt_long (l : List UInt8) (most : Int) (h : ¬ most < 0) (hn : (num l).2.2 = 0) (hl : most < (num l).1) : txt l most = (0, 0, 3) := by rw [txt, if_neg h, if_neg (by simpa using hn), if_pos hl]
theorem txt_short (l : List UInt8) (most : Int) (h : ¬ most < 0) (hn : (num l).2.2 = 0) (hl : ¬ most < (num l).1) (hs : ((l.length - (num l).2.1 : Nat) : Int) < (num l).1) : txt l most = (0, 0, 110) := by
  rw [txt, if_neg h, if_neg (by simpa using hn), if_neg hl, if_pos hs]
theorem txt_ok (l : List UInt8) (most : Int) (h : ¬ most < 0) (hn : (num l).2.2 = 0) (hl : ¬ most < (num l).1) (hs : ¬ ((l.length - (num l).2.1 : Nat) : Int) < (num l).1) : txt l most = ((num l).2.1, (num l).2.1 + (num l).1.toNat, 0) := by
  rw [txt, if_neg h, if_neg (by simpa using hn), if_neg hl, if_neg hs]

theorem txt_bounds (l : List UInt8) (most : Int) : (txt l most).1 ≤ (txt l most).2.1 ∧ (txt l most).2.1 ≤ l.length := by
  have h1 := num_le l
  have h2 := num_fits l
  unfold txt
  split
  · simp
  · split
    · simp
    · split
      · simp
      · split
        · simp
        · simp only
          omega

end Go.Proofs.YtdjodigimhgklaaGreatDoor

/- The walk of the look whether a text is a file's name. -/
namespace Go.Proofs.YtdjodigimhgklaaGreatDoor
open Go.RowKit

/-- may this byte stand in a file's name? -/
def okc (c : Int) : Bool := (decide (97 ≤ c) && decide (c ≤ 122)) || (decide (48 ≤ c) && decide (c ≤ 57)) || decide (c = 45) || decide (c = 46)
def okTo (l : List UInt8) (k : Nat) : Bool := (List.range k).all fun j => okc (bt l j)
/-- is it a file's name? -/
def nameB (l : List UInt8) : Bool := decide (1 ≤ l.length) && decide (l.length ≤ 32) && okTo l l.length

theorem okTo_succ (l : List UInt8) (k : Nat) : okTo l (k + 1) = (okTo l k && okc (bt l k)) := by simp [okTo, List.range_succ]
theorem okTo_le (l : List UInt8) (k n : Nat) (h : okTo l n = true) (hk : k ≤ n) : okTo l k = true := by
  simp only [okTo, List.all_eq_true, List.mem_range] at h ⊢
  exact fun j hj => h j (by omega)

set_option maxHeartbeats 1000000 in
theorem name_any (s : ByteArray) (w : World) (hs : s.size ≤ maxLen) :
    Calls Tryz.prog 55 #[.string s] w fun e w' => e = .returned (.bool (nameB s.data.toList)) ∧ w' = w := by
  have hs' : s.size ≤ 9223372036854775807 := by unfold maxLen at hs; omega
  have hll : s.data.toList.length = s.size := by simp
  by_cases h1 : s.size < 1
  · have i1 : (s.size : Int) < 1 := by omega
    go_enter Tryz.func55, Tryz.ntmps55
    go_wp2
    go_ret
    refine ⟨?_, rfl⟩
    simp [nameB, show ¬ 1 ≤ s.size by omega]
  · have i1 : ¬ (s.size : Int) < 1 := by omega
    by_cases h2 : 32 < s.size
    · have i2 : (32 : Int) < s.size := by omega
      go_enter Tryz.func55, Tryz.ntmps55
      go_wp2
      go_ret
      refine ⟨?_, rfl⟩
      simp [nameB, show ¬ s.size ≤ 32 by omega]
    · have i2 : ¬ (32 : Int) < s.size := by omega
      go_enter Tryz.func55, Tryz.ntmps55
      go_wp2
      go_loop [15] (fun i => ∃ k : Nat, k ≤ s.size ∧ i = .int .i64 k ∧ Hid (okTo s.data.toList k = true)) (fun i => s.size - (intOf i).toNat)
      case atStart => exact ⟨0, by omega, rfl, rfl⟩
      case round =>
        obtain ⟨k, hk, rfl, hok⟩ := hrel
        by_cases hlt : k < s.size
        · have i3 : (k : Int) < s.size := by omega
          have hbt : bt s.data.toList k = (s[k].toNat : Int) := by
            unfold bt
            congr 2
            simp [List.getD, hlt]
            rfl
          go_wp2
          all_goals first
            | (refine ⟨⟨k + 1, by omega, by simp, ?_⟩, by simp [intOf]; omega⟩
               show okTo s.data.toList (k + 1) = true
               rw [okTo_succ, hok.out, hbt]
               simp [okc]
               omega)
            | (refine ⟨⟨k + 1, by omega, by simp, ?_⟩, by simp [intOf]; omega⟩
               show okTo s.data.toList (k + 1) = true
               rw [okTo_succ, hok.out, hbt]
               unfold okc
               grind)
            | (go_ret
               refine ⟨?_, rfl⟩
               have hno : okc (bt s.data.toList k) = false := by rw [hbt]; unfold okc; grind
               have : nameB s.data.toList = false := by
                 cases hnb : nameB s.data.toList with
                 | false => rfl
                 | true =>
                   simp only [nameB, Bool.and_eq_true, decide_eq_true_eq] at hnb
                   have := okTo_le _ (k + 1) _ hnb.2 (by omega)
                   rw [okTo_succ, hno] at this
                   simp at this
               rw [this]
               rfl)
        · have i3 : ¬ (k : Int) < s.size := by omega
          go_wp2
          go_ret
          refine ⟨?_, rfl⟩
          obtain rfl : k = s.size := by omega
          have := hok.out
          simp [nameB, show 1 ≤ s.size by omega, show s.size ≤ 32 by omega, this]
end Go.Proofs.YtdjodigimhgklaaGreatDoor

/- The kit's contracts on the sorted names of a map, laid at this translation by the kit's own command, in plain words. -/
namespace Go.Proofs.YtdjodigimhgklaaGreatDoor
open Go.RowKit Go.Maps Go.Sort Go.Shelf

def Tryz.keys64_ren : Go.Shelf.Ren := ⟨fun | 7 => 64 | 10 => 102 | n => n, fun | 23 => 83 | 26 => 9 | 3 => 33 | 28 => 124 | 0 => 0 | 27 => 123 | 33 => 106 | 4 => 4 | n => n, fun | n => n⟩
theorem Tryz.keys64 : Go.Proofs.SlLaysZ.n7 Tryz.prog Tryz.keys64_ren := {
  mixed := by kernel_rfl
  f7 := ⟨Tryz.f64.name, by decide, Tryz.func64.trans (congrArg some (by kernel_rfl))⟩
  f10 := ⟨Tryz.f102.name, by decide, Tryz.func102.trans (congrArg some (by kernel_rfl))⟩
  t0 := Tryz.underlying0
  a0 := Tryz.isAgg0
  z0 := Tryz.sizeOf0
  v0 := Tryz.zeroValue0
  t4 := Tryz.underlying4
  a4 := Tryz.isAgg4
  z4 := Tryz.sizeOf4
  v4 := Tryz.zeroValue4
  t23 := Tryz.underlying83
  a23 := Tryz.isAgg83
  z23 := Tryz.sizeOf83
  v23 := Tryz.zeroValue83
  t26 := Tryz.underlying9
  a26 := Tryz.isAgg9
  z26 := Tryz.sizeOf9
  v26 := Tryz.zeroValue9
  t27 := Tryz.underlying123
  a27 := Tryz.isAgg123
  z27 := Tryz.sizeOf123
  v27 := Tryz.zeroValue123
  t28 := Tryz.underlying124
  a28 := Tryz.isAgg124
  z28 := Tryz.sizeOf124
  v28 := Tryz.zeroValue124
  t33 := Tryz.underlying106
  a33 := Tryz.isAgg106
  z33 := Tryz.sizeOf106
  v33 := Tryz.zeroValue106 }
def Tryz.sorted63_ren : Go.Shelf.Ren := ⟨fun | 6 => 63 | 8 => 100 | 9 => 101 | 11 => 135 | 13 => 106 | 12 => 136 | 23 => 145 | 24 => 146 | 14 => 168 | 15 => 169 | 16 => 170 | 17 => 171 | 18 => 172 | 19 => 173 | 20 => 174 | 21 => 175 | 22 => 176 | 25 => 189 | 26 => 178 | 27 => 179 | 28 => 190 | 29 => 191 | 30 => 192 | 31 => 199 | n => n, fun | 26 => 9 | 28 => 124 | 24 => 51 | 0 => 0 | 3 => 3 | 37 => 77 | 48 => 198 | 50 => 22 | 4 => 4 | 40 => 192 | 39 => 191 | 45 => 126 | 5 => 5 | 9 => 9 | 51 => 224 | 55 => 227 | 57 => 238 | 58 => 239 | 33 => 106 | n => n, fun | n => n⟩
theorem Tryz.sorted63 : Go.Proofs.SlLaysZ.n6 Tryz.prog Tryz.sorted63_ren := {
  mixed := by kernel_rfl
  f6 := ⟨Tryz.f63.name, by decide, Tryz.func63.trans (congrArg some (by kernel_rfl))⟩
  f8 := ⟨Tryz.f100.name, by decide, Tryz.func100.trans (congrArg some (by kernel_rfl))⟩
  f11 := ⟨Tryz.f135.name, by decide, Tryz.func135.trans (congrArg some (by kernel_rfl))⟩
  t0 := Tryz.underlying0
  a0 := Tryz.isAgg0
  z0 := Tryz.sizeOf0
  v0 := Tryz.zeroValue0
  t24 := Tryz.underlying51
  a24 := Tryz.isAgg51
  z24 := Tryz.sizeOf51
  v24 := Tryz.zeroValue51
  t26 := Tryz.underlying9
  a26 := Tryz.isAgg9
  z26 := Tryz.sizeOf9
  v26 := Tryz.zeroValue9
  t28 := Tryz.underlying124
  a28 := Tryz.isAgg124
  z28 := Tryz.sizeOf124
  v28 := Tryz.zeroValue124
  i26 := by kernel_rfl }
def Tryz.sort101_ren : Go.Shelf.Ren := ⟨fun | 6 => 101 | 8 => 106 | 9 => 136 | 19 => 145 | 20 => 146 | 21 => 168 | 22 => 169 | 23 => 170 | 24 => 171 | 25 => 172 | 26 => 173 | 27 => 174 | 28 => 175 | 29 => 176 | 36 => 189 | 31 => 178 | 32 => 179 | 37 => 190 | 38 => 191 | 39 => 192 | 41 => 199 | n => n, fun | 27 => 51 | 29 => 9 | 3 => 3 | 32 => 77 | 26 => 51 | 0 => 0 | 44 => 198 | 46 => 22 | 4 => 4 | 36 => 192 | 35 => 191 | 41 => 126 | 5 => 5 | 9 => 9 | 53 => 224 | 57 => 227 | 63 => 238 | 64 => 239 | n => n, fun | n => n⟩
theorem Tryz.sort101 : Go.Proofs.SlLaysM.n6 Tryz.prog Tryz.sort101_ren := {
  mixed := by kernel_rfl
  f6 := ⟨Tryz.f101.name, by decide, Tryz.func101.trans (congrArg some (by kernel_rfl))⟩
  f8 := Tryz.func106.trans (congrArg some (by kernel_rfl))
  f9 := ⟨Tryz.f136.name, by decide, Tryz.func136.trans (congrArg some (by kernel_rfl))⟩
  f19 := Tryz.func145.trans (congrArg some (by kernel_rfl))
  f20 := Tryz.func146.trans (congrArg some (by kernel_rfl))
  f21 := ⟨Tryz.f168.name, by decide, Tryz.func168.trans (congrArg some (by kernel_rfl))⟩
  f22 := ⟨Tryz.f169.name, by decide, Tryz.func169.trans (congrArg some (by kernel_rfl))⟩
  f23 := ⟨Tryz.f170.name, by decide, Tryz.func170.trans (congrArg some (by kernel_rfl))⟩
  f24 := ⟨Tryz.f171.name, by decide, Tryz.func171.trans (congrArg some (by kernel_rfl))⟩
  f25 := ⟨Tryz.f172.name, by decide, Tryz.func172.trans (congrArg some (by kernel_rfl))⟩
  f26 := ⟨Tryz.f173.name, by decide, Tryz.func173.trans (congrArg some (by kernel_rfl))⟩
  f27 := ⟨Tryz.f174.name, by decide, Tryz.func174.trans (congrArg some (by kernel_rfl))⟩
  f28 := ⟨Tryz.f175.name, by decide, Tryz.func175.trans (congrArg some (by kernel_rfl))⟩
  f29 := ⟨Tryz.f176.name, by decide, Tryz.func176.trans (congrArg some (by kernel_rfl))⟩
  f31 := Tryz.func178.trans (congrArg some (by kernel_rfl))
  f32 := Tryz.func179.trans (congrArg some (by kernel_rfl))
  f36 := ⟨Tryz.f189.name, by decide, Tryz.func189.trans (congrArg some (by kernel_rfl))⟩
  f37 := ⟨Tryz.f190.name, by decide, Tryz.func190.trans (congrArg some (by kernel_rfl))⟩
  f38 := ⟨Tryz.f191.name, by decide, Tryz.func191.trans (congrArg some (by kernel_rfl))⟩
  f39 := ⟨Tryz.f192.name, by decide, Tryz.func192.trans (congrArg some (by kernel_rfl))⟩
  f41 := ⟨Tryz.f199.name, by decide, Tryz.func199.trans (congrArg some (by kernel_rfl))⟩
  t0 := Tryz.underlying0
  a0 := Tryz.isAgg0
  z0 := Tryz.sizeOf0
  v0 := Tryz.zeroValue0
  t3 := Tryz.underlying3
  a3 := Tryz.isAgg3
  z3 := Tryz.sizeOf3
  v3 := Tryz.zeroValue3
  t4 := Tryz.underlying4
  a4 := Tryz.isAgg4
  z4 := Tryz.sizeOf4
  v4 := Tryz.zeroValue4
  t5 := Tryz.underlying5
  a5 := Tryz.isAgg5
  z5 := Tryz.sizeOf5
  v5 := Tryz.zeroValue5
  t9 := Tryz.underlying9
  a9 := Tryz.isAgg9
  z9 := Tryz.sizeOf9
  v9 := Tryz.zeroValue9
  t26 := Tryz.underlying51
  a26 := Tryz.isAgg51
  z26 := Tryz.sizeOf51
  v26 := Tryz.zeroValue51
  t27 := Tryz.underlying51
  a27 := Tryz.isAgg51
  z27 := Tryz.sizeOf51
  v27 := Tryz.zeroValue51
  t29 := Tryz.underlying9
  a29 := Tryz.isAgg9
  z29 := Tryz.sizeOf9
  v29 := Tryz.zeroValue9
  t32 := Tryz.underlying77
  a32 := Tryz.isAgg77
  z32 := Tryz.sizeOf77
  v32 := Tryz.zeroValue77
  t35 := Tryz.underlying191
  a35 := Tryz.isAgg191
  z35 := Tryz.sizeOf191
  v35 := Tryz.zeroValue191
  t36 := Tryz.underlying192
  a36 := Tryz.isAgg192
  z36 := Tryz.sizeOf192
  v36 := Tryz.zeroValue192
  t41 := Tryz.underlying126
  a41 := Tryz.isAgg126
  z41 := Tryz.sizeOf126
  v41 := Tryz.zeroValue126
  t44 := Tryz.underlying198
  a44 := Tryz.isAgg198
  z44 := Tryz.sizeOf198
  v44 := Tryz.zeroValue198
  t46 := Tryz.underlying22
  a46 := Tryz.isAgg22
  z46 := Tryz.sizeOf22
  v46 := Tryz.zeroValue22
  t53 := Tryz.underlying224
  a53 := Tryz.isAgg224
  z53 := Tryz.sizeOf224
  v53 := Tryz.zeroValue224
  t57 := Tryz.underlying227
  a57 := Tryz.isAgg227
  z57 := Tryz.sizeOf227
  v57 := Tryz.zeroValue227
  t63 := Tryz.underlying238
  a63 := Tryz.isAgg238
  z63 := Tryz.sizeOf238
  v63 := Tryz.zeroValue238
  t64 := Tryz.underlying239
  a64 := Tryz.isAgg239
  z64 := Tryz.sizeOf239
  v64 := Tryz.zeroValue239 }
theorem Tryz.sorts63 (m : Nat) : AnyZ.SortsIn Tryz.prog Tryz.sorted63_ren Fence.wide m :=
  ⟨fun blk off cap ss W hH hblk hsz => callsIn_wide.2 (AnyM.slices_Sort_string Tryz.sort101 blk off cap ss W hH hblk hsz),
   fun p cap W => callsIn_wide.2 (AnyM.slices_Sort_string_none Tryz.sort101 p cap W)⟩

theorem Tryz.maps_Keys_64 (mb : Option Nat) (W : World) : CallsIn Fence.wide 5 Tryz.prog 64 #[.map mb] W fun e w' => e = .returned (.func (.func 102) #[] #[.pointer (some ⟨W.heap.size, 0, none⟩)]) ∧ w' = W.alloc (.cells #[.map mb] 83) :=
  AnyZ.keys_in Tryz.keys64 Fence.wide 5 trivial rfl mb W

set_option maxHeartbeats 1000000 in
theorem Tryz.slices_Sorted_keys_63_64 {H : Type} (b nn : Nat) (D0 : DataW H) (R : Value → Option (DataW H × List MemPlace)) (w : World) (hown : w.ownsMap Tryz.prog 9 R b nn D0) (hmax : Maps.size D0 ≤ maxLen) (hbytes : Maps.size D0 * 16 ≤ 140737488355328) :
    CallsIn Fence.wide 5 Tryz.prog 63 #[.func (.func 102) #[] #[.pointer (some ⟨w.heap.size, 0, none⟩)]] (w.alloc (.cells #[.map (some b)] 83)) fun e w' => ∃ (v : Value) (ss : List (List UInt8)), e = .returned v ∧ ss.Perm (strKeys D0) ∧
      w'.ownsRow (w.alloc (.cells #[.map (some b)] 83)).heap.size 9 1 v ss.length ((ss.mergeSort (fun x y => decide (x ≤ y))).map encStr) ∧ (v = .slice none 0 0 ↔ ss = []) ∧ Below (w.alloc (.cells #[.map (some b)] 83)).heap.size (w.alloc (.cells #[.map (some b)] 83)) w' := by
  have hbl := hown.lt
  have hseq : SeqGives Fence.wide 2 Tryz.prog 102 #[.pointer (some ⟨w.heap.size, 0, none⟩)] encStr (fun ss => ss.Perm (strKeys D0)) (Maps.size D0) (w.alloc (.cells #[.map (some b)] 83)) :=
    AnyZ.keys_gives (ρ := Tryz.keys64_ren) { Tryz.keys64 with } Fence.wide _ trivial rfl (by omega) w.heap.size b nn D0 _ (by simp) (by simp) (by
      obtain ⟨es, clock, hb, Ft, hs, hD⟩ := hown
      exact ⟨es, clock, (Below.heap_alloc _ _ b hbl).trans hb, Ft, hs, hD⟩)
  exact AnyZ.sorted_in Tryz.sorted63 Fence.wide 5 trivial trivial trivial trivial rfl (by omega) (Tryz.sorts63 _) (enters_of Tryz.func101 (by kernel_rfl) rfl) 102 #[.pointer (some ⟨w.heap.size, 0, none⟩)] trivial (enters_of Tryz.func102 (by kernel_rfl) rfl) _ _ hmax hbytes _ hseq

set_option maxHeartbeats 1000000 in
theorem Tryz.slices_Sorted_keys_nil_63_64 (w : World) :
    CallsIn Fence.wide 5 Tryz.prog 63 #[.func (.func 102) #[] #[.pointer (some ⟨w.heap.size, 0, none⟩)]] (w.alloc (.cells #[.map none] 83)) fun e w' => ∃ (v : Value) (ss : List (List UInt8)), e = .returned v ∧ ss = [] ∧
      w'.ownsRow (w.alloc (.cells #[.map none] 83)).heap.size 9 1 v ss.length ((ss.mergeSort (fun x y => decide (x ≤ y))).map encStr) ∧ (v = .slice none 0 0 ↔ ss = []) ∧ Below (w.alloc (.cells #[.map none] 83)).heap.size (w.alloc (.cells #[.map none] 83)) w' := by
  have hseq : SeqGives Fence.wide 2 Tryz.prog 102 #[.pointer (some ⟨w.heap.size, 0, none⟩)] encStr (fun ss : List (List UInt8) => ss = []) 0 (w.alloc (.cells #[.map none] 83)) :=
    AnyZ.keys_gives_nil (ρ := Tryz.keys64_ren) { Tryz.keys64 with } Fence.wide _ trivial rfl w.heap.size _ (by simp) (by simp)
  exact AnyZ.sorted_in Tryz.sorted63 Fence.wide 5 trivial trivial trivial trivial rfl (by omega) (Tryz.sorts63 _) (enters_of Tryz.func101 (by kernel_rfl) rfl) 102 #[.pointer (some ⟨w.heap.size, 0, none⟩)] trivial (enters_of Tryz.func102 (by kernel_rfl) rfl) _ 0 (Nat.zero_le _) (by omega) _ hseq

end Go.Proofs.YtdjodigimhgklaaGreatDoor

/- Plain facts: a number has one short form; nothing of the program is named here. -/
namespace Go.Proofs.YtdjodigimhgklaaGreatDoor
open Go.RowKit

/-- the number that groups make, the lowest first -/
def val : List UInt8 → Nat
  | [] => 0
  | c :: t => c.toNat % 128 + 128 * val t

/-- groups that are a short form -/
def Canon : List UInt8 → Prop
  | [] => False
  | [c] => c.toNat < 128
  | c :: d :: t => 128 ≤ c.toNat ∧ Canon (d :: t) ∧ 0 < val (d :: t)

theorem byte_low (c : UInt8) : UInt8.ofNat c.toNat = c := by simp
theorem byte_high (c : UInt8) (h : 128 ≤ c.toNat) : UInt8.ofNat (c.toNat % 128 + 128) = c := by
  have := c.toNat_lt
  rw [show c.toNat % 128 + 128 = c.toNat from by omega]
  simp

theorem shortF_val : ∀ (p : List UInt8) (f : Nat), Canon p → p.length ≤ f + 1 → shortF f (val p) = p := by
  intro p
  induction p with
  | nil => intro f h _; exact absurd h (by simp [Canon])
  | cons c t ih =>
    intro f h hl
    cases t with
    | nil =>
      simp only [Canon] at h
      have e : val [c] = c.toNat := by simp only [val]; omega
      rw [e, shortF_low f _ h, byte_low]
    | cons d t =>
      obtain ⟨h1, h2, h3⟩ := h
      simp only [List.length_cons] at hl
      obtain ⟨f', rfl⟩ : ∃ f', f = f' + 1 := ⟨f - 1, by omega⟩
      have e : val (c :: d :: t) = c.toNat % 128 + 128 * val (d :: t) := rfl
      have hm : val (c :: d :: t) % 128 = c.toNat % 128 := by rw [e]; omega
      have hd : val (c :: d :: t) / 128 = val (d :: t) := by rw [e]; omega
      rw [shortF_high f' _ (by rw [e]; omega), hm, hd, byte_high c h1, ih f' h2 (by simp only [List.length_cons]; omega)]

theorem drop_bt (l : List UInt8) (i : Nat) (h : i < l.length) : ∃ c : UInt8, l.drop i = c :: l.drop (i + 1) ∧ bt l i = (c.toNat : Int) := by
  refine ⟨l[i], List.drop_eq_getElem_cons h, ?_⟩
  simp [bt, h]

theorem numFrom_canon (l : List UInt8) : ∀ f i x k, i ≤ 9 → f + i = l.length → numFrom l f i = (x, k, 0) →
    ∃ p, l.drop i = p ++ l.drop k ∧ p.length + i = k ∧ Canon p ∧ (0 < i → 0 < val p) ∧ x = accTo l i + 128 ^ i * (val p : Int) ∧ k ≤ 10 := by
  intro f
  induction f with
  | zero => intro i x k _ _ h; simp [numFrom] at h
  | succ f ih =>
    intro i x k hi hf h
    obtain ⟨c, hd, hc⟩ := drop_bt l i (by omega)
    rw [numFrom] at h
    split at h
    · simp at h
    · rename_i hb
      have hb' : brokenB i (bt l i) = false := by simpa using hb
      have hcl := c.toNat_lt
      split at h
      · rename_i h8
        simp only [Prod.mk.injEq, and_true] at h
        obtain ⟨rfl, rfl⟩ := h
        refine ⟨[c], by rw [hd]; rfl, by simp; omega, by simp only [Canon]; omega, fun h0 => ?_, ?_, by omega⟩
        · simp only [brokenB, hc] at hb'
          simp only [val]
          have : ¬ (c.toNat : Int) = 0 := by
            intro e0
            simp [e0] at hb'
            omega
          omega
        · rw [accTo_succ, hc]
          simp only [val]
          have : (c.toNat : Int) % 128 * 128 ^ i = 128 ^ i * ((c.toNat % 128 + 128 * 0 : Nat) : Int) := by
            rw [Int.mul_comm]
            congr 1
          omega
      · rename_i h8
        have hi9 : i + 1 ≤ 9 := by
          by_cases h9 : i = 9
          · subst h9
            simp [brokenB] at hb'
            omega
          · omega
        obtain ⟨p, h1, h2, h3, h4, h5, h6⟩ := ih (i + 1) x k hi9 (by omega) h
        have hv := h4 (by omega)
        refine ⟨c :: p, by rw [hd, h1]; rfl, by simp; omega, ?_, fun _ => by simp only [val]; omega, ?_, h6⟩
        · cases p with
          | nil => exact absurd h3 (by simp [Canon])
          | cons d t => exact ⟨by omega, h3, hv⟩
        · rw [h5, accTo_succ, hc, Int.pow_succ]
          simp only [val]
          have e1 : ((c.toNat % 128 + 128 * val p : Nat) : Int) = (c.toNat : Int) % 128 + 128 * (val p : Int) := by omega
          rw [e1, Int.mul_add, Int.mul_comm ((c.toNat : Int) % 128), Int.mul_assoc]
          omega

/-- what a reading of a short form answers is what writing it gives -/
theorem num_back (l : List UInt8) (x : Int) (k : Nat) (h : num l = (x, k, 0)) : ∃ X : Nat, x = (X : Int) ∧ short X = l.take k ∧ 1 ≤ k ∧ k ≤ 10 ∧ k ≤ l.length ∧ X < 18446744073709551616 := by
  have hn := h
  unfold num at hn
  obtain ⟨p, h1, h2, h3, _, h5, h6⟩ := numFrom_canon l l.length 0 x k (by omega) (by omega) hn
  have hf := num_fits l
  have hle := num_le l
  have hpos := num_pos l (by rw [h])
  rw [h] at hf hle hpos
  simp only at hf hle hpos
  refine ⟨val p, by rw [h5]; simp [accTo], ?_, hpos, h6, hle, ?_⟩
  · have hp : l.take k = p := by
      have : l = p ++ l.drop k := by simpa using h1
      rw [this, List.take_append_of_le_length (by omega)]
      exact List.take_of_length_le (by omega)
    rw [hp]
    exact shortF_val p 9 h3 (by omega)
  · have : x = (val p : Int) := by rw [h5]; simp [accTo]
    omega

end Go.Proofs.YtdjodigimhgklaaGreatDoor

/- Plain: what a read of each kind makes of the bytes that are left and of the error: the rest, the error, the number told, the bytes told. -/
namespace Go.Proofs.YtdjodigimhgklaaGreatDoor
open Go.RowKit

structure Out where
  rest : List UInt8
  err : Int
  num : Int
  bytes : List UInt8

def Out.no (l : List UInt8) (e : Int) : Out := ⟨l, e, 0, []⟩

def outB (l : List UInt8) : Out := if l.length = 0 then .no l 110 else ⟨l.drop 1, 0, bt l 0, []⟩
def outU (l : List UInt8) : Out := if (num l).2.2 ≠ 0 then .no l (num l).2.2 else ⟨l.drop (num l).2.1, 0, (num l).1, []⟩
def outW (l : List UInt8) : Out := if l.length < 8 then .no l 110 else ⟨l.drop 8, 0, wideVal l 8, []⟩
def outT (l : List UInt8) (m : Int) : Out := if (txt l m).2.2 ≠ 0 then .no l (txt l m).2.2 else ⟨l.drop (txt l m).2.1, 0, 0, (l.take (txt l m).2.1).drop (txt l m).1⟩
def outR (l : List UInt8) (m : Int) : Out := if m < 0 then .no l 2 else if (l.length : Int) < m then .no l 110 else ⟨l.drop m.toNat, 0, 0, l.take m.toNat⟩

/-- a read of kind k, with the number m, of a reader whose error is e -/
def outOf (k m : Int) (l : List UInt8) (e : Int) : Out :=
  if e ≠ 0 then .no l e
  else if k = 0 then outB l else if k = 1 then outU l else if k = 2 then outW l else if k = 3 then outT l m else outR l m

theorem wideVal_take (l : List UInt8) (j : Nat) : ∀ k, k ≤ j → wideVal (l.take j) k = wideVal l k := by
  intro k
  induction k with
  | zero => intro _; rfl
  | succ k ih => intro h; rw [wideVal_succ, wideVal_succ, ih (by omega), bt_take _ _ _ (by omega)]

end Go.Proofs.YtdjodigimhgklaaGreatDoor
