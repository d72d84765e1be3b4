import Derived.WalkKit
import Derived.Test.YtncagdfbgpdhfaaGreatProg
import Derived.Outline
import Derived.BigQuiet
import Derived.Deep.QuietTactic
import Derived.Deep.RegionHeld3
/- Plain facts on bytes and on rows of cells that hold them; nothing of the program is named here. -/
namespace Go.Proofs.YtncagdfbgpdhfaaGreat
open Go.RowKit

/-- byte i of a list, as a number -/
def bt (l : List UInt8) (i : Nat) : Int := ((l.getD i 0).toNat : Int)
theorem bt_lo (l : List UInt8) (i : Nat) : 0 ≤ bt l i := by unfold bt; omega
theorem bt_hi (l : List UInt8) (i : Nat) : bt l i ≤ 255 := by
  unfold bt
  have := (l.getD i 0).toNat_lt
  omega
theorem bt_drop (l : List UInt8) (k i : Nat) : bt (l.drop k) i = bt l (k + i) := by simp [bt, List.getD]
theorem bt_take (l : List UInt8) (k i : Nat) (h : i < k) : bt (l.take k) i = bt l i := by simp [bt, List.getD, h]

/-- a slice value of n bytes that leads to the list l -/
def Bytes (w : World) (a : Option Addr) (n : Nat) (l : List UInt8) : Prop :=
  l.length = n ∧ (0 < n → ∃ b off, a = some ⟨b, off, none⟩ ∧ ∀ i, i < n → w.cell? ⟨b, off + i, none⟩ = some (.int .u8 (bt l i)))

theorem Bytes.take {w : World} {a : Option Addr} {n : Nat} {l : List UInt8} (h : Bytes w a n l) (k : Nat) (hk : k ≤ n) : Bytes w a k (l.take k) := by
  refine ⟨by have := h.1; simp; omega, fun hp => ?_⟩
  obtain ⟨b, off, rfl, hc⟩ := h.2 (by omega)
  exact ⟨b, off, rfl, fun i hi => by rw [bt_take _ _ _ hi]; exact hc i (by omega)⟩

/-- the cells of a list of bytes -/
def cellsOf (l : List UInt8) : List Value := l.map fun c => Value.int .u8 (c.toNat : Int)
theorem cellsOf_length (l : List UInt8) : (cellsOf l).length = l.length := by simp [cellsOf]
theorem cellsOf_get (l : List UInt8) (i : Nat) (h : i < l.length) : (cellsOf l)[i]? = some (.int .u8 (bt l i)) := by
  simp [cellsOf, bt, h]
theorem cellsOf_one (l : List UInt8) : ∀ u ∈ cellsOf l, u.oneCell' = true := by
  intro u hu
  obtain ⟨_, _, rfl⟩ := List.mem_map.1 hu
  rfl
theorem cellsOf_append (l m : List UInt8) : cellsOf (l ++ m) = cellsOf l ++ cellsOf m := by simp [cellsOf]

end Go.Proofs.YtncagdfbgpdhfaaGreat

/- What a Reader of the program is in memory, and the walks of its small inner methods. -/
namespace Go.Proofs.YtncagdfbgpdhfaaGreat
open Go.RowKit

/-- the Reader in block r reads the bytes l, which lie in block g; p of them are read, its error is e -/
structure Rd (w : World) (r g p : Nat) (e : Int) (l : List UInt8) : Prop where
  c0 : w.cell? ⟨r, 0, none⟩ = some (.int .i64 p)
  c1 : w.cell? ⟨r, 1, none⟩ = some (.int .i64 e)
  c2 : w.cell? ⟨r, 2, none⟩ = some (.slice (some ⟨g, 0, none⟩) l.length l.length)
  f0 : w.frozen? ⟨r, 0, none⟩ = false
  f1 : w.frozen? ⟨r, 1, none⟩ = false
  hp : p ≤ l.length
  hl : l.length ≤ maxLen
  ne : r ≠ g
  row : ∀ i, i < l.length → w.cell? ⟨g, i, none⟩ = some (.int .u8 (bt l i))

theorem grownBy_drewN (w : World) (k : Nat) (row : Option Nat) : w.grownBy (w.drewN k) row := by
  exact ⟨rfl, rfl, rfl, Nat.le_refl _, fun _ _ _ => rfl⟩

theorem grownBy_trans {a b c : World} {row : Option Nat} (h : a.grownBy b row) (k : b.grownBy c row) : a.grownBy c row :=
  ⟨k.os.trans h.os, k.tape.trans h.tape, k.output.trans h.output, Nat.le_trans h.size k.size, fun i hi hr => (k.block i (Nat.lt_of_lt_of_le hi h.size) hr).trans (h.block i hi hr)⟩

theorem grownBy_setCell (w : World) (r o : Nat) (v : Value) : w.grownBy (w.setCell ⟨r, o, none⟩ v) (some r) :=
  ⟨rfl, rfl, rfl, by simp [World.setCell], fun k _ hk => Below.heap_setCell _ _ _ _ (fun e => hk (by rw [e]))⟩

theorem grownBy_wide {a b : World} {row : Option Nat} (h : a.grownBy b none) : a.grownBy b row :=
  ⟨h.os, h.tape, h.output, h.size, fun i hi _ => h.block i hi (by simp)⟩

theorem Bytes.drewN {w : World} {a : Option Addr} {n : Nat} {l : List UInt8} (h : Bytes w a n l) (k : Nat) : Bytes (w.drewN k) a n l := by
  refine ⟨h.1, fun hp => ?_⟩
  obtain ⟨b, off, rfl, hc⟩ := h.2 hp
  exact ⟨b, off, rfl, fun i hi => by simpa using hc i hi⟩

/-- bytes stay what they are where another block alone is written -/
theorem Bytes.kept {w w' : World} {a : Option Addr} {n : Nat} {l : List UInt8} {row : Option Nat} (h : Bytes w a n l) (hg : w.grownBy w' row) (hne : ∀ x, a = some x → row ≠ some x.block) : Bytes w' a n l := by
  refine ⟨h.1, fun hp => ?_⟩
  obtain ⟨b, off, rfl, hc⟩ := h.2 hp
  exact ⟨b, off, rfl, fun i hi => hg.cell (hc i hi) (fun e => hne _ rfl e.symm)⟩

theorem Rd.setAt {w : World} {r g p : Nat} {e : Int} {l : List UInt8} (h : Rd w r g p e l) (q : Nat) (hq : q ≤ l.length) : Rd (w.setCell ⟨r, 0, none⟩ (.int .i64 q)) r g q e l where
  c0 := World.cell?_setCell_same _ _ _ h.c0
  c1 := by rw [World.cell?_setCell_other _ _ _ _ (by simp)]; exact h.c1
  c2 := by rw [World.cell?_setCell_other _ _ _ _ (by simp)]; exact h.c2
  f0 := by rw [World.frozen?_setCell]; exact h.f0
  f1 := by rw [World.frozen?_setCell]; exact h.f1
  hp := hq
  hl := h.hl
  ne := h.ne
  row := fun i hi => by rw [World.cell?_setCell_other _ _ _ _ (by simp [h.ne])]; exact h.row i hi

theorem Rd.setErr {w : World} {r g p : Nat} {e : Int} {l : List UInt8} (h : Rd w r g p e l) (x : Int) : Rd (w.setCell ⟨r, 1, none⟩ (.int .i64 x)) r g p x l where
  c0 := by rw [World.cell?_setCell_other _ _ _ _ (by simp)]; exact h.c0
  c1 := World.cell?_setCell_same _ _ _ h.c1
  c2 := by rw [World.cell?_setCell_other _ _ _ _ (by simp)]; exact h.c2
  f0 := by rw [World.frozen?_setCell]; exact h.f0
  f1 := by rw [World.frozen?_setCell]; exact h.f1
  hp := h.hp
  hl := h.hl
  ne := h.ne
  row := fun i hi => by rw [World.cell?_setCell_other _ _ _ _ (by simp [h.ne])]; exact h.row i hi

theorem Rd.drewN {w : World} {r g p : Nat} {e : Int} {l : List UInt8} (h : Rd w r g p e l) (k : Nat) : Rd (w.drewN k) r g p e l :=
  ⟨h.c0, h.c1, h.c2, h.f0, h.f1, h.hp, h.hl, h.ne, h.row⟩

theorem Rd.kept {w w' : World} {r g p : Nat} {e : Int} {l : List UInt8} {row : Option Nat} (h : Rd w r g p e l) (hg : w.grownBy w' row) (h1 : row ≠ some r) (h2 : row ≠ some g) : Rd w' r g p e l where
  c0 := hg.cell h.c0 (fun e => h1 e.symm)
  c1 := hg.cell h.c1 (fun e => h1 e.symm)
  c2 := hg.cell h.c2 (fun e => h1 e.symm)
  f0 := by rw [World.frozen?_of_block (hg.block r (World.block_lt_of_cell? w ⟨r, 0, none⟩ h.c0) (fun e => h1 e.symm))]; exact h.f0
  f1 := by rw [World.frozen?_of_block (hg.block r (World.block_lt_of_cell? w ⟨r, 0, none⟩ h.c0) (fun e => h1 e.symm))]; exact h.f1
  hp := h.hp
  hl := h.hl
  ne := h.ne
  row := fun i hi => hg.cell (h.row i hi) (fun e => h2 e.symm)

theorem stuck_no (w : World) (r : Nat) (h : w.cell? ⟨r, 1, none⟩ = some (.int .i64 0)) : Calls Tryz.prog 120 #[.pointer (some ⟨r, 0, none⟩)] w fun e w' => e = .returned (.bool false) ∧ w' = w := by
  go_enter Tryz.func120, Tryz.ntmps120
  go_wp2
  go_ret
  exact ⟨rfl, rfl⟩

theorem stuck_yes (w : World) (r : Nat) (x : Int) (h : w.cell? ⟨r, 1, none⟩ = some (.int .i64 x)) (hx : (x != 0) = true) : Calls Tryz.prog 120 #[.pointer (some ⟨r, 0, none⟩)] w fun e w' => e = .returned (.bool true) ∧ w' = w := by
  go_enter Tryz.func120, Tryz.ntmps120
  go_wp2
  go_ret
  exact ⟨rfl, rfl⟩

theorem settle_no (w : World) (r : Nat) (n x : Int) (y : Value) (h : w.cell? ⟨r, 1, none⟩ = some y) (hf : w.frozen? ⟨r, 1, none⟩ = false) (hx : (x != 0) = true) :
    Calls Tryz.prog 122 #[.pointer (some ⟨r, 0, none⟩), .int .i64 n, .int .i64 x] w fun e w' => e = .returned (.bool false) ∧ w' = w.setCell ⟨r, 1, none⟩ (.int .i64 x) := by
  go_enter Tryz.func122, Tryz.ntmps122
  go_wp2
  go_ret
  exact ⟨rfl, rfl⟩

theorem settle_yes (w : World) (r : Nat) (p n : Int) (h : w.cell? ⟨r, 0, none⟩ = some (.int .i64 p)) (hf : w.frozen? ⟨r, 0, none⟩ = false) (h0 : 0 ≤ p) (h1 : 0 ≤ n) (hs : p + n ≤ 9223372036854775807) :
    Calls Tryz.prog 122 #[.pointer (some ⟨r, 0, none⟩), .int .i64 n, .int .i64 0] w fun e w' => e = .returned (.bool true) ∧ w' = w.setCell ⟨r, 0, none⟩ (.int .i64 (p + n)) := by
  go_enter Tryz.func122, Tryz.ntmps122
  go_wp2
  go_ret
  exact ⟨rfl, rfl⟩

theorem rest_in (w : World) (r g p n : Nat) (h0 : w.cell? ⟨r, 0, none⟩ = some (.int .i64 p)) (h2 : w.cell? ⟨r, 2, none⟩ = some (.slice (some ⟨g, 0, none⟩) n n)) (hp : p < n) :
    Calls Tryz.prog 119 #[.pointer (some ⟨r, 0, none⟩)] w fun e w' => e = .returned (.slice (some ⟨g, p, none⟩) (n - p) (n - p)) ∧ ∃ k, w' = w.drewN k := by
  have i0 : (0 : Int) ≤ (p : Int) := by omega
  have i1 : (p : Int) ≤ (n : Int) := by omega
  have i2 : ¬ n = p := by omega
  go_enter Tryz.func119, Tryz.ntmps119
  go_wp2
  go_quiet (fail)
  go_wp2
  go_ret
  exact ⟨rfl, _, rfl⟩

theorem rest_end (w : World) (r g n : Nat) (h0 : w.cell? ⟨r, 0, none⟩ = some (.int .i64 n)) (h2 : w.cell? ⟨r, 2, none⟩ = some (.slice (some ⟨g, 0, none⟩) n n)) :
    Calls Tryz.prog 119 #[.pointer (some ⟨r, 0, none⟩)] w fun e w' => e = .returned (.slice (some ⟨g, 0, none⟩) 0 0) ∧ ∃ k, w' = w.drewN k := by
  have i0 : (0 : Int) ≤ (n : Int) := by omega
  go_enter Tryz.func119, Tryz.ntmps119
  go_wp2
  go_quiet (fail)
  go_wp2
  go_ret
  exact ⟨rfl, _, rfl⟩

theorem rest_any (w : World) (r g p m : Nat) (e : Int) (l : List UInt8) (h : Rd w r g p e l) (hm : l.length = p + m) :
    Calls Tryz.prog 119 #[.pointer (some ⟨r, 0, none⟩)] w fun e w' => ∃ q k, e = .returned (.slice (some ⟨g, q, none⟩) m m) ∧ Bytes w (some ⟨g, q, none⟩) m (l.drop p) ∧ w' = w.drewN k := by
  by_cases hp : p < l.length
  · have e0 : l.length - p = m := by omega
    refine (rest_in w r g p l.length h.c0 h.c2 hp).mono fun e w' ⟨he, k, hw⟩ => ⟨p, k, by rw [← e0]; exact he, ⟨by simp; omega, fun _ => ⟨g, p, rfl, fun i hi => ?_⟩⟩, hw⟩
    rw [bt_drop]
    exact h.row (p + i) (by omega)
  · have hpe : p = l.length := by have := h.hp; omega
    obtain rfl : m = 0 := by omega
    exact (rest_end w r g l.length (by rw [← hpe]; exact h.c0) h.c2).mono fun e w' ⟨he, k, hw⟩ => ⟨0, k, he, ⟨by simp; omega, fun h0 => by omega⟩, hw⟩

theorem take_yes (w : World) (r g p m n : Nat) (l : List UInt8) (h : Rd w r g p 0 l) (hm : l.length = p + m) (hn : n ≤ m) :
    Calls Tryz.prog 123 #[.pointer (some ⟨r, 0, none⟩), .int .i64 n] w fun e w' => ∃ a c, e = .returned (.tuple #[.slice a n c, .bool true]) ∧ Bytes w' a n ((l.drop p).take n) ∧ Rd w' r g (p + n) 0 l ∧ w.grownBy w' (some r) := by
  have hx := h.hl
  unfold maxLen at hx
  have hpm : p + m ≤ 9223372036854775807 := by omega
  have h0 := h.c0
  have f0 := h.f0
  have i0 : (0 : Int) ≤ (n : Int) := by omega
  have i1 : (n : Int) ≤ (m : Int) := by omega
  have i2 : decide ((n : Int) < 0) = false := by simp
  have i3 : decide (m < n) = false := by simp; omega
  have Hm : Hid (l.length = p + m) := hm
  clear hx hm
  go_enter Tryz.func123, Tryz.ntmps123
  go_wp2_with fail
  refine (stuck_no w r h.c1).mono ?_
  rintro e w' ⟨rfl, rfl⟩
  go_wp2_with fail
  refine (rest_any _ r g p m 0 l h Hm.out).mono ?_
  rintro e w1 ⟨q, k, rfl, hb, rfl⟩
  go_wp2_with fail
  go_region_held3 (fun _ => True) (exact trivial)
    (first | (go_at_call 122; refine (settle_yes _ r p n ?_ ?_ ?_ ?_ ?_).mono ?_; (simp [*]); (simp [*]); (omega); (omega); (omega); rintro e w2 ⟨rfl, rfl⟩))
  go_wp2
  go_ret2
  refine ⟨_, _, rfl, ?_, ?_, ?_⟩
  · exact ((hb.take n (by omega)).drewN _).kept (grownBy_setCell _ _ _ _) (by simp [h.ne])
  · exact (h.drewN _).setAt (p + n) (by have := Hm.out; omega)
  · exact grownBy_trans (grownBy_drewN _ _ _) (grownBy_setCell _ _ _ _)

theorem take_stuck (w : World) (r g p : Nat) (x n : Int) (l : List UInt8) (h : Rd w r g p x l) (hx : (x != 0) = true) :
    Calls Tryz.prog 123 #[.pointer (some ⟨r, 0, none⟩), .int .i64 n] w fun e w' => e = .returned (.tuple #[.slice none 0 0, .bool false]) ∧ w' = w := by
  go_enter Tryz.func123, Tryz.ntmps123
  go_wp2_with fail
  refine (stuck_yes w r x h.c1 hx).mono ?_
  rintro e w' ⟨rfl, rfl⟩
  go_wp2
  go_ret2
  exact ⟨rfl, rfl⟩

theorem take_short (w : World) (r g p m : Nat) (n : Int) (l : List UInt8) (h : Rd w r g p 0 l) (hm : l.length = p + m) (hn : (m : Int) < n) :
    Calls Tryz.prog 123 #[.pointer (some ⟨r, 0, none⟩), .int .i64 n] w fun e w' => e = .returned (.tuple #[.slice none 0 0, .bool false]) ∧ Rd w' r g p 110 l ∧ w.grownBy w' (some r) := by
  have Hm : Hid (l.length = p + m) := hm
  have i2 : decide (n < 0) = false := by simp; omega
  have i3 : decide ((m : Int) < n) = true := by simpa using hn
  clear hm
  go_enter Tryz.func123, Tryz.ntmps123
  go_wp2_with fail
  refine (stuck_no w r h.c1).mono ?_
  rintro e w' ⟨rfl, rfl⟩
  go_wp2_with fail
  refine (rest_any _ r g p m 0 l h Hm.out).mono ?_
  rintro e w1 ⟨q, k, rfl, hb, rfl⟩
  go_wp2_with fail
  refine (settle_no _ r 0 110 _ (h.drewN k).c1 (h.drewN k).f1 rfl).mono ?_
  rintro e w2 ⟨rfl, rfl⟩
  go_wp2
  go_ret2
  exact ⟨rfl, (h.drewN k).setErr 110, grownBy_trans (grownBy_drewN _ _ _) (grownBy_setCell _ _ _ _)⟩

end Go.Proofs.YtncagdfbgpdhfaaGreat

/- Plain facts on numbers in groups of seven bits; nothing of the program is named here. -/
namespace Go.Proofs.YtncagdfbgpdhfaaGreat
open Go.RowKit

/-- the number that the first k groups make -/
def accTo (l : List UInt8) : Nat → Int
  | 0 => 0
  | k + 1 => accTo l k + (bt l k % 128) * 128 ^ k
theorem accTo_succ (l : List UInt8) (k : Nat) : accTo l (k + 1) = accTo l k + (bt l k % 128) * 128 ^ k := rfl
theorem accTo_lo (l : List UInt8) (k : Nat) : 0 ≤ accTo l k := by
  induction k with
  | zero => simp [accTo]
  | succ k ih =>
    have h1 : (0 : Int) ≤ bt l k % 128 := by omega
    have h2 : (0 : Int) ≤ 128 ^ k := Int.pow_nonneg (by omega)
    have := Int.mul_nonneg h1 h2
    simp only [accTo]; omega
theorem accTo_hi (l : List UInt8) (k : Nat) : accTo l k < 128 ^ k := by
  induction k with
  | zero => simp [accTo]
  | succ k ih =>
    have h1 : bt l k % 128 ≤ 127 := by omega
    have h2 : (0 : Int) ≤ 128 ^ k := Int.pow_nonneg (by omega)
    have := Int.mul_le_mul_of_nonneg_right h1 h2
    simp only [accTo, Int.pow_succ]; omega

/-- byte c at place i cannot be of a short form -/
def brokenB (i : Nat) (c : Int) : Bool := (i == 9 && decide (1 < c)) || (decide (0 < i) && c == 0)

def numFrom (l : List UInt8) : Nat → Nat → Int × Nat × Int
  | 0, _ => (0, 0, 110)
  | f + 1, i => if brokenB i (bt l i) then (0, 0, 8) else if bt l i < 128 then (accTo l (i + 1), i + 1, 0) else numFrom l f (i + 1)
def num (l : List UInt8) : Int × Nat × Int := numFrom l l.length 0

theorem andNot128 (c : Int) (h0 : 0 ≤ c) (h1 : c ≤ 255) : bits .andNot .u8 c 128 = c % 128 := by
  have key : ∀ n : Fin 256, bits .andNot .u8 ((n.val : Nat) : Int) 128 = ((n.val : Nat) : Int) % 128 := by decide +kernel
  have h := key ⟨c.toNat, by omega⟩
  simpa [Int.toNat_of_nonneg h0] using h

theorem pow128 (k : Nat) : (128 : Int) ^ k = 2 ^ (7 * k) := by
  induction k with
  | zero => rfl
  | succ k ih => rw [Int.pow_succ, ih, show 7 * (k + 1) = 7 * k + 7 from by omega, Int.pow_add]; rfl

theorem pow128_le (k m : Nat) (h : k ≤ m) : (128 : Int) ^ k ≤ 128 ^ m := by
  have hn : (128 : Nat) ^ k ≤ 128 ^ m := Nat.pow_le_pow_right (by omega) h
  have e : ∀ j : Nat, (128 : Int) ^ j = ((128 ^ j : Nat) : Int) := by
    intro j
    simp
  rw [e, e]
  exact Int.ofNat_le.2 hn
theorem pow128_9 (k : Nat) (h : k ≤ 9) : (128 : Int) ^ k ≤ 9223372036854775808 := by
  have h9 : (128 : Int) ^ 9 = 9223372036854775808 := by decide
  rw [← h9]
  exact pow128_le k 9 h
theorem pow128_8 (k : Nat) (h : k ≤ 8) : (128 : Int) ^ k ≤ 72057594037927936 := by
  have h9 : (128 : Int) ^ 8 = 72057594037927936 := by decide
  rw [← h9]
  exact pow128_le k 8 h

theorem wraps64 (n : Int) (h₀ : 0 ≤ n) (h₁ : n < 2 ^ 64) : IntKind.u64.wrap n = n := by rw [IntKind.wrap_u64]; omega

/-- the group c at place k, laid where it belongs, fits 64 bits -/
theorem group_fits (c : Int) (k : Nat) (h0 : 0 ≤ c) (hk : k ≤ 9) (h9 : k = 9 → c ≤ 1) : 0 ≤ c % 128 * 128 ^ k ∧ c % 128 * 128 ^ k ≤ 9223372036854775808 := by
  have hp : (0 : Int) ≤ 128 ^ k := Int.pow_nonneg (by omega)
  have hc : (0 : Int) ≤ c % 128 := by omega
  refine ⟨Int.mul_nonneg hc hp, ?_⟩
  by_cases hk9 : k = 9
  · subst hk9
    have e : (128 : Int) ^ 9 = 9223372036854775808 := by decide
    have := h9 rfl
    rw [e]; omega
  · have h1 := pow128_8 k (by omega)
    have h2 : c % 128 ≤ 127 := by omega
    have := Int.mul_le_mul h2 h1 hp (by omega)
    omega

theorem or_comm64 (a b : Int) : bits .or .u64 a b = bits .or .u64 b a := by simp only [bits, BitVec.or_comm]

theorem or_step (l : List UInt8) (c : Int) (k : Nat) (h0 : 0 ≤ c) (h1 : c ≤ 255) (hk : k ≤ 9) (h9 : k = 9 → c ≤ 1) :
    bits BinOp.or IntKind.u64 (accTo l k) (IntKind.u64.wrap (IntKind.u64.wrap (bits BinOp.andNot IntKind.u8 c 128) * 2 ^ (7 * k))) = accTo l k + c % 128 * 128 ^ k := by
  have hf := group_fits c k h0 hk h9
  have a0 := accTo_lo l k
  have a1 := accTo_hi l k
  have p9 := pow128_9 k hk
  rw [andNot128 c h0 h1, wraps64 (c % 128) (by omega) (by omega), ← pow128, wraps64 _ hf.1 (by omega), or_comm64,
    bits_join .u64 64 (by decide) wraps64 (7 * k) (c % 128 * 128 ^ k) (accTo l k) hf.1 (by rw [← pow128]; exact Int.mul_emod_left _ _) (by omega) a0 (by rw [← pow128]; exact a1) (by omega)]
  omega

theorem add_step (l : List UInt8) (c : Int) (k : Nat) (h0 : 0 ≤ c) (hk : k ≤ 9) (h9 : k = 9 → c ≤ 1) :
    0 ≤ accTo l k + c % 128 * 128 ^ k ∧ accTo l k + c % 128 * 128 ^ k ≤ 18446744073709551615 := by
  have hf := group_fits c k h0 hk h9
  have a0 := accTo_lo l k
  have a1 := accTo_hi l k
  have p9 := pow128_9 k hk
  omega

theorem num_broken {l : List UInt8} {n k : Nat} (h : num l = numFrom l (n - k) k) (hlt : k < n) (hb : brokenB k (bt l k) = true) : num l = (0, 0, 8) := by
  rw [h, show n - k = (n - k - 1) + 1 from by omega, numFrom, if_pos hb]
theorem num_last {l : List UInt8} {n k : Nat} (h : num l = numFrom l (n - k) k) (hlt : k < n) (hb : brokenB k (bt l k) = false) (h8 : bt l k < 128) : num l = (accTo l (k + 1), k + 1, 0) := by
  rw [h, show n - k = (n - k - 1) + 1 from by omega, numFrom, if_neg (by simp [hb]), if_pos h8]
theorem num_next {l : List UInt8} {n k : Nat} (h : num l = numFrom l (n - k) k) (hlt : k < n) (hb : brokenB k (bt l k) = false) (h8 : ¬ bt l k < 128) : num l = numFrom l (n - (k + 1)) (k + 1) := by
  rw [h, show n - k = (n - (k + 1)) + 1 from by omega, numFrom, if_neg (by simp [hb]), if_neg h8]
theorem num_short {l : List UInt8} {n k : Nat} (h : num l = numFrom l (n - k) k) (hlt : ¬ k < n) : num l = (0, 0, 110) := by
  rw [h, show n - k = 0 from by omega, numFrom]

end Go.Proofs.YtncagdfbgpdhfaaGreat

/- The walk of the program's reading of a short form. -/
namespace Go.Proofs.YtncagdfbgpdhfaaGreat
open Go.RowKit

theorem ret3_of {p : Int × Nat × Int} {x : Int} {y : Int} {z : Int} (h : p = (x, y.toNat, z)) (h0 : 0 ≤ y) :
    Ending.returned (.tuple #[.int .u64 x, .int .i64 y, .int .i64 z]) = .returned (.tuple #[.int .u64 p.1, .int .i64 p.2.1, .int .i64 p.2.2]) := by
  rw [h]
  simp [Int.toNat_of_nonneg h0]

set_option maxHeartbeats 1000000 in
theorem shortForm_any (a : Option Addr) (n cap : Nat) (l : List UInt8) (w : World) (hb : Bytes w a n l) (hm : n ≤ maxLen) :
    Calls Tryz.prog 155 #[.slice a n cap] w fun e w' => e = .returned (.tuple #[.int .u64 (num l).1, .int .i64 (num l).2.1, .int .i64 (num l).2.2]) ∧ w' = w := by
  unfold maxLen at hm
  obtain ⟨hl, hc⟩ := hb
  have HN : Hid (num l = numFrom l (n - 0) 0) := by show num l = _; unfold num; rw [hl]; rfl
  go_enter Tryz.func155, Tryz.ntmps155
  go_wp2
  go_loop [5, 10] (fun x i => ∃ k : Nat, k ≤ n ∧ k ≤ 9 ∧ i = .int .i64 k ∧ x = .int .u64 (accTo l k) ∧ Hid (num l = numFrom l (n - k) k)) (fun _ i => n - (intOf i).toNat)
  case atStart => exact ⟨0, Nat.zero_le _, by omega, rfl, rfl, HN⟩
  case round =>
    clear HN
    obtain ⟨k, hk, hk9, rfl, rfl, HN⟩ := hrel
    by_cases hlt : k < n
    · obtain ⟨b, off, rfl, hcell⟩ := hc (by omega)
      have hck := hcell k hlt
      have b0 := bt_lo l k
      have b1 := bt_hi l k
      have h0 := accTo_lo l k
      clear hcell hc hl
      have HS : Hid (k ≤ 9 → (k = 9 → bt l k ≤ 1) → bits BinOp.or IntKind.u64 (accTo l k) (IntKind.u64.wrap (IntKind.u64.wrap (bits BinOp.andNot IntKind.u8 (bt l k) 128) * 2 ^ (7 * k))) = accTo l (k + 1)) :=
        fun h1 h2 => by rw [or_step l (bt l k) k b0 b1 h1 h2, accTo_succ]
      have NB : Hid (brokenB k (bt l k) = true → num l = (0, 0, 8)) := num_broken HN.out hlt
      have NL : Hid (brokenB k (bt l k) = false → bt l k < 128 → num l = (accTo l (k + 1), k + 1, 0)) := num_last HN.out hlt
      have NN : Hid (brokenB k (bt l k) = false → ¬ bt l k < 128 → num l = numFrom l (n - (k + 1)) (k + 1)) := num_next HN.out hlt
      clear HN
      generalize bt l k = c at *
      by_cases h9 : k = 9
      · subst h9
        by_cases hc1 : 1 < c
        · go_wp2
          go_ret3
          exact ⟨ret3_of (NB.out (by simp [brokenB]; omega)) (by omega), rfl⟩
        · by_cases hz : c = 0
          · subst hz
            go_wp2
            go_ret3
            exact ⟨ret3_of (NB.out (by simp [brokenB])) (by omega), rfl⟩
          · have cz : (c == 0) = false := by simpa using hz
            have h8 : c < 128 := by omega
            go_wp2
            go_ret3
            have hs := HS.out (by omega) (fun _ => by omega)
            rw [show (2 : Int) ^ (7 * 9) = 9223372036854775808 from by decide] at hs
            exact ⟨ret3_of (by rw [NL.out (by simp [brokenB]; omega) h8, hs]; rfl) (by omega), rfl⟩
      · have k9 : ((k : Int) == 9) = false := by simp; omega
        by_cases hk0 : ¬ 0 < k
        · by_cases h8 : c < 128
          · go_wp2
            go_ret3
            exact ⟨ret3_of (by rw [NL.out (by simp [brokenB]; omega) h8, HS.out (by omega) (by omega)]; congr 2) (by omega), rfl⟩
          · go_wp2
            go_round
            case rel => exact ⟨k + 1, by omega, by omega, by go_num, by rw [HS.out (by omega) (by omega)], NN.out (by simp [brokenB]; omega) h8⟩
            case measure => simp [intOf]; omega
        · have kp : 0 < k := by omega
          by_cases hz : c = 0
          · subst hz
            go_wp2
            go_ret3
            exact ⟨ret3_of (NB.out (by simp [brokenB]; omega)) (by omega), rfl⟩
          · have cz : (c == 0) = false := by simpa using hz
            by_cases h8 : c < 128
            · go_wp2
              go_ret3
              exact ⟨ret3_of (by rw [NL.out (by simp [brokenB]; omega) h8, HS.out (by omega) (by omega)]; congr 2) (by omega), rfl⟩
            · go_wp2
              go_round
              case rel => exact ⟨k + 1, by omega, by omega, by go_num, by rw [HS.out (by omega) (by omega)], NN.out (by simp [brokenB]; omega) h8⟩
              case measure => simp [intOf]; omega
    · have NS := num_short HN.out hlt
      clear HN
      have NS' : Hid (num l = (0, 0, 110)) := NS
      clear NS
      go_wp2
      go_ret3
      exact ⟨ret3_of (by rw [NS'.out]; rfl) (by omega), rfl⟩

end Go.Proofs.YtncagdfbgpdhfaaGreat

/- Plain facts on what the reading of a short form answers. -/
namespace Go.Proofs.YtncagdfbgpdhfaaGreat
open Go.RowKit

theorem numFrom_le (l : List UInt8) : ∀ f i, (numFrom l f i).2.1 ≤ f + i := by
  intro f
  induction f with
  | zero => intro i; simp [numFrom]
  | succ f ih =>
    intro i
    rw [numFrom]
    split
    · simp
    · split
      · simp only; omega
      · have := ih (i + 1); omega
theorem num_le (l : List UInt8) : (num l).2.1 ≤ l.length := by have := numFrom_le l l.length 0; unfold num; omega

theorem numFrom_pos (l : List UInt8) : ∀ f i, (numFrom l f i).2.2 = 0 → i + 1 ≤ (numFrom l f i).2.1 := by
  intro f
  induction f with
  | zero => intro i; simp [numFrom]
  | succ f ih =>
    intro i
    rw [numFrom]
    split
    · simp
    · split
      · simp
      · intro h; have := ih (i + 1) h; omega
theorem num_pos (l : List UInt8) (h : (num l).2.2 = 0) : 1 ≤ (num l).2.1 := by have := numFrom_pos l l.length 0 h; unfold num; omega

/-- the number fits 64 bits -/
theorem numFrom_fits (l : List UInt8) : ∀ f i, i ≤ 9 → 0 ≤ (numFrom l f i).1 ∧ (numFrom l f i).1 ≤ 18446744073709551615 := by
  intro f
  induction f with
  | zero => intro i _; simp [numFrom]
  | succ f ih =>
    intro i hi
    rw [numFrom]
    split
    · simp
    · rename_i hb
      have hb' : brokenB i (bt l i) = false := by simpa using hb
      split
      · rename_i h8
        simp only [accTo_succ]
        refine add_step l (bt l i) i (bt_lo l i) hi (fun h9 => ?_)
        subst h9
        simp [brokenB] at hb'
        omega
      · rename_i h8
        refine ih (i + 1) ?_
        by_cases h9 : i = 9
        · subst h9
          simp [brokenB] at hb'
          omega
        · omega
theorem num_fits (l : List UInt8) : 0 ≤ (num l).1 ∧ (num l).1 ≤ 18446744073709551615 := numFrom_fits l l.length 0 (by omega)

end Go.Proofs.YtncagdfbgpdhfaaGreat
