import Derived.Test.YtiafhbpklddlnaaGreatDoorProg
import Derived.Test.YtiafhbpklddlnaaGreatDoorE01
import Derived.Outline
import Derived.BigQuiet
import Derived.Deep.QuietTactic
import Derived.Deep.RegionHeld3
import Derived.Laws.CopyOwn
/- What a Reader of the program is in memory, and the walks of its small inner methods. -/
namespace Go.Proofs.YtiafhbpklddlnaaGreatDoor
open Go.RowKit

/-- the Reader in block r reads the bytes l, which lie in block g; p of them are read, its error is e -/
structure Rd (w : World) (r g p : Nat) (e : Int) (l : List UInt8) : Prop where
  c0 : w.cell? ⟨r, 0, none⟩ = some (.int .i64 p)
  c1 : w.cell? ⟨r, 1, none⟩ = some (.int .i64 e)
  c2 : w.cell? ⟨r, 2, none⟩ = some (.slice (some ⟨g, 0, none⟩) l.length l.length)
  f0 : w.frozen? ⟨r, 0, none⟩ = false
  f1 : w.frozen? ⟨r, 1, none⟩ = false
  hp : p ≤ l.length
  hl : l.length ≤ maxLen
  ne : r ≠ g
  row : ∀ i, i < l.length → w.cell? ⟨g, i, none⟩ = some (.int .u8 (bt l i))

theorem grownBy_drewN (w : World) (k : Nat) (row : Option Nat) : w.grownBy (w.drewN k) row := by
  exact ⟨rfl, rfl, rfl, Nat.le_refl _, fun _ _ _ => rfl⟩

theorem grownBy_trans {a b c : World} {row : Option Nat} (h : a.grownBy b row) (k : b.grownBy c row) : a.grownBy c row :=
  ⟨k.os.trans h.os, k.tape.trans h.tape, k.output.trans h.output, Nat.le_trans h.size k.size, fun i hi hr => (k.block i (Nat.lt_of_lt_of_le hi h.size) hr).trans (h.block i hi hr)⟩

theorem grownBy_setCell (w : World) (r o : Nat) (v : Value) : w.grownBy (w.setCell ⟨r, o, none⟩ v) (some r) :=
  ⟨rfl, rfl, rfl, by simp [World.setCell], fun k _ hk => Below.heap_setCell _ _ _ _ (fun e => hk (by rw [e]))⟩

theorem grownBy_wide {a b : World} {row : Option Nat} (h : a.grownBy b none) : a.grownBy b row :=
  ⟨h.os, h.tape, h.output, h.size, fun i hi _ => h.block i hi (by simp)⟩

theorem Bytes.drewN {w : World} {a : Option Addr} {n : Nat} {l : List UInt8} (h : Bytes w a n l) (k : Nat) : Bytes (w.drewN k) a n l := by
  refine ⟨h.1, fun hp => ?_⟩
  obtain ⟨b, off, rfl, hc⟩ := h.2 hp
  exact ⟨b, off, rfl, fun i hi => by simpa using hc i hi⟩

/-- bytes stay what they are where another block alone is written -/
theorem Bytes.kept {w w' : World} {a : Option Addr} {n : Nat} {l : List UInt8} {row : Option Nat} (h : Bytes w a n l) (hg : w.grownBy w' row) (hne : ∀ x, a = some x → row ≠ some x.block) : Bytes w' a n l := by
  refine ⟨h.1, fun hp => ?_⟩
  obtain ⟨b, off, rfl, hc⟩ := h.2 hp
  exact ⟨b, off, rfl, fun i hi => hg.cell (hc i hi) (fun e => hne _ rfl e.symm)⟩

theorem Rd.setAt {w : World} {r g p : Nat} {e : Int} {l : List UInt8} (h : Rd w r g p e l) (q : Nat) (hq : q ≤ l.length) : Rd (w.setCell ⟨r, 0, none⟩ (.int .i64 q)) r g q e l where
  c0 := World.cell?_setCell_same _ _ _ h.c0
  c1 := by rw [World.cell?_setCell_other _ _ _ _ (by simp)]; exact h.c1
  c2 := by rw [World.cell?_setCell_other _ _ _ _ (by simp)]; exact h.c2
  f0 := by rw [World.frozen?_setCell]; exact h.f0
  f1 := by rw [World.frozen?_setCell]; exact h.f1
  hp := hq
  hl := h.hl
  ne := h.ne
  row := fun i hi => by rw [World.cell?_setCell_other _ _ _ _ (by simp [h.ne])]; exact h.row i hi

theorem Rd.setErr {w : World} {r g p : Nat} {e : Int} {l : List UInt8} (h : Rd w r g p e l) (x : Int) : Rd (w.setCell ⟨r, 1, none⟩ (.int .i64 x)) r g p x l where
  c0 := by rw [World.cell?_setCell_other _ _ _ _ (by simp)]; exact h.c0
  c1 := World.cell?_setCell_same _ _ _ h.c1
  c2 := by rw [World.cell?_setCell_other _ _ _ _ (by simp)]; exact h.c2
  f0 := by rw [World.frozen?_setCell]; exact h.f0
  f1 := by rw [World.frozen?_setCell]; exact h.f1
  hp := h.hp
  hl := h.hl
  ne := h.ne
  row := fun i hi => by rw [World.cell?_setCell_other _ _ _ _ (by simp [h.ne])]; exact h.row i hi

theorem Rd.drewN {w : World} {r g p : Nat} {e : Int} {l : List UInt8} (h : Rd w r g p e l) (k : Nat) : Rd (w.drewN k) r g p e l :=
  ⟨h.c0, h.c1, h.c2, h.f0, h.f1, h.hp, h.hl, h.ne, h.row⟩

theorem Rd.kept {w w' : World} {r g p : Nat} {e : Int} {l : List UInt8} {row : Option Nat} (h : Rd w r g p e l) (hg : w.grownBy w' row) (h1 : row ≠ some r) (h2 : row ≠ some g) : Rd w' r g p e l where
  c0 := hg.cell h.c0 (fun e => h1 e.symm)
  c1 := hg.cell h.c1 (fun e => h1 e.symm)
  c2 := hg.cell h.c2 (fun e => h1 e.symm)
  f0 := by rw [World.frozen?_of_block (hg.block r (World.block_lt_of_cell? w ⟨r, 0, none⟩ h.c0) (fun e => h1 e.symm))]; exact h.f0
  f1 := by rw [World.frozen?_of_block (hg.block r (World.block_lt_of_cell? w ⟨r, 0, none⟩ h.c0) (fun e => h1 e.symm))]; exact h.f1
  hp := h.hp
  hl := h.hl
  ne := h.ne
  row := fun i hi => hg.cell (h.row i hi) (fun e => h2 e.symm)

theorem stuck_nil (w : World) : Calls Tryz.prog 77 #[.pointer none] w fun e w' => e = .returned (.bool true) ∧ w' = w := by
  go_enter Tryz.func77, Tryz.ntmps77
  go_wp2
  go_ret
  exact ⟨rfl, rfl⟩

theorem stuck_no (w : World) (r : Nat) (h : w.cell? ⟨r, 1, none⟩ = some (.int .i64 0)) : Calls Tryz.prog 77 #[.pointer (some ⟨r, 0, none⟩)] w fun e w' => e = .returned (.bool false) ∧ w' = w := by
  go_enter Tryz.func77, Tryz.ntmps77
  go_wp2
  go_ret
  exact ⟨rfl, rfl⟩

theorem stuck_yes (w : World) (r : Nat) (x : Int) (h : w.cell? ⟨r, 1, none⟩ = some (.int .i64 x)) (hx : (x != 0) = true) : Calls Tryz.prog 77 #[.pointer (some ⟨r, 0, none⟩)] w fun e w' => e = .returned (.bool true) ∧ w' = w := by
  go_enter Tryz.func77, Tryz.ntmps77
  go_wp2
  go_ret
  exact ⟨rfl, rfl⟩

theorem settle_no (w : World) (r : Nat) (n x : Int) (y : Value) (h : w.cell? ⟨r, 1, none⟩ = some y) (hf : w.frozen? ⟨r, 1, none⟩ = false) (hx : (x != 0) = true) :
    Calls Tryz.prog 80 #[.pointer (some ⟨r, 0, none⟩), .int .i64 n, .int .i64 x] w fun e w' => e = .returned (.bool false) ∧ w' = w.setCell ⟨r, 1, none⟩ (.int .i64 x) := by
  go_enter Tryz.func80, Tryz.ntmps80
  go_wp2
  go_ret
  exact ⟨rfl, rfl⟩

theorem settle_yes (w : World) (r : Nat) (p n : Int) (h : w.cell? ⟨r, 0, none⟩ = some (.int .i64 p)) (hf : w.frozen? ⟨r, 0, none⟩ = false) (h0 : 0 ≤ p) (h1 : 0 ≤ n) (hs : p + n ≤ 9223372036854775807) :
    Calls Tryz.prog 80 #[.pointer (some ⟨r, 0, none⟩), .int .i64 n, .int .i64 0] w fun e w' => e = .returned (.bool true) ∧ w' = w.setCell ⟨r, 0, none⟩ (.int .i64 (p + n)) := by
  go_enter Tryz.func80, Tryz.ntmps80
  go_wp2
  go_ret
  exact ⟨rfl, rfl⟩

theorem rest_in (w : World) (r g p n : Nat) (h0 : w.cell? ⟨r, 0, none⟩ = some (.int .i64 p)) (h2 : w.cell? ⟨r, 2, none⟩ = some (.slice (some ⟨g, 0, none⟩) n n)) (hp : p < n) :
    Calls Tryz.prog 79 #[.pointer (some ⟨r, 0, none⟩)] w fun e w' => e = .returned (.slice (some ⟨g, p, none⟩) (n - p) (n - p)) ∧ ∃ k, w' = w.drewN k := by
  have i0 : (0 : Int) ≤ (p : Int) := by omega
  have i1 : (p : Int) ≤ (n : Int) := by omega
  have i2 : ¬ n = p := by omega
  go_enter Tryz.func79, Tryz.ntmps79
  go_wp2
  go_quiet (fail)
  go_wp2
  go_ret
  exact ⟨rfl, _, rfl⟩

theorem rest_end (w : World) (r g n : Nat) (h0 : w.cell? ⟨r, 0, none⟩ = some (.int .i64 n)) (h2 : w.cell? ⟨r, 2, none⟩ = some (.slice (some ⟨g, 0, none⟩) n n)) :
    Calls Tryz.prog 79 #[.pointer (some ⟨r, 0, none⟩)] w fun e w' => e = .returned (.slice (some ⟨g, 0, none⟩) 0 0) ∧ ∃ k, w' = w.drewN k := by
  have i0 : (0 : Int) ≤ (n : Int) := by omega
  go_enter Tryz.func79, Tryz.ntmps79
  go_wp2
  go_quiet (fail)
  go_wp2
  go_ret
  exact ⟨rfl, _, rfl⟩

theorem rest_any (w : World) (r g p m : Nat) (e : Int) (l : List UInt8) (h : Rd w r g p e l) (hm : l.length = p + m) :
    Calls Tryz.prog 79 #[.pointer (some ⟨r, 0, none⟩)] w fun e w' => ∃ q k, e = .returned (.slice (some ⟨g, q, none⟩) m m) ∧ Bytes w (some ⟨g, q, none⟩) m (l.drop p) ∧ w' = w.drewN k := by
  by_cases hp : p < l.length
  · have e0 : l.length - p = m := by omega
    refine (rest_in w r g p l.length h.c0 h.c2 hp).mono fun e w' ⟨he, k, hw⟩ => ⟨p, k, by rw [← e0]; exact he, ⟨by simp; omega, fun _ => ⟨g, p, rfl, fun i hi => ?_⟩⟩, hw⟩
    rw [bt_drop]
    exact h.row (p + i) (by omega)
  · have hpe : p = l.length := by have := h.hp; omega
    obtain rfl : m = 0 := by omega
    exact (rest_end w r g l.length (by rw [← hpe]; exact h.c0) h.c2).mono fun e w' ⟨he, k, hw⟩ => ⟨0, k, he, ⟨by simp; omega, fun h0 => by omega⟩, hw⟩

theorem take_yes (w : World) (r g p m n : Nat) (l : List UInt8) (h : Rd w r g p 0 l) (hm : l.length = p + m) (hn : n ≤ m) :
    Calls Tryz.prog 82 #[.pointer (some ⟨r, 0, none⟩), .int .i64 n] w fun e w' => ∃ a c, e = .returned (.tuple #[.slice a n c, .bool true]) ∧ Bytes w' a n ((l.drop p).take n) ∧ Rd w' r g (p + n) 0 l ∧ w.grownBy w' (some r) := by
  have hx := h.hl
  unfold maxLen at hx
  have hpm : p + m ≤ 9223372036854775807 := by omega
  have h0 := h.c0
  have f0 := h.f0
  have i0 : (0 : Int) ≤ (n : Int) := by omega
  have i1 : (n : Int) ≤ (m : Int) := by omega
  have i2 : decide ((n : Int) < 0) = false := by simp
  have i3 : decide (m < n) = false := by simp; omega
  have Hm : Hid (l.length = p + m) := hm
  clear hx hm
  go_enter Tryz.func82, Tryz.ntmps82
  go_wp2_with fail
  refine (stuck_no w r h.c1).mono ?_
  rintro e w' ⟨rfl, rfl⟩
  go_wp2_with fail
  refine (rest_any _ r g p m 0 l h Hm.out).mono ?_
  rintro e w1 ⟨q, k, rfl, hb, rfl⟩
  go_wp2_with fail
  go_region_held3 (fun _ => True) (exact trivial)
    (first | (go_at_call 80; refine (settle_yes _ r p n ?_ ?_ ?_ ?_ ?_).mono ?_; (simp [*]); (simp [*]); (omega); (omega); (omega); rintro e w2 ⟨rfl, rfl⟩))
  go_wp2
  go_ret2
  refine ⟨_, _, rfl, ?_, ?_, ?_⟩
  · exact ((hb.take n (by omega)).drewN _).kept (grownBy_setCell _ _ _ _) (by simp [h.ne])
  · exact (h.drewN _).setAt (p + n) (by have := Hm.out; omega)
  · exact grownBy_trans (grownBy_drewN _ _ _) (grownBy_setCell _ _ _ _)

theorem take_nil (w : World) (n : Int) : Calls Tryz.prog 82 #[.pointer none, .int .i64 n] w fun e w' => e = .returned (.tuple #[.slice none 0 0, .bool false]) ∧ w' = w := by
  go_enter Tryz.func82, Tryz.ntmps82
  go_wp2_with fail
  refine (stuck_nil w).mono ?_
  rintro e w' ⟨rfl, rfl⟩
  go_wp2
  go_ret2
  exact ⟨rfl, rfl⟩

theorem take_stuck (w : World) (r g p : Nat) (x n : Int) (l : List UInt8) (h : Rd w r g p x l) (hx : (x != 0) = true) :
    Calls Tryz.prog 82 #[.pointer (some ⟨r, 0, none⟩), .int .i64 n] w fun e w' => e = .returned (.tuple #[.slice none 0 0, .bool false]) ∧ w' = w := by
  go_enter Tryz.func82, Tryz.ntmps82
  go_wp2_with fail
  refine (stuck_yes w r x h.c1 hx).mono ?_
  rintro e w' ⟨rfl, rfl⟩
  go_wp2
  go_ret2
  exact ⟨rfl, rfl⟩

theorem take_arg (w : World) (r g p m : Nat) (n : Int) (l : List UInt8) (h : Rd w r g p 0 l) (hm : l.length = p + m) (hn : n < 0) :
    Calls Tryz.prog 82 #[.pointer (some ⟨r, 0, none⟩), .int .i64 n] w fun e w' => e = .returned (.tuple #[.slice none 0 0, .bool false]) ∧ Rd w' r g p 2 l ∧ w.grownBy w' (some r) := by
  have Hm : Hid (l.length = p + m) := hm
  have i2 : decide (n < 0) = true := by simpa using hn
  clear hm
  go_enter Tryz.func82, Tryz.ntmps82
  go_wp2_with fail
  refine (stuck_no w r h.c1).mono ?_
  rintro e w' ⟨rfl, rfl⟩
  go_wp2_with fail
  refine (rest_any _ r g p m 0 l h Hm.out).mono ?_
  rintro e w1 ⟨q, k, rfl, hb, rfl⟩
  go_wp2_with fail
  refine (settle_no _ r 0 2 _ (h.drewN k).c1 (h.drewN k).f1 rfl).mono ?_
  rintro e w2 ⟨rfl, rfl⟩
  go_wp2
  go_ret2
  exact ⟨rfl, (h.drewN k).setErr 2, grownBy_trans (grownBy_drewN _ _ _) (grownBy_setCell _ _ _ _)⟩

theorem take_short (w : World) (r g p m : Nat) (n : Int) (l : List UInt8) (h : Rd w r g p 0 l) (hm : l.length = p + m) (hn : (m : Int) < n) :
    Calls Tryz.prog 82 #[.pointer (some ⟨r, 0, none⟩), .int .i64 n] w fun e w' => e = .returned (.tuple #[.slice none 0 0, .bool false]) ∧ Rd w' r g p 110 l ∧ w.grownBy w' (some r) := by
  have Hm : Hid (l.length = p + m) := hm
  have i2 : decide (n < 0) = false := by simp; omega
  have i3 : decide ((m : Int) < n) = true := by simpa using hn
  clear hm
  go_enter Tryz.func82, Tryz.ntmps82
  go_wp2_with fail
  refine (stuck_no w r h.c1).mono ?_
  rintro e w' ⟨rfl, rfl⟩
  go_wp2_with fail
  refine (rest_any _ r g p m 0 l h Hm.out).mono ?_
  rintro e w1 ⟨q, k, rfl, hb, rfl⟩
  go_wp2_with fail
  refine (settle_no _ r 0 110 _ (h.drewN k).c1 (h.drewN k).f1 rfl).mono ?_
  rintro e w2 ⟨rfl, rfl⟩
  go_wp2
  go_ret2
  exact ⟨rfl, (h.drewN k).setErr 110, grownBy_trans (grownBy_drewN _ _ _) (grownBy_setCell _ _ _ _)⟩

end Go.Proofs.YtiafhbpklddlnaaGreatDoor

/- The walks of a Reader's methods that need no number's form: Byte, Raw, Err, Left, End; and of Read itself. -/
namespace Go.Proofs.YtiafhbpklddlnaaGreatDoor
open Go.RowKit

theorem err_nil (w : World) : Calls Tryz.prog 52 #[.pointer none] w fun e w' => e = .returned (.int .i64 1) ∧ w' = w := by
  go_enter Tryz.func52, Tryz.ntmps52
  go_wp2
  go_ret
  exact ⟨rfl, rfl⟩

theorem err_any (w : World) (r : Nat) (x : Int) (h : w.cell? ⟨r, 1, none⟩ = some (.int .i64 x)) : Calls Tryz.prog 52 #[.pointer (some ⟨r, 0, none⟩)] w fun e w' => e = .returned (.int .i64 x) ∧ w' = w := by
  go_enter Tryz.func52, Tryz.ntmps52
  go_wp2
  go_ret
  exact ⟨rfl, rfl⟩

theorem left_nil (w : World) : Calls Tryz.prog 73 #[.pointer none] w fun e w' => e = .returned (.int .i64 0) ∧ w' = w := by
  go_enter Tryz.func73, Tryz.ntmps73
  go_wp2
  go_ret
  exact ⟨rfl, rfl⟩

theorem left_any (w : World) (r g p m : Nat) (x : Int) (l : List UInt8) (h : Rd w r g p x l) (hm : l.length = p + m) :
    Calls Tryz.prog 73 #[.pointer (some ⟨r, 0, none⟩)] w fun e w' => e = .returned (.int .i64 m) ∧ ∃ k, w' = w.drewN k := by
  have Hm : Hid (l.length = p + m) := hm
  clear hm
  go_enter Tryz.func73, Tryz.ntmps73
  go_wp2_with fail
  refine (rest_any _ r g p m x l h Hm.out).mono ?_
  rintro e w1 ⟨q, k, rfl, hb, rfl⟩
  go_wp2
  go_ret
  exact ⟨rfl, _, rfl⟩

theorem end_nil (w : World) : Calls Tryz.prog 53 #[.pointer none] w fun e w' => e = .returned (.int .i64 1) ∧ w' = w := by
  go_enter Tryz.func53, Tryz.ntmps53
  go_wp2_with fail
  refine (err_nil _).mono ?_
  rintro e w1 ⟨rfl, rfl⟩
  go_wp2
  go_ret
  exact ⟨rfl, rfl⟩

theorem end_err (w : World) (r : Nat) (x : Int) (h : w.cell? ⟨r, 1, none⟩ = some (.int .i64 x)) (hx : (x != 0) = true) : Calls Tryz.prog 53 #[.pointer (some ⟨r, 0, none⟩)] w fun e w' => e = .returned (.int .i64 x) ∧ w' = w := by
  go_enter Tryz.func53, Tryz.ntmps53
  go_wp2_with fail
  refine (err_any _ r x h).mono ?_
  rintro e w1 ⟨rfl, rfl⟩
  go_wp2
  go_ret
  exact ⟨rfl, rfl⟩

theorem end_ok (w : World) (r g p m : Nat) (l : List UInt8) (h : Rd w r g p 0 l) (hm : l.length = p + m) :
    Calls Tryz.prog 53 #[.pointer (some ⟨r, 0, none⟩)] w fun e w' => e = .returned (.int .i64 (if 0 < m then 111 else 0)) ∧ ∃ k, w' = w.drewN k := by
  have Hm : Hid (l.length = p + m) := hm
  clear hm
  by_cases h0 : 0 < m
  · have i1 : (0 : Int) < (m : Int) := by omega
    rw [if_pos h0]
    go_enter Tryz.func53, Tryz.ntmps53
    go_wp2_with fail
    refine (err_any _ r 0 h.c1).mono ?_
    rintro e w1 ⟨rfl, rfl⟩
    go_wp2_with fail
    refine (left_any _ r g p m 0 l h Hm.out).mono ?_
    rintro e w1 ⟨rfl, k, rfl⟩
    go_wp2
    go_ret
    exact ⟨rfl, _, rfl⟩
  · have i1 : ¬ (0 : Int) < (m : Int) := by omega
    rw [if_neg h0]
    go_enter Tryz.func53, Tryz.ntmps53
    go_wp2_with fail
    refine (err_any _ r 0 h.c1).mono ?_
    rintro e w1 ⟨rfl, rfl⟩
    go_wp2_with fail
    refine (left_any _ r g p m 0 l h Hm.out).mono ?_
    rintro e w1 ⟨rfl, k, rfl⟩
    go_wp2
    go_ret
    exact ⟨rfl, _, rfl⟩

end Go.Proofs.YtiafhbpklddlnaaGreatDoor

/- The walks of withRoom (a copy of bytes with room behind them), of Read and of Raw. -/
namespace Go.Proofs.YtiafhbpklddlnaaGreatDoor
open Go.RowKit


/-- make with a length and a greater capacity, elements of one cell: the new row, whole -/
theorem wpList_make_part {P : Program} (w : World) {ops : Array Oper} {rest : List Oper} {o : Oper} {a : Act} {Q : Exit → Act → World → Prop}
    (hg : o.guard = none) (l c : Operand) (t : TypeId) (hop : o.op = Op.makeSlice t l c)
    (e : TypeId) (i : TypeInfo) (z : Value) (h1 : P.underlying t = some (.slice e)) (h2 : P.info? e = some i) (h3 : i.zero = some z) (h4 : i.size = 1) (h5 : i.bytes = 1)
    (kl kc : IntKind) (n m : Nat) (L C : Int) (hl : a.eval l = .int kl L) (hc : a.eval c = .int kc C) (hL : L = (n : Int)) (hC : C = (m : Int)) (hnm : n ≤ m) (b2 : m ≤ 281474976710656)
    (hK : ∀ w1, Hid (w1.heap[w.heap.size]? = some (.cells (madeCells z.cells m) e (0, 0))) → Below w.heap.size w w1 → wpList P ops Q rest (a.put o.dst (.slice (some ⟨w.heap.size, 0, none⟩) n m)) w1) :
    wpList P ops Q (o :: rest) a w := by
  refine wpList_plain hg fun K hK' => ?_
  have hrun := run_make (P := P) w t e i z h1 h2 h3 kl kc L C (by omega) (by omega) (by rw [h5]; omega) (by omega)
  subst hL
  subst hC
  simp only [h4, Nat.mul_one, Int.toNat_natCast] at hrun
  unfold Oper.wp
  simp [execOp, hop, hl, hc, hrun, Result.andThen]
  exact hK' _ _ (hK _ (heap_alloc_new w _) ((Below.refl _ _).alloc (Nat.le_refl _) _))

theorem grownBy_of_below {w w' : World} (h : Below w.heap.size w w') : w.grownBy w' none := ⟨h.os, h.tape, h.output, h.size, fun k hk _ => h.block k hk⟩

theorem size_made (z : Array Value) (n : Nat) : (madeCells z n).toList.length = n := by rw [Array.length_toList, size_madeCells]

/-- copy into a row just made: the row holds the bytes -/
theorem copy_fill (w w1 : World) (a : Option Addr) (n cap m : Nat) (l : List UInt8) (z : Array Value) (hb : Bytes w a n l) (hnm : n ≤ m) (hm : m ≤ maxLen)
    (hg : w1.heap[w.heap.size]? = some (.cells (madeCells z m) 5 (0, 0))) (hB : Below w.heap.size w w1) :
    ∃ w2, (Builtin.copy_ #[33, 33] 3 #[.slice (some ⟨w.heap.size, 0, none⟩) n m, .slice a n cap]).run Tryz.prog w1 = .ok (goInt n) w2 ∧
      w2.ownsRow w.heap.size 5 1 (.slice (some ⟨w.heap.size, 0, none⟩) n m) n (cellsOf l) ∧ w.grownBy w2 none := by
  obtain ⟨i0, hi, hz0, hz1, hz2⟩ := info_parts Tryz.info5
  have hu := Tryz.underlying33
  have hsz : (Tryz.prog.info? 5).map (·.size) = some 1 := by rw [hi]; simp [hz1]
  have hll : (cellsOf l).length = n := by rw [cellsOf_length, hb.1]
  by_cases h0 : n = 0
  · subst h0
    refine ⟨w1, run_copy_none (P := Tryz.prog) w1 33 33 3 5 _ a 0 m 0 cap hu hsz rfl, ⟨by rw [hll], .inr ⟨w.heap.size, m, _, rfl, Nat.le_refl _, hg, by omega, hm, by rw [size_madeCells]; omega, ?_⟩⟩, grownBy_of_below hB⟩
    have : cellsOf l = [] := List.eq_nil_of_length_eq_zero hll
    rw [this]; simp
  · obtain ⟨b, off, rfl, hc⟩ := hb.2 (by omega)
    have hsrc : ∀ j v, (cellsOf l)[j]? = some v → w1.cell? ((⟨b, off, none⟩ : Addr).add j) = some v := by
      intro j v hj
      have hjl : j < n := by have := (List.getElem?_eq_some_iff.1 hj).1; omega
      rw [cellsOf_get l j (by rw [hb.1]; exact hjl)] at hj
      have hold' : w.cell? ⟨b, off + j, none⟩ = some v := by rw [hc j hjl]; exact hj
      rw [Addr.add_lit, hB.cell (World.block_lt_of_cell? w _ hold')]
      exact hold'
    have hrun := run_copy_row (P := Tryz.prog) w1 33 33 3 5 w.heap.size 0 n m ⟨b, off, none⟩ n cap (madeCells z m) 5 (cellsOf l) hu hsz hg (by rw [hll]; exact (Nat.min_self n).symm) hsrc (by rw [hll, size_madeCells]; omega) (cellsOf_one l)
    refine ⟨_, by rw [hrun, hll], ⟨by rw [hll]; omega, .inr ⟨w.heap.size, m, _, rfl, Nat.le_refl _, setRow_heap w1 _ _ _ _ _ hg, by omega, hm, ?_, ?_⟩⟩, grownBy_of_below (below_setRow hB (Nat.le_refl _) _)⟩
    · simp [size_madeCells, hll]; omega
    · simp [← hll]

set_option maxHeartbeats 400000 in
theorem withRoom_any (a : Option Addr) (n cap more : Nat) (l : List UInt8) (w : World) (hb : Bytes w a n l) (hm : n + more ≤ 281474976710656) :
    Calls Tryz.prog 76 #[.slice a n cap, .int .i64 more] w fun e w' => e = .returned (.slice (some ⟨w.heap.size, 0, none⟩) n (n + more)) ∧
      w'.ownsRow w.heap.size 5 1 (.slice (some ⟨w.heap.size, 0, none⟩) n (n + more)) n (cellsOf l) ∧ w.grownBy w' none := by
  obtain ⟨i0, hi, hz0, hz1, hz2⟩ := info_parts Tryz.info5
  have hu := Tryz.underlying33
  go_enter Tryz.func76, Tryz.ntmps76
  go_wp2_with (at_make; refine wpList_make_part _ rfl _ _ 33 rfl 5 i0 (.int .u8 0) hu hi hz0 hz1 hz2 _ _ n (n + more) _ _ rfl rfl rfl (by omega) (by omega) hm ?_; intro w1 hg1 hb1; obtain ⟨w2, hcp, hfin⟩ := copy_fill w w1 a n cap (n + more) l _ hb (by omega) (by unfold maxLen; omega) hg1.out hb1)
  go_ret
  exact ⟨rfl, hfin⟩

/-- a row that is owned, as bytes -/
theorem ownsRow_bytes {w : World} {B g n cap : Nat} {l : List UInt8} (h : w.ownsRow B 5 1 (.slice (some ⟨g, 0, none⟩) n cap) n (cellsOf l)) : Bytes w (some ⟨g, 0, none⟩) n l ∧ B ≤ g ∧ g < w.heap.size := by
  have hll : l.length = n := by have := h.1; rw [cellsOf_length] at this; omega
  refine ⟨⟨hll, fun _ => ⟨g, 0, rfl, fun i hi => ?_⟩⟩, h.lt g rfl⟩
  have := h.cells (g := g) rfl i _ (cellsOf_get l i (by omega))
  rw [Addr.add_lit] at this
  exact this

set_option maxHeartbeats 400000 in
theorem oread_any (a : Option Addr) (n cap : Nat) (l : List UInt8) (w : World) (hb : Bytes w a n l) (hm : n ≤ 281474976710656) :
    Calls Tryz.prog 48 #[.slice a n cap] w fun e w' => ∃ r g, e = .returned (.pointer (some ⟨r, 0, none⟩)) ∧ w.heap.size ≤ r ∧ w.heap.size ≤ g ∧ Rd w' r g 0 0 l ∧ w.grownBy w' none := by
  go_enter Tryz.func48, Tryz.ntmps48
  go_wp2_with fail
  refine (withRoom_any a n cap 0 l w hb (by omega)).mono ?_
  rintro e w1 ⟨rfl, hown, hg⟩
  go_wp2
  go_ret
  have hll : l.length = n := hb.1
  obtain ⟨hby, _, hlt⟩ := ownsRow_bytes hown
  have hlt' : w.heap.size < w1.heap.size := hlt
  refine ⟨w1.heap.size, w.heap.size, rfl, hg.size, Nat.le_refl _, ?_, grownBy_trans hg (World.grownBy_alloc _ _ _)⟩
  refine ⟨?_, ?_, ?_, ?_, ?_, by omega, by unfold maxLen; omega, by omega, fun i hi => ?_⟩
  · simp
  · simp
  · simp [hll]
  · simp
  · simp
  · obtain ⟨b, off, hb1, hc⟩ := hby.2 (by omega)
    simp only [Option.some.injEq, Addr.mk.injEq, and_true] at hb1
    obtain ⟨rfl, rfl⟩ := hb1
    have := hc i (by omega)
    rw [Nat.zero_add] at this
    exact (World.grownBy_alloc w1 _ none).cell this (by simp)

end Go.Proofs.YtiafhbpklddlnaaGreatDoor
