/- The walk of the law ObjectSame. -/
import Derived.Test.YtdibdcbihleflabOSameThree
import Derived.Deep.RegionHeld3
namespace Go.Proofs.Ytdibdcbihleflab
open Go.RowKit

attribute [local go_sem] Oper.semAt_some

theorem belowD {n0 : Nat} {w W : World} (h : Below n0 w W) : Below n0 w W.drew := ⟨h.os, h.tape, h.output, h.size, h.block⟩
/-- three commits that came in, in their boxes -/
structure L3 (w : World) (t1 : Int) (pa1 : Option Addr) (pn1 pc1 : Nat) (ps1 : List Int) (au1 : ByteArray) (d1 : Int) (tx1 : ByteArray) (t2 : Int) (pa2 : Option Addr) (pn2 pc2 : Nat) (ps2 : List Int) (au2 : ByteArray) (d2 : Int) (tx2 : ByteArray) (t3 : Int) (pa3 : Option Addr) (pn3 pc3 : Nat) (ps3 : List Int) (au3 : ByteArray) (d3 : Int) (tx3 : ByteArray) (W : World) : Prop where
  b1 : Box5 W w.heap.size (.int .u64 t1) (.slice pa1 pn1 pc1) (.string au1) (.int .i64 d1) (.string tx1)
  b2 : Box5 W (w.heap.size + 1) (.int .u64 t2) (.slice pa2 pn2 pc2) (.string au2) (.int .i64 d2) (.string tx2)
  b3 : Box5 W (w.heap.size + 1 + 1) (.int .u64 t3) (.slice pa3 pn3 pc3) (.string au3) (.int .i64 d3) (.string tx3)
  c1 : Com W t1 pa1 pn1 pc1 ps1 au1 d1 tx1
  c2 : Com W t2 pa2 pn2 pc2 ps2 au2 d2 tx2
  c3 : Com W t3 pa3 pn3 pc3 ps3 au3 d3 tx3
  bel : Below w.heap.size w W
section
variable {w W W' : World} {t1 : Int} {pa1 : Option Addr} {pn1 pc1 : Nat} {ps1 : List Int} {au1 : ByteArray} {d1 : Int} {tx1 : ByteArray} {t2 : Int} {pa2 : Option Addr} {pn2 pc2 : Nat} {ps2 : List Int} {au2 : ByteArray} {d2 : Int} {tx2 : ByteArray} {t3 : Int} {pa3 : Option Addr} {pn3 pc3 : Nat} {ps3 : List Int} {au3 : ByteArray} {d3 : Int} {tx3 : ByteArray}
theorem L3.below (h : L3 w t1 pa1 pn1 pc1 ps1 au1 d1 tx1 t2 pa2 pn2 pc2 ps2 au2 d2 tx2 t3 pa3 pn3 pc3 ps3 au3 d3 tx3 W) (hB : Below W.heap.size W W') : L3 w t1 pa1 pn1 pc1 ps1 au1 d1 tx1 t2 pa2 pn2 pc2 ps2 au2 d2 tx2 t3 pa3 pn3 pc3 ps3 au3 d3 tx3 W' :=
  ⟨h.b1.kept hB, h.b2.kept hB, h.b3.kept hB, h.c1.below hB, h.c2.below hB, h.c3.below hB, h.bel.trans (hB.mono h.bel.size)⟩
theorem L3.cells (h : L3 w t1 pa1 pn1 pc1 ps1 au1 d1 tx1 t2 pa2 pn2 pc2 ps2 au2 d2 tx2 t3 pa3 pn3 pc3 ps3 au3 d3 tx3 W) : W.cell? ⟨w.heap.size, 0, none⟩ = some (.int .u64 t1) ∧ W.cell? ⟨w.heap.size, 1, none⟩ = some (.slice pa1 pn1 pc1) ∧ W.cell? ⟨w.heap.size, 2, none⟩ = some (.string au1) ∧ W.cell? ⟨w.heap.size, 3, none⟩ = some (.int .i64 d1) ∧ W.cell? ⟨w.heap.size, 4, none⟩ = some (.string tx1) ∧ W.cell? ⟨w.heap.size + 1, 0, none⟩ = some (.int .u64 t2) ∧ W.cell? ⟨w.heap.size + 1, 1, none⟩ = some (.slice pa2 pn2 pc2) ∧ W.cell? ⟨w.heap.size + 1, 2, none⟩ = some (.string au2) ∧ W.cell? ⟨w.heap.size + 1, 3, none⟩ = some (.int .i64 d2) ∧ W.cell? ⟨w.heap.size + 1, 4, none⟩ = some (.string tx2) ∧ W.cell? ⟨w.heap.size + 1 + 1, 0, none⟩ = some (.int .u64 t3) ∧ W.cell? ⟨w.heap.size + 1 + 1, 1, none⟩ = some (.slice pa3 pn3 pc3) ∧ W.cell? ⟨w.heap.size + 1 + 1, 2, none⟩ = some (.string au3) ∧ W.cell? ⟨w.heap.size + 1 + 1, 3, none⟩ = some (.int .i64 d3) ∧ W.cell? ⟨w.heap.size + 1 + 1, 4, none⟩ = some (.string tx3) := by
  obtain ⟨a0, a1, a2, a3, a4⟩ := h.b1.cell
  obtain ⟨b0, b1, b2, b3, b4⟩ := h.b2.cell
  obtain ⟨d0, d1, d2, d3, d4⟩ := h.b3.cell
  exact ⟨a0, a1, a2, a3, a4, b0, b1, b2, b3, b4, d0, d1, d2, d3, d4⟩
theorem l3_new (h1 : Com w t1 pa1 pn1 pc1 ps1 au1 d1 tx1) (h2 : Com w t2 pa2 pn2 pc2 ps2 au2 d2 tx2) (h3 : Com w t3 pa3 pn3 pc3 ps3 au3 d3 tx3) : L3 w t1 pa1 pn1 pc1 ps1 au1 d1 tx1 t2 pa2 pn2 pc2 ps2 au2 d2 tx2 t3 pa3 pn3 pc3 ps3 au3 d3 tx3 (((w.alloc (.cells #[.int .u64 t1, .slice pa1 pn1 pc1, .string au1, .int .i64 d1, .string tx1] 28)).alloc (.cells #[.int .u64 t2, .slice pa2 pn2 pc2, .string au2, .int .i64 d2, .string tx2] 28)).alloc (.cells #[.int .u64 t3, .slice pa3 pn3 pc3, .string au3, .int .i64 d3, .string tx3] 28)) := by
  have hB : Below w.heap.size w (((w.alloc (.cells #[.int .u64 t1, .slice pa1 pn1 pc1, .string au1, .int .i64 d1, .string tx1] 28)).alloc (.cells #[.int .u64 t2, .slice pa2 pn2 pc2, .string au2, .int .i64 d2, .string tx2] 28)).alloc (.cells #[.int .u64 t3, .slice pa3 pn3 pc3, .string au3, .int .i64 d3, .string tx3] 28)) := (((Below.refl _ w).alloc (Nat.le_refl _) _).alloc (by simp) _).alloc (by simp; omega) _
  have x1 := ((Box5.new w (.int .u64 t1) (.slice pa1 pn1 pc1) (.string au1) (.int .i64 d1) (.string tx1)).kept ((Below.refl _ _).alloc (Nat.le_refl _) (.cells #[.int .u64 t2, .slice pa2 pn2 pc2, .string au2, .int .i64 d2, .string tx2] 28))).kept ((Below.refl _ _).alloc (Nat.le_refl _) (.cells #[.int .u64 t3, .slice pa3 pn3 pc3, .string au3, .int .i64 d3, .string tx3] 28))
  have x2 := (Box5.new (w.alloc (.cells #[.int .u64 t1, .slice pa1 pn1 pc1, .string au1, .int .i64 d1, .string tx1] 28)) (.int .u64 t2) (.slice pa2 pn2 pc2) (.string au2) (.int .i64 d2) (.string tx2)).kept ((Below.refl _ _).alloc (Nat.le_refl _) (.cells #[.int .u64 t3, .slice pa3 pn3 pc3, .string au3, .int .i64 d3, .string tx3] 28))
  have x3 := Box5.new ((w.alloc (.cells #[.int .u64 t1, .slice pa1 pn1 pc1, .string au1, .int .i64 d1, .string tx1] 28)).alloc (.cells #[.int .u64 t2, .slice pa2 pn2 pc2, .string au2, .int .i64 d2, .string tx2] 28)) (.int .u64 t3) (.slice pa3 pn3 pc3) (.string au3) (.int .i64 d3) (.string tx3)
  rw [World.size_alloc] at x2
  rw [World.size_alloc, World.size_alloc] at x3
  exact ⟨x1, x2, x3, h1.below hB, h2.below hB, h3.below hB, hB⟩
end
/-- what the calls answer -/
structure SS (w : World) (t1 : Int) (pa1 : Option Addr) (pn1 pc1 : Nat) (ps1 : List Int) (au1 : ByteArray) (d1 : Int) (tx1 : ByteArray) (t2 : Int) (pa2 : Option Addr) (pn2 pc2 : Nat) (ps2 : List Int) (au2 : ByteArray) (d2 : Int) (tx2 : ByteArray) (t3 : Int) (pa3 : Option Addr) (pn3 pc3 : Nat) (ps3 : List Int) (au3 : ByteArray) (d3 : Int) (tx3 : ByteArray) (X Y Z O : Bool) (E ID : Int) : Prop where
  ab : ∀ W, L3 w t1 pa1 pn1 pc1 ps1 au1 d1 tx1 t2 pa2 pn2 pc2 ps2 au2 d2 tx2 t3 pa3 pn3 pc3 ps3 au3 d3 tx3 W → Calls Try.prog 14 #[coV t1 pa1 pn1 pc1 au1 d1 tx1, coV t2 pa2 pn2 pc2 au2 d2 tx2] W fun e w' => e = .returned (.bool X) ∧ Below W.heap.size W w'
  ba : ∀ W, L3 w t1 pa1 pn1 pc1 ps1 au1 d1 tx1 t2 pa2 pn2 pc2 ps2 au2 d2 tx2 t3 pa3 pn3 pc3 ps3 au3 d3 tx3 W → Calls Try.prog 14 #[coV t2 pa2 pn2 pc2 au2 d2 tx2, coV t1 pa1 pn1 pc1 au1 d1 tx1] W fun e w' => e = .returned (.bool X) ∧ Below W.heap.size W w'
  bc : ∀ W, L3 w t1 pa1 pn1 pc1 ps1 au1 d1 tx1 t2 pa2 pn2 pc2 ps2 au2 d2 tx2 t3 pa3 pn3 pc3 ps3 au3 d3 tx3 W → Calls Try.prog 14 #[coV t2 pa2 pn2 pc2 au2 d2 tx2, coV t3 pa3 pn3 pc3 au3 d3 tx3] W fun e w' => e = .returned (.bool Y) ∧ Below W.heap.size W w'
  ac : ∀ W, L3 w t1 pa1 pn1 pc1 ps1 au1 d1 tx1 t2 pa2 pn2 pc2 ps2 au2 d2 tx2 t3 pa3 pn3 pc3 ps3 au3 d3 tx3 W → Calls Try.prog 14 #[coV t1 pa1 pn1 pc1 au1 d1 tx1, coV t3 pa3 pn3 pc3 au3 d3 tx3] W fun e w' => e = .returned (.bool Z) ∧ Below W.heap.size W w'
  ck : ∀ W, L3 w t1 pa1 pn1 pc1 ps1 au1 d1 tx1 t2 pa2 pn2 pc2 ps2 au2 d2 tx2 t3 pa3 pn3 pc3 ps3 au3 d3 tx3 W → Calls Try.prog 9 #[coV t1 pa1 pn1 pc1 au1 d1 tx1] W fun e w' => e = .returned (.int .i64 E) ∧ Below W.heap.size W w'
  cm : ∀ W, L3 w t1 pa1 pn1 pc1 ps1 au1 d1 tx1 t2 pa2 pn2 pc2 ps2 au2 d2 tx2 t3 pa3 pn3 pc3 ps3 au3 d3 tx3 W → Calls Try.prog 17 #[cmt t1 pa1 pn1 pc1 au1 d1 tx1, cmt t2 pa2 pn2 pc2 au2 d2 tx2] W fun e w' => e = .returned (.bool O) ∧ Below W.heap.size W w'
  oa : X = true → ∀ W, L3 w t1 pa1 pn1 pc1 ps1 au1 d1 tx1 t2 pa2 pn2 pc2 ps2 au2 d2 tx2 t3 pa3 pn3 pc3 ps3 au3 d3 tx3 W → Calls Try.prog 11 #[coV t1 pa1 pn1 pc1 au1 d1 tx1] W fun e w' => e = .returned (.tuple #[.int .u64 ID, .int .i64 0]) ∧ Below W.heap.size W w'
  ob : X = true → ∀ W, L3 w t1 pa1 pn1 pc1 ps1 au1 d1 tx1 t2 pa2 pn2 pc2 ps2 au2 d2 tx2 t3 pa3 pn3 pc3 ps3 au3 d3 tx3 W → Calls Try.prog 11 #[coV t2 pa2 pn2 pc2 au2 d2 tx2] W fun e w' => e = .returned (.tuple #[.int .u64 ID, .int .i64 0]) ∧ Below W.heap.size W w'
  tr : ∀ W, L3 w t1 pa1 pn1 pc1 ps1 au1 d1 tx1 t2 pa2 pn2 pc2 ps2 au2 d2 tx2 t3 pa3 pn3 pc3 ps3 au3 d3 tx3 W → Calls Try.prog 14 #[coV t1 pa1 pn1 pc1 au1 d1 tx1, trV none 0 0] W fun e w' => e = .returned (.bool false) ∧ Below W.heap.size W w'

set_option maxRecDepth 100000 in
set_option maxHeartbeats 8000000 in
theorem same_yes1 (t1 : Int) (pa1 : Option Addr) (pn1 pc1 : Nat) (ps1 : List Int) (au1 : ByteArray) (d1 : Int) (tx1 : ByteArray) (t2 : Int) (pa2 : Option Addr) (pn2 pc2 : Nat) (ps2 : List Int) (au2 : ByteArray) (d2 : Int) (tx2 : ByteArray) (t3 : Int) (pa3 : Option Addr) (pn3 pc3 : Nat) (ps3 : List Int) (au3 : ByteArray) (d3 : Int) (tx3 : ByteArray) (ID : Int)  (hid : ID ≠ 0) (w : World) (h1 : Com w t1 pa1 pn1 pc1 ps1 au1 d1 tx1) (h2 : Com w t2 pa2 pn2 pc2 ps2 au2 d2 tx2) (h3 : Com w t3 pa3 pn3 pc3 ps3 au3 d3 tx3) (hS : SS w t1 pa1 pn1 pc1 ps1 au1 d1 tx1 t2 pa2 pn2 pc2 ps2 au2 d2 tx2 t3 pa3 pn3 pc3 ps3 au3 d3 tx3 true true true true 0 ID) :
    Calls Try.prog 6 #[cmt t1 pa1 pn1 pc1 au1 d1 tx1, cmt t2 pa2 pn2 pc2 au2 d2 tx2, cmt t3 pa3 pn3 pc3 au3 d3 tx3] w fun e w' => e = .returned (.bool true) ∧ Below w.heap.size w w' := by
  have F0 : Hid (L3 w t1 pa1 pn1 pc1 ps1 au1 d1 tx1 t2 pa2 pn2 pc2 ps2 au2 d2 tx2 t3 pa3 pn3 pc3 ps3 au3 d3 tx3 (((w.alloc (.cells #[.int .u64 t1, .slice pa1 pn1 pc1, .string au1, .int .i64 d1, .string tx1] 28)).alloc (.cells #[.int .u64 t2, .slice pa2 pn2 pc2, .string au2, .int .i64 d2, .string tx2] 28)).alloc (.cells #[.int .u64 t3, .slice pa3 pn3 pc3, .string au3, .int .i64 d3, .string tx3] 28))) := l3_new h1 h2 h3
  have HS : Hid (SS w t1 pa1 pn1 pc1 ps1 au1 d1 tx1 t2 pa2 pn2 pc2 ps2 au2 d2 tx2 t3 pa3 pn3 pc3 ps3 au3 d3 tx3 true true true true 0 ID) := hS
  have HC : Hid (∀ W, L3 w t1 pa1 pn1 pc1 ps1 au1 d1 tx1 t2 pa2 pn2 pc2 ps2 au2 d2 tx2 t3 pa3 pn3 pc3 ps3 au3 d3 tx3 W → W.cell? ⟨w.heap.size, 0, none⟩ = some (.int .u64 t1) ∧ W.cell? ⟨w.heap.size, 1, none⟩ = some (.slice pa1 pn1 pc1) ∧ W.cell? ⟨w.heap.size, 2, none⟩ = some (.string au1) ∧ W.cell? ⟨w.heap.size, 3, none⟩ = some (.int .i64 d1) ∧ W.cell? ⟨w.heap.size, 4, none⟩ = some (.string tx1) ∧ W.cell? ⟨w.heap.size + 1, 0, none⟩ = some (.int .u64 t2) ∧ W.cell? ⟨w.heap.size + 1, 1, none⟩ = some (.slice pa2 pn2 pc2) ∧ W.cell? ⟨w.heap.size + 1, 2, none⟩ = some (.string au2) ∧ W.cell? ⟨w.heap.size + 1, 3, none⟩ = some (.int .i64 d2) ∧ W.cell? ⟨w.heap.size + 1, 4, none⟩ = some (.string tx2) ∧ W.cell? ⟨w.heap.size + 1 + 1, 0, none⟩ = some (.int .u64 t3) ∧ W.cell? ⟨w.heap.size + 1 + 1, 1, none⟩ = some (.slice pa3 pn3 pc3) ∧ W.cell? ⟨w.heap.size + 1 + 1, 2, none⟩ = some (.string au3) ∧ W.cell? ⟨w.heap.size + 1 + 1, 3, none⟩ = some (.int .i64 d3) ∧ W.cell? ⟨w.heap.size + 1 + 1, 4, none⟩ = some (.string tx3)) := fun W h => h.cells
  have hid0 : (ID == 0) = false := beq_eq_false_iff_ne.2 hid
  clear hS h1 h2 h3
  go_enter Try.func6, Try.ntmps6
  go_wp2_with (go_at_call 7; refine (wakes_any _).mono ?_; rintro e w1 ⟨rfl, hB1⟩; have F1 : Hid (L3 w t1 pa1 pn1 pc1 ps1 au1 d1 tx1 t2 pa2 pn2 pc2 ps2 au2 d2 tx2 t3 pa3 pn3 pc3 ps3 au3 d3 tx3 w1.drew) := (F0.out.below hB1).below (belowD (Below.refl _ _)); clear F0 hB1)
  have hS0 := HC.out w1.drew F1.out
  go_region_held3 (fun W => W.cell? ⟨w.heap.size, 0, none⟩ = some (.int .u64 t1) ∧ W.cell? ⟨w.heap.size, 1, none⟩ = some (.slice pa1 pn1 pc1) ∧ W.cell? ⟨w.heap.size, 2, none⟩ = some (.string au1) ∧ W.cell? ⟨w.heap.size, 3, none⟩ = some (.int .i64 d1) ∧ W.cell? ⟨w.heap.size, 4, none⟩ = some (.string tx1) ∧ W.cell? ⟨w.heap.size + 1, 0, none⟩ = some (.int .u64 t2) ∧ W.cell? ⟨w.heap.size + 1, 1, none⟩ = some (.slice pa2 pn2 pc2) ∧ W.cell? ⟨w.heap.size + 1, 2, none⟩ = some (.string au2) ∧ W.cell? ⟨w.heap.size + 1, 3, none⟩ = some (.int .i64 d2) ∧ W.cell? ⟨w.heap.size + 1, 4, none⟩ = some (.string tx2) ∧ W.cell? ⟨w.heap.size + 1 + 1, 0, none⟩ = some (.int .u64 t3) ∧ W.cell? ⟨w.heap.size + 1 + 1, 1, none⟩ = some (.slice pa3 pn3 pc3) ∧ W.cell? ⟨w.heap.size + 1 + 1, 2, none⟩ = some (.string au3) ∧ W.cell? ⟨w.heap.size + 1 + 1, 3, none⟩ = some (.int .i64 d3) ∧ W.cell? ⟨w.heap.size + 1 + 1, 4, none⟩ = some (.string tx3))
    (first | assumption | exact hS0 | exact hS1 | exact hS2 | exact hS3)
    (first
      | (go_at_call 14; refine (HS.out.ab _ F1.out).mono ?_; rintro e w2 ⟨rfl, hB2⟩; have F2 : Hid (L3 w t1 pa1 pn1 pc1 ps1 au1 d1 tx1 t2 pa2 pn2 pc2 ps2 au2 d2 tx2 t3 pa3 pn3 pc3 ps3 au3 d3 tx3 w2) := F1.out.below hB2; have hS1 := HC.out w2 F2.out; clear F1 hB2)
      | (go_at_call 14; refine (HS.out.bc _ F2.out).mono ?_; rintro e w3 ⟨rfl, hB3⟩; have F3 : Hid (L3 w t1 pa1 pn1 pc1 ps1 au1 d1 tx1 t2 pa2 pn2 pc2 ps2 au2 d2 tx2 t3 pa3 pn3 pc3 ps3 au3 d3 tx3 w3) := F2.out.below hB3; have hS2 := HC.out w3 F3.out; clear F2 hB3)
      | (go_at_call 14; refine (HS.out.ac _ F3.out).mono ?_; rintro e w4 ⟨rfl, hB4⟩; have F4 : Hid (L3 w t1 pa1 pn1 pc1 ps1 au1 d1 tx1 t2 pa2 pn2 pc2 ps2 au2 d2 tx2 t3 pa3 pn3 pc3 ps3 au3 d3 tx3 w4) := F3.out.below hB4; have hS3 := HC.out w4 F4.out; clear F3 hB4))
  clear hS0 hS1 hS2
  obtain ⟨a0, a1, a2, a3, a4, b0, b1, b2, b3, b4, _⟩ := hS3
  go_wp2_with first
    | (go_at_call 14; refine (HS.out.ba _ F4.out).mono ?_; rintro e w5 ⟨rfl, hB5⟩; have F5 : Hid (L3 w t1 pa1 pn1 pc1 ps1 au1 d1 tx1 t2 pa2 pn2 pc2 ps2 au2 d2 tx2 t3 pa3 pn3 pc3 ps3 au3 d3 tx3 w5) := F4.out.below hB5; obtain ⟨p0, p1, p2, p3, p4, _⟩ := HC.out w5 F5.out; clear F4 hB5 a0 a1 a2 a3 a4 b0 b1 b2 b3 b4)
    | (go_at_call 9; refine (HS.out.ck _ F5.out).mono ?_; rintro e w6 ⟨rfl, hB6⟩; have F6 : Hid (L3 w t1 pa1 pn1 pc1 ps1 au1 d1 tx1 t2 pa2 pn2 pc2 ps2 au2 d2 tx2 t3 pa3 pn3 pc3 ps3 au3 d3 tx3 w6) := F5.out.below hB6; obtain ⟨q0, q1, q2, q3, q4, q5, q6, q7, q8, q9, _⟩ := HC.out w6 F6.out; clear F5 hB6 p0 p1 p2 p3 p4)
    | (go_at_call 17; refine (HS.out.cm _ F6.out).mono ?_; rintro e w7 ⟨rfl, hB7⟩; have F7 : Hid (L3 w t1 pa1 pn1 pc1 ps1 au1 d1 tx1 t2 pa2 pn2 pc2 ps2 au2 d2 tx2 t3 pa3 pn3 pc3 ps3 au3 d3 tx3 w7) := F6.out.below hB7; obtain ⟨r0, r1, r2, r3, r4, _⟩ := HC.out w7 F7.out; clear F6 hB7 q0 q1 q2 q3 q4 q5 q6 q7 q8 q9)
    | (go_at_call 11; refine (HS.out.oa rfl _ F7.out).mono ?_; rintro e w8 ⟨rfl, hB8⟩; have F8 : Hid (L3 w t1 pa1 pn1 pc1 ps1 au1 d1 tx1 t2 pa2 pn2 pc2 ps2 au2 d2 tx2 t3 pa3 pn3 pc3 ps3 au3 d3 tx3 w8) := F7.out.below hB8; obtain ⟨_, _, _, _, _, s0, s1, s2, s3, s4, _⟩ := HC.out w8 F8.out; clear F7 hB8 r0 r1 r2 r3 r4)
    | (go_at_call 11; refine (HS.out.ob rfl _ F8.out).mono ?_; rintro e w9 ⟨rfl, hB9⟩; have F9 : Hid (L3 w t1 pa1 pn1 pc1 ps1 au1 d1 tx1 t2 pa2 pn2 pc2 ps2 au2 d2 tx2 t3 pa3 pn3 pc3 ps3 au3 d3 tx3 w9) := F8.out.below hB9; obtain ⟨v0, v1, v2, v3, v4, _⟩ := HC.out w9 F9.out; clear F8 hB9 s0 s1 s2 s3 s4)
    | (go_at_call 14; refine (HS.out.tr _ F9.out).mono ?_; rintro e w10 ⟨rfl, hB10⟩; have F10 : Hid (L3 w t1 pa1 pn1 pc1 ps1 au1 d1 tx1 t2 pa2 pn2 pc2 ps2 au2 d2 tx2 t3 pa3 pn3 pc3 ps3 au3 d3 tx3 w10) := F9.out.below hB10; clear hB10)
    | (go_at_call 7; refine (wakes_any _).mono ?_; rintro e w11 ⟨rfl, hB11⟩)
  go_ret
  exact ⟨rfl, (F10.out.below hB11).bel⟩

set_option maxRecDepth 100000 in
set_option maxHeartbeats 8000000 in
theorem same_yes2 (t1 : Int) (pa1 : Option Addr) (pn1 pc1 : Nat) (ps1 : List Int) (au1 : ByteArray) (d1 : Int) (tx1 : ByteArray) (t2 : Int) (pa2 : Option Addr) (pn2 pc2 : Nat) (ps2 : List Int) (au2 : ByteArray) (d2 : Int) (tx2 : ByteArray) (t3 : Int) (pa3 : Option Addr) (pn3 pc3 : Nat) (ps3 : List Int) (au3 : ByteArray) (d3 : Int) (tx3 : ByteArray) (Z : Bool) (ID : Int) (hid : ID ≠ 0) (w : World) (h1 : Com w t1 pa1 pn1 pc1 ps1 au1 d1 tx1) (h2 : Com w t2 pa2 pn2 pc2 ps2 au2 d2 tx2) (h3 : Com w t3 pa3 pn3 pc3 ps3 au3 d3 tx3) (hS : SS w t1 pa1 pn1 pc1 ps1 au1 d1 tx1 t2 pa2 pn2 pc2 ps2 au2 d2 tx2 t3 pa3 pn3 pc3 ps3 au3 d3 tx3 true false Z true 0 ID) :
    Calls Try.prog 6 #[cmt t1 pa1 pn1 pc1 au1 d1 tx1, cmt t2 pa2 pn2 pc2 au2 d2 tx2, cmt t3 pa3 pn3 pc3 au3 d3 tx3] w fun e w' => e = .returned (.bool true) ∧ Below w.heap.size w w' := by
  have F0 : Hid (L3 w t1 pa1 pn1 pc1 ps1 au1 d1 tx1 t2 pa2 pn2 pc2 ps2 au2 d2 tx2 t3 pa3 pn3 pc3 ps3 au3 d3 tx3 (((w.alloc (.cells #[.int .u64 t1, .slice pa1 pn1 pc1, .string au1, .int .i64 d1, .string tx1] 28)).alloc (.cells #[.int .u64 t2, .slice pa2 pn2 pc2, .string au2, .int .i64 d2, .string tx2] 28)).alloc (.cells #[.int .u64 t3, .slice pa3 pn3 pc3, .string au3, .int .i64 d3, .string tx3] 28))) := l3_new h1 h2 h3
  have HS : Hid (SS w t1 pa1 pn1 pc1 ps1 au1 d1 tx1 t2 pa2 pn2 pc2 ps2 au2 d2 tx2 t3 pa3 pn3 pc3 ps3 au3 d3 tx3 true false Z true 0 ID) := hS
  have HC : Hid (∀ W, L3 w t1 pa1 pn1 pc1 ps1 au1 d1 tx1 t2 pa2 pn2 pc2 ps2 au2 d2 tx2 t3 pa3 pn3 pc3 ps3 au3 d3 tx3 W → W.cell? ⟨w.heap.size, 0, none⟩ = some (.int .u64 t1) ∧ W.cell? ⟨w.heap.size, 1, none⟩ = some (.slice pa1 pn1 pc1) ∧ W.cell? ⟨w.heap.size, 2, none⟩ = some (.string au1) ∧ W.cell? ⟨w.heap.size, 3, none⟩ = some (.int .i64 d1) ∧ W.cell? ⟨w.heap.size, 4, none⟩ = some (.string tx1) ∧ W.cell? ⟨w.heap.size + 1, 0, none⟩ = some (.int .u64 t2) ∧ W.cell? ⟨w.heap.size + 1, 1, none⟩ = some (.slice pa2 pn2 pc2) ∧ W.cell? ⟨w.heap.size + 1, 2, none⟩ = some (.string au2) ∧ W.cell? ⟨w.heap.size + 1, 3, none⟩ = some (.int .i64 d2) ∧ W.cell? ⟨w.heap.size + 1, 4, none⟩ = some (.string tx2) ∧ W.cell? ⟨w.heap.size + 1 + 1, 0, none⟩ = some (.int .u64 t3) ∧ W.cell? ⟨w.heap.size + 1 + 1, 1, none⟩ = some (.slice pa3 pn3 pc3) ∧ W.cell? ⟨w.heap.size + 1 + 1, 2, none⟩ = some (.string au3) ∧ W.cell? ⟨w.heap.size + 1 + 1, 3, none⟩ = some (.int .i64 d3) ∧ W.cell? ⟨w.heap.size + 1 + 1, 4, none⟩ = some (.string tx3)) := fun W h => h.cells
  have hid0 : (ID == 0) = false := beq_eq_false_iff_ne.2 hid
  clear hS h1 h2 h3
  go_enter Try.func6, Try.ntmps6
  go_wp2_with (go_at_call 7; refine (wakes_any _).mono ?_; rintro e w1 ⟨rfl, hB1⟩; have F1 : Hid (L3 w t1 pa1 pn1 pc1 ps1 au1 d1 tx1 t2 pa2 pn2 pc2 ps2 au2 d2 tx2 t3 pa3 pn3 pc3 ps3 au3 d3 tx3 w1.drew) := (F0.out.below hB1).below (belowD (Below.refl _ _)); clear F0 hB1)
  have hS0 := HC.out w1.drew F1.out
  go_region_held3 (fun W => W.cell? ⟨w.heap.size, 0, none⟩ = some (.int .u64 t1) ∧ W.cell? ⟨w.heap.size, 1, none⟩ = some (.slice pa1 pn1 pc1) ∧ W.cell? ⟨w.heap.size, 2, none⟩ = some (.string au1) ∧ W.cell? ⟨w.heap.size, 3, none⟩ = some (.int .i64 d1) ∧ W.cell? ⟨w.heap.size, 4, none⟩ = some (.string tx1) ∧ W.cell? ⟨w.heap.size + 1, 0, none⟩ = some (.int .u64 t2) ∧ W.cell? ⟨w.heap.size + 1, 1, none⟩ = some (.slice pa2 pn2 pc2) ∧ W.cell? ⟨w.heap.size + 1, 2, none⟩ = some (.string au2) ∧ W.cell? ⟨w.heap.size + 1, 3, none⟩ = some (.int .i64 d2) ∧ W.cell? ⟨w.heap.size + 1, 4, none⟩ = some (.string tx2) ∧ W.cell? ⟨w.heap.size + 1 + 1, 0, none⟩ = some (.int .u64 t3) ∧ W.cell? ⟨w.heap.size + 1 + 1, 1, none⟩ = some (.slice pa3 pn3 pc3) ∧ W.cell? ⟨w.heap.size + 1 + 1, 2, none⟩ = some (.string au3) ∧ W.cell? ⟨w.heap.size + 1 + 1, 3, none⟩ = some (.int .i64 d3) ∧ W.cell? ⟨w.heap.size + 1 + 1, 4, none⟩ = some (.string tx3))
    (first | assumption | exact hS0 | exact hS1 | exact hS2 | exact hS3)
    (first
      | (go_at_call 14; refine (HS.out.ab _ F1.out).mono ?_; rintro e w2 ⟨rfl, hB2⟩; have F2 : Hid (L3 w t1 pa1 pn1 pc1 ps1 au1 d1 tx1 t2 pa2 pn2 pc2 ps2 au2 d2 tx2 t3 pa3 pn3 pc3 ps3 au3 d3 tx3 w2) := F1.out.below hB2; have hS1 := HC.out w2 F2.out; clear F1 hB2)
      | (go_at_call 14; refine (HS.out.bc _ F2.out).mono ?_; rintro e w3 ⟨rfl, hB3⟩; have F3 : Hid (L3 w t1 pa1 pn1 pc1 ps1 au1 d1 tx1 t2 pa2 pn2 pc2 ps2 au2 d2 tx2 t3 pa3 pn3 pc3 ps3 au3 d3 tx3 w3) := F2.out.below hB3; have hS2 := HC.out w3 F3.out; clear F2 hB3)
      | (go_at_call 14; refine (HS.out.ac _ F3.out).mono ?_; rintro e w4 ⟨rfl, hB4⟩; have F4 : Hid (L3 w t1 pa1 pn1 pc1 ps1 au1 d1 tx1 t2 pa2 pn2 pc2 ps2 au2 d2 tx2 t3 pa3 pn3 pc3 ps3 au3 d3 tx3 w4) := F3.out.below hB4; have hS3 := HC.out w4 F4.out; clear F3 hB4))
  clear hS0 hS1 hS2
  obtain ⟨a0, a1, a2, a3, a4, b0, b1, b2, b3, b4, _⟩ := hS3
  go_wp2_with first
    | (go_at_call 14; refine (HS.out.ba _ F4.out).mono ?_; rintro e w5 ⟨rfl, hB5⟩; have F5 : Hid (L3 w t1 pa1 pn1 pc1 ps1 au1 d1 tx1 t2 pa2 pn2 pc2 ps2 au2 d2 tx2 t3 pa3 pn3 pc3 ps3 au3 d3 tx3 w5) := F4.out.below hB5; obtain ⟨p0, p1, p2, p3, p4, _⟩ := HC.out w5 F5.out; clear F4 hB5 a0 a1 a2 a3 a4 b0 b1 b2 b3 b4)
    | (go_at_call 9; refine (HS.out.ck _ F5.out).mono ?_; rintro e w6 ⟨rfl, hB6⟩; have F6 : Hid (L3 w t1 pa1 pn1 pc1 ps1 au1 d1 tx1 t2 pa2 pn2 pc2 ps2 au2 d2 tx2 t3 pa3 pn3 pc3 ps3 au3 d3 tx3 w6) := F5.out.below hB6; obtain ⟨q0, q1, q2, q3, q4, q5, q6, q7, q8, q9, _⟩ := HC.out w6 F6.out; clear F5 hB6 p0 p1 p2 p3 p4)
    | (go_at_call 17; refine (HS.out.cm _ F6.out).mono ?_; rintro e w7 ⟨rfl, hB7⟩; have F7 : Hid (L3 w t1 pa1 pn1 pc1 ps1 au1 d1 tx1 t2 pa2 pn2 pc2 ps2 au2 d2 tx2 t3 pa3 pn3 pc3 ps3 au3 d3 tx3 w7) := F6.out.below hB7; obtain ⟨r0, r1, r2, r3, r4, _⟩ := HC.out w7 F7.out; clear F6 hB7 q0 q1 q2 q3 q4 q5 q6 q7 q8 q9)
    | (go_at_call 11; refine (HS.out.oa rfl _ F7.out).mono ?_; rintro e w8 ⟨rfl, hB8⟩; have F8 : Hid (L3 w t1 pa1 pn1 pc1 ps1 au1 d1 tx1 t2 pa2 pn2 pc2 ps2 au2 d2 tx2 t3 pa3 pn3 pc3 ps3 au3 d3 tx3 w8) := F7.out.below hB8; obtain ⟨_, _, _, _, _, s0, s1, s2, s3, s4, _⟩ := HC.out w8 F8.out; clear F7 hB8 r0 r1 r2 r3 r4)
    | (go_at_call 11; refine (HS.out.ob rfl _ F8.out).mono ?_; rintro e w9 ⟨rfl, hB9⟩; have F9 : Hid (L3 w t1 pa1 pn1 pc1 ps1 au1 d1 tx1 t2 pa2 pn2 pc2 ps2 au2 d2 tx2 t3 pa3 pn3 pc3 ps3 au3 d3 tx3 w9) := F8.out.below hB9; obtain ⟨v0, v1, v2, v3, v4, _⟩ := HC.out w9 F9.out; clear F8 hB9 s0 s1 s2 s3 s4)
    | (go_at_call 14; refine (HS.out.tr _ F9.out).mono ?_; rintro e w10 ⟨rfl, hB10⟩; have F10 : Hid (L3 w t1 pa1 pn1 pc1 ps1 au1 d1 tx1 t2 pa2 pn2 pc2 ps2 au2 d2 tx2 t3 pa3 pn3 pc3 ps3 au3 d3 tx3 w10) := F9.out.below hB10; clear hB10)
    | (go_at_call 7; refine (wakes_any _).mono ?_; rintro e w11 ⟨rfl, hB11⟩)
  go_ret
  exact ⟨rfl, (F10.out.below hB11).bel⟩

set_option maxRecDepth 100000 in
set_option maxHeartbeats 8000000 in
theorem same_no1 (t1 : Int) (pa1 : Option Addr) (pn1 pc1 : Nat) (ps1 : List Int) (au1 : ByteArray) (d1 : Int) (tx1 : ByteArray) (t2 : Int) (pa2 : Option Addr) (pn2 pc2 : Nat) (ps2 : List Int) (au2 : ByteArray) (d2 : Int) (tx2 : ByteArray) (t3 : Int) (pa3 : Option Addr) (pn3 pc3 : Nat) (ps3 : List Int) (au3 : ByteArray) (d3 : Int) (tx3 : ByteArray) (Y Z : Bool) (ID : Int) (w : World) (h1 : Com w t1 pa1 pn1 pc1 ps1 au1 d1 tx1) (h2 : Com w t2 pa2 pn2 pc2 ps2 au2 d2 tx2) (h3 : Com w t3 pa3 pn3 pc3 ps3 au3 d3 tx3) (hS : SS w t1 pa1 pn1 pc1 ps1 au1 d1 tx1 t2 pa2 pn2 pc2 ps2 au2 d2 tx2 t3 pa3 pn3 pc3 ps3 au3 d3 tx3 false Y Z false 0 ID) :
    Calls Try.prog 6 #[cmt t1 pa1 pn1 pc1 au1 d1 tx1, cmt t2 pa2 pn2 pc2 au2 d2 tx2, cmt t3 pa3 pn3 pc3 au3 d3 tx3] w fun e w' => e = .returned (.bool true) ∧ Below w.heap.size w w' := by
  have F0 : Hid (L3 w t1 pa1 pn1 pc1 ps1 au1 d1 tx1 t2 pa2 pn2 pc2 ps2 au2 d2 tx2 t3 pa3 pn3 pc3 ps3 au3 d3 tx3 (((w.alloc (.cells #[.int .u64 t1, .slice pa1 pn1 pc1, .string au1, .int .i64 d1, .string tx1] 28)).alloc (.cells #[.int .u64 t2, .slice pa2 pn2 pc2, .string au2, .int .i64 d2, .string tx2] 28)).alloc (.cells #[.int .u64 t3, .slice pa3 pn3 pc3, .string au3, .int .i64 d3, .string tx3] 28))) := l3_new h1 h2 h3
  have HS : Hid (SS w t1 pa1 pn1 pc1 ps1 au1 d1 tx1 t2 pa2 pn2 pc2 ps2 au2 d2 tx2 t3 pa3 pn3 pc3 ps3 au3 d3 tx3 false Y Z false 0 ID) := hS
  have HC : Hid (∀ W, L3 w t1 pa1 pn1 pc1 ps1 au1 d1 tx1 t2 pa2 pn2 pc2 ps2 au2 d2 tx2 t3 pa3 pn3 pc3 ps3 au3 d3 tx3 W → W.cell? ⟨w.heap.size, 0, none⟩ = some (.int .u64 t1) ∧ W.cell? ⟨w.heap.size, 1, none⟩ = some (.slice pa1 pn1 pc1) ∧ W.cell? ⟨w.heap.size, 2, none⟩ = some (.string au1) ∧ W.cell? ⟨w.heap.size, 3, none⟩ = some (.int .i64 d1) ∧ W.cell? ⟨w.heap.size, 4, none⟩ = some (.string tx1) ∧ W.cell? ⟨w.heap.size + 1, 0, none⟩ = some (.int .u64 t2) ∧ W.cell? ⟨w.heap.size + 1, 1, none⟩ = some (.slice pa2 pn2 pc2) ∧ W.cell? ⟨w.heap.size + 1, 2, none⟩ = some (.string au2) ∧ W.cell? ⟨w.heap.size + 1, 3, none⟩ = some (.int .i64 d2) ∧ W.cell? ⟨w.heap.size + 1, 4, none⟩ = some (.string tx2) ∧ W.cell? ⟨w.heap.size + 1 + 1, 0, none⟩ = some (.int .u64 t3) ∧ W.cell? ⟨w.heap.size + 1 + 1, 1, none⟩ = some (.slice pa3 pn3 pc3) ∧ W.cell? ⟨w.heap.size + 1 + 1, 2, none⟩ = some (.string au3) ∧ W.cell? ⟨w.heap.size + 1 + 1, 3, none⟩ = some (.int .i64 d3) ∧ W.cell? ⟨w.heap.size + 1 + 1, 4, none⟩ = some (.string tx3)) := fun W h => h.cells
  clear hS h1 h2 h3
  go_enter Try.func6, Try.ntmps6
  go_wp2_with (go_at_call 7; refine (wakes_any _).mono ?_; rintro e w1 ⟨rfl, hB1⟩; have F1 : Hid (L3 w t1 pa1 pn1 pc1 ps1 au1 d1 tx1 t2 pa2 pn2 pc2 ps2 au2 d2 tx2 t3 pa3 pn3 pc3 ps3 au3 d3 tx3 w1.drew) := (F0.out.below hB1).below (belowD (Below.refl _ _)); clear F0 hB1)
  have hS0 := HC.out w1.drew F1.out
  go_region_held3 (fun W => W.cell? ⟨w.heap.size, 0, none⟩ = some (.int .u64 t1) ∧ W.cell? ⟨w.heap.size, 1, none⟩ = some (.slice pa1 pn1 pc1) ∧ W.cell? ⟨w.heap.size, 2, none⟩ = some (.string au1) ∧ W.cell? ⟨w.heap.size, 3, none⟩ = some (.int .i64 d1) ∧ W.cell? ⟨w.heap.size, 4, none⟩ = some (.string tx1) ∧ W.cell? ⟨w.heap.size + 1, 0, none⟩ = some (.int .u64 t2) ∧ W.cell? ⟨w.heap.size + 1, 1, none⟩ = some (.slice pa2 pn2 pc2) ∧ W.cell? ⟨w.heap.size + 1, 2, none⟩ = some (.string au2) ∧ W.cell? ⟨w.heap.size + 1, 3, none⟩ = some (.int .i64 d2) ∧ W.cell? ⟨w.heap.size + 1, 4, none⟩ = some (.string tx2) ∧ W.cell? ⟨w.heap.size + 1 + 1, 0, none⟩ = some (.int .u64 t3) ∧ W.cell? ⟨w.heap.size + 1 + 1, 1, none⟩ = some (.slice pa3 pn3 pc3) ∧ W.cell? ⟨w.heap.size + 1 + 1, 2, none⟩ = some (.string au3) ∧ W.cell? ⟨w.heap.size + 1 + 1, 3, none⟩ = some (.int .i64 d3) ∧ W.cell? ⟨w.heap.size + 1 + 1, 4, none⟩ = some (.string tx3))
    (first | assumption | exact hS0 | exact hS1 | exact hS2 | exact hS3)
    (first
      | (go_at_call 14; refine (HS.out.ab _ F1.out).mono ?_; rintro e w2 ⟨rfl, hB2⟩; have F2 : Hid (L3 w t1 pa1 pn1 pc1 ps1 au1 d1 tx1 t2 pa2 pn2 pc2 ps2 au2 d2 tx2 t3 pa3 pn3 pc3 ps3 au3 d3 tx3 w2) := F1.out.below hB2; have hS1 := HC.out w2 F2.out; clear F1 hB2)
      | (go_at_call 14; refine (HS.out.bc _ F2.out).mono ?_; rintro e w3 ⟨rfl, hB3⟩; have F3 : Hid (L3 w t1 pa1 pn1 pc1 ps1 au1 d1 tx1 t2 pa2 pn2 pc2 ps2 au2 d2 tx2 t3 pa3 pn3 pc3 ps3 au3 d3 tx3 w3) := F2.out.below hB3; have hS2 := HC.out w3 F3.out; clear F2 hB3)
      | (go_at_call 14; refine (HS.out.ac _ F3.out).mono ?_; rintro e w4 ⟨rfl, hB4⟩; have F4 : Hid (L3 w t1 pa1 pn1 pc1 ps1 au1 d1 tx1 t2 pa2 pn2 pc2 ps2 au2 d2 tx2 t3 pa3 pn3 pc3 ps3 au3 d3 tx3 w4) := F3.out.below hB4; have hS3 := HC.out w4 F4.out; clear F3 hB4))
  clear hS0 hS1 hS2
  obtain ⟨a0, a1, a2, a3, a4, b0, b1, b2, b3, b4, _⟩ := hS3
  go_wp2_with first
    | (go_at_call 14; refine (HS.out.ba _ F4.out).mono ?_; rintro e w5 ⟨rfl, hB5⟩; have F5 : Hid (L3 w t1 pa1 pn1 pc1 ps1 au1 d1 tx1 t2 pa2 pn2 pc2 ps2 au2 d2 tx2 t3 pa3 pn3 pc3 ps3 au3 d3 tx3 w5) := F4.out.below hB5; obtain ⟨p0, p1, p2, p3, p4, _⟩ := HC.out w5 F5.out; clear F4 hB5 a0 a1 a2 a3 a4 b0 b1 b2 b3 b4)
    | (go_at_call 9; refine (HS.out.ck _ F5.out).mono ?_; rintro e w6 ⟨rfl, hB6⟩; have F6 : Hid (L3 w t1 pa1 pn1 pc1 ps1 au1 d1 tx1 t2 pa2 pn2 pc2 ps2 au2 d2 tx2 t3 pa3 pn3 pc3 ps3 au3 d3 tx3 w6) := F5.out.below hB6; obtain ⟨q0, q1, q2, q3, q4, q5, q6, q7, q8, q9, _⟩ := HC.out w6 F6.out; clear F5 hB6 p0 p1 p2 p3 p4)
    | (go_at_call 17; refine (HS.out.cm _ F6.out).mono ?_; rintro e w7 ⟨rfl, hB7⟩; have F7 : Hid (L3 w t1 pa1 pn1 pc1 ps1 au1 d1 tx1 t2 pa2 pn2 pc2 ps2 au2 d2 tx2 t3 pa3 pn3 pc3 ps3 au3 d3 tx3 w7) := F6.out.below hB7; obtain ⟨r0, r1, r2, r3, r4, _⟩ := HC.out w7 F7.out; clear F6 hB7 q0 q1 q2 q3 q4 q5 q6 q7 q8 q9)
    | (go_at_call 14; refine (HS.out.tr _ F7.out).mono ?_; rintro e w10 ⟨rfl, hB10⟩; have F10 : Hid (L3 w t1 pa1 pn1 pc1 ps1 au1 d1 tx1 t2 pa2 pn2 pc2 ps2 au2 d2 tx2 t3 pa3 pn3 pc3 ps3 au3 d3 tx3 w10) := F7.out.below hB10; clear hB10)
    | (go_at_call 7; refine (wakes_any _).mono ?_; rintro e w11 ⟨rfl, hB11⟩)
  go_ret
  exact ⟨rfl, (F10.out.below hB11).bel⟩

set_option maxRecDepth 100000 in
set_option maxHeartbeats 8000000 in
theorem same_no2 (t1 : Int) (pa1 : Option Addr) (pn1 pc1 : Nat) (ps1 : List Int) (au1 : ByteArray) (d1 : Int) (tx1 : ByteArray) (t2 : Int) (pa2 : Option Addr) (pn2 pc2 : Nat) (ps2 : List Int) (au2 : ByteArray) (d2 : Int) (tx2 : ByteArray) (t3 : Int) (pa3 : Option Addr) (pn3 pc3 : Nat) (ps3 : List Int) (au3 : ByteArray) (d3 : Int) (tx3 : ByteArray) (Y Z O : Bool) (E ID : Int) (hE : E ≠ 0) (w : World) (h1 : Com w t1 pa1 pn1 pc1 ps1 au1 d1 tx1) (h2 : Com w t2 pa2 pn2 pc2 ps2 au2 d2 tx2) (h3 : Com w t3 pa3 pn3 pc3 ps3 au3 d3 tx3) (hS : SS w t1 pa1 pn1 pc1 ps1 au1 d1 tx1 t2 pa2 pn2 pc2 ps2 au2 d2 tx2 t3 pa3 pn3 pc3 ps3 au3 d3 tx3 false Y Z O E ID) :
    Calls Try.prog 6 #[cmt t1 pa1 pn1 pc1 au1 d1 tx1, cmt t2 pa2 pn2 pc2 au2 d2 tx2, cmt t3 pa3 pn3 pc3 au3 d3 tx3] w fun e w' => e = .returned (.bool true) ∧ Below w.heap.size w w' := by
  have F0 : Hid (L3 w t1 pa1 pn1 pc1 ps1 au1 d1 tx1 t2 pa2 pn2 pc2 ps2 au2 d2 tx2 t3 pa3 pn3 pc3 ps3 au3 d3 tx3 (((w.alloc (.cells #[.int .u64 t1, .slice pa1 pn1 pc1, .string au1, .int .i64 d1, .string tx1] 28)).alloc (.cells #[.int .u64 t2, .slice pa2 pn2 pc2, .string au2, .int .i64 d2, .string tx2] 28)).alloc (.cells #[.int .u64 t3, .slice pa3 pn3 pc3, .string au3, .int .i64 d3, .string tx3] 28))) := l3_new h1 h2 h3
  have HS : Hid (SS w t1 pa1 pn1 pc1 ps1 au1 d1 tx1 t2 pa2 pn2 pc2 ps2 au2 d2 tx2 t3 pa3 pn3 pc3 ps3 au3 d3 tx3 false Y Z O E ID) := hS
  have HC : Hid (∀ W, L3 w t1 pa1 pn1 pc1 ps1 au1 d1 tx1 t2 pa2 pn2 pc2 ps2 au2 d2 tx2 t3 pa3 pn3 pc3 ps3 au3 d3 tx3 W → W.cell? ⟨w.heap.size, 0, none⟩ = some (.int .u64 t1) ∧ W.cell? ⟨w.heap.size, 1, none⟩ = some (.slice pa1 pn1 pc1) ∧ W.cell? ⟨w.heap.size, 2, none⟩ = some (.string au1) ∧ W.cell? ⟨w.heap.size, 3, none⟩ = some (.int .i64 d1) ∧ W.cell? ⟨w.heap.size, 4, none⟩ = some (.string tx1) ∧ W.cell? ⟨w.heap.size + 1, 0, none⟩ = some (.int .u64 t2) ∧ W.cell? ⟨w.heap.size + 1, 1, none⟩ = some (.slice pa2 pn2 pc2) ∧ W.cell? ⟨w.heap.size + 1, 2, none⟩ = some (.string au2) ∧ W.cell? ⟨w.heap.size + 1, 3, none⟩ = some (.int .i64 d2) ∧ W.cell? ⟨w.heap.size + 1, 4, none⟩ = some (.string tx2) ∧ W.cell? ⟨w.heap.size + 1 + 1, 0, none⟩ = some (.int .u64 t3) ∧ W.cell? ⟨w.heap.size + 1 + 1, 1, none⟩ = some (.slice pa3 pn3 pc3) ∧ W.cell? ⟨w.heap.size + 1 + 1, 2, none⟩ = some (.string au3) ∧ W.cell? ⟨w.heap.size + 1 + 1, 3, none⟩ = some (.int .i64 d3) ∧ W.cell? ⟨w.heap.size + 1 + 1, 4, none⟩ = some (.string tx3)) := fun W h => h.cells
  have hE0 : (E == 0) = false := beq_eq_false_iff_ne.2 hE
  clear hS h1 h2 h3
  go_enter Try.func6, Try.ntmps6
  go_wp2_with (go_at_call 7; refine (wakes_any _).mono ?_; rintro e w1 ⟨rfl, hB1⟩; have F1 : Hid (L3 w t1 pa1 pn1 pc1 ps1 au1 d1 tx1 t2 pa2 pn2 pc2 ps2 au2 d2 tx2 t3 pa3 pn3 pc3 ps3 au3 d3 tx3 w1.drew) := (F0.out.below hB1).below (belowD (Below.refl _ _)); clear F0 hB1)
  have hS0 := HC.out w1.drew F1.out
  go_region_held3 (fun W => W.cell? ⟨w.heap.size, 0, none⟩ = some (.int .u64 t1) ∧ W.cell? ⟨w.heap.size, 1, none⟩ = some (.slice pa1 pn1 pc1) ∧ W.cell? ⟨w.heap.size, 2, none⟩ = some (.string au1) ∧ W.cell? ⟨w.heap.size, 3, none⟩ = some (.int .i64 d1) ∧ W.cell? ⟨w.heap.size, 4, none⟩ = some (.string tx1) ∧ W.cell? ⟨w.heap.size + 1, 0, none⟩ = some (.int .u64 t2) ∧ W.cell? ⟨w.heap.size + 1, 1, none⟩ = some (.slice pa2 pn2 pc2) ∧ W.cell? ⟨w.heap.size + 1, 2, none⟩ = some (.string au2) ∧ W.cell? ⟨w.heap.size + 1, 3, none⟩ = some (.int .i64 d2) ∧ W.cell? ⟨w.heap.size + 1, 4, none⟩ = some (.string tx2) ∧ W.cell? ⟨w.heap.size + 1 + 1, 0, none⟩ = some (.int .u64 t3) ∧ W.cell? ⟨w.heap.size + 1 + 1, 1, none⟩ = some (.slice pa3 pn3 pc3) ∧ W.cell? ⟨w.heap.size + 1 + 1, 2, none⟩ = some (.string au3) ∧ W.cell? ⟨w.heap.size + 1 + 1, 3, none⟩ = some (.int .i64 d3) ∧ W.cell? ⟨w.heap.size + 1 + 1, 4, none⟩ = some (.string tx3))
    (first | assumption | exact hS0 | exact hS1 | exact hS2 | exact hS3)
    (first
      | (go_at_call 14; refine (HS.out.ab _ F1.out).mono ?_; rintro e w2 ⟨rfl, hB2⟩; have F2 : Hid (L3 w t1 pa1 pn1 pc1 ps1 au1 d1 tx1 t2 pa2 pn2 pc2 ps2 au2 d2 tx2 t3 pa3 pn3 pc3 ps3 au3 d3 tx3 w2) := F1.out.below hB2; have hS1 := HC.out w2 F2.out; clear F1 hB2)
      | (go_at_call 14; refine (HS.out.bc _ F2.out).mono ?_; rintro e w3 ⟨rfl, hB3⟩; have F3 : Hid (L3 w t1 pa1 pn1 pc1 ps1 au1 d1 tx1 t2 pa2 pn2 pc2 ps2 au2 d2 tx2 t3 pa3 pn3 pc3 ps3 au3 d3 tx3 w3) := F2.out.below hB3; have hS2 := HC.out w3 F3.out; clear F2 hB3)
      | (go_at_call 14; refine (HS.out.ac _ F3.out).mono ?_; rintro e w4 ⟨rfl, hB4⟩; have F4 : Hid (L3 w t1 pa1 pn1 pc1 ps1 au1 d1 tx1 t2 pa2 pn2 pc2 ps2 au2 d2 tx2 t3 pa3 pn3 pc3 ps3 au3 d3 tx3 w4) := F3.out.below hB4; have hS3 := HC.out w4 F4.out; clear F3 hB4))
  clear hS0 hS1 hS2
  obtain ⟨a0, a1, a2, a3, a4, b0, b1, b2, b3, b4, _⟩ := hS3
  go_wp2_with first
    | (go_at_call 14; refine (HS.out.ba _ F4.out).mono ?_; rintro e w5 ⟨rfl, hB5⟩; have F5 : Hid (L3 w t1 pa1 pn1 pc1 ps1 au1 d1 tx1 t2 pa2 pn2 pc2 ps2 au2 d2 tx2 t3 pa3 pn3 pc3 ps3 au3 d3 tx3 w5) := F4.out.below hB5; obtain ⟨p0, p1, p2, p3, p4, _⟩ := HC.out w5 F5.out; clear F4 hB5 a0 a1 a2 a3 a4 b0 b1 b2 b3 b4)
    | (go_at_call 9; refine (HS.out.ck _ F5.out).mono ?_; rintro e w6 ⟨rfl, hB6⟩; have F6 : Hid (L3 w t1 pa1 pn1 pc1 ps1 au1 d1 tx1 t2 pa2 pn2 pc2 ps2 au2 d2 tx2 t3 pa3 pn3 pc3 ps3 au3 d3 tx3 w6) := F5.out.below hB6; obtain ⟨q0, q1, q2, q3, q4, q5, q6, q7, q8, q9, _⟩ := HC.out w6 F6.out; clear F5 hB6 p0 p1 p2 p3 p4)
    | (go_at_call 14; refine (HS.out.tr _ F6.out).mono ?_; rintro e w10 ⟨rfl, hB10⟩; have F10 : Hid (L3 w t1 pa1 pn1 pc1 ps1 au1 d1 tx1 t2 pa2 pn2 pc2 ps2 au2 d2 tx2 t3 pa3 pn3 pc3 ps3 au3 d3 tx3 w10) := F6.out.below hB10; clear hB10)
    | (go_at_call 7; refine (wakes_any _).mono ?_; rintro e w11 ⟨rfl, hB11⟩)
  go_ret
  exact ⟨rfl, (F10.out.below hB11).bel⟩

theorem objectSame_walk (t1 : Int) (pa1 : Option Addr) (pn1 pc1 : Nat) (ps1 : List Int) (au1 : ByteArray) (d1 : Int) (tx1 : ByteArray) (t2 : Int) (pa2 : Option Addr) (pn2 pc2 : Nat) (ps2 : List Int) (au2 : ByteArray) (d2 : Int) (tx2 : ByteArray) (t3 : Int) (pa3 : Option Addr) (pn3 pc3 : Nat) (ps3 : List Int) (au3 : ByteArray) (d3 : Int) (tx3 : ByteArray) (w : World) (h1 : Com w t1 pa1 pn1 pc1 ps1 au1 d1 tx1) (h2 : Com w t2 pa2 pn2 pc2 ps2 au2 d2 tx2) (h3 : Com w t3 pa3 pn3 pc3 ps3 au3 d3 tx3) :
    Calls Try.prog 6 #[cmt t1 pa1 pn1 pc1 au1 d1 tx1, cmt t2 pa2 pn2 pc2 au2 d2 tx2, cmt t3 pa3 pn3 pc3 au3 d3 tx3] w fun e w' => e = .returned (.bool true) ∧ Below w.heap.size w w' := by
  have n1 := h1.len.2.1
  have n2 := h2.len.2.1
  have hS : SS w t1 pa1 pn1 pc1 ps1 au1 d1 tx1 t2 pa2 pn2 pc2 ps2 au2 d2 tx2 t3 pa3 pn3 pc3 ps3 au3 d3 tx3 (decide (comErr t1 ps1 au1 tx1 = 0 ∧ oneC t1 t2 ps1 ps2 au1 au2 d1 d2 tx1 tx2)) (decide (comErr t2 ps2 au2 tx2 = 0 ∧ oneC t2 t3 ps2 ps3 au2 au3 d2 d3 tx2 tx3)) (decide (comErr t1 ps1 au1 tx1 = 0 ∧ oneC t1 t3 ps1 ps3 au1 au3 d1 d3 tx1 tx3)) (decide (oneC t1 t2 ps1 ps2 au1 au2 d1 d2 tx1 tx2)) (comErr t1 ps1 au1 tx1) (idOf (comB t1 ps1 au1 d1 tx1)) := by
    refine ⟨fun W h => Same_ab t1 pa1 pn1 pc1 ps1 au1 d1 tx1 t2 pa2 pn2 pc2 ps2 au2 d2 tx2 W h.c1 h.c2, fun W h => ?_, fun W h => Same_ab t2 pa2 pn2 pc2 ps2 au2 d2 tx2 t3 pa3 pn3 pc3 ps3 au3 d3 tx3 W h.c2 h.c3, fun W h => Same_ab t1 pa1 pn1 pc1 ps1 au1 d1 tx1 t3 pa3 pn3 pc3 ps3 au3 d3 tx3 W h.c1 h.c3, fun W h => Check_com t1 pa1 pn1 pc1 ps1 au1 d1 tx1 W h.c1, fun W h => commits_any t1 t2 pa1 pa2 pn1 pn2 pc1 pc2 au1 au2 d1 d2 tx1 tx2 W ps1 ps2 h.c1.par h.c2.par n1 n2, fun hx W h => ?_, fun hx W h => ?_, fun W h => Same_atree t1 pa1 pn1 pc1 ps1 au1 d1 tx1 W h.c1⟩
    · refine (Same_ab t2 pa2 pn2 pc2 ps2 au2 d2 tx2 t1 pa1 pn1 pc1 ps1 au1 d1 tx1 W h.c2 h.c1).mono fun e w' x => ⟨?_, x.2⟩
      rw [x.1]
      congr 2
      rw [decide_eq_decide]
      constructor
      · rintro ⟨x0, rfl, rfl, rfl, rfl, rfl⟩
        exact ⟨x0, rfl, rfl, rfl, rfl, rfl⟩
      · rintro ⟨x0, rfl, rfl, rfl, rfl, rfl⟩
        exact ⟨x0, rfl, rfl, rfl, rfl, rfl⟩
    · exact Of_com t1 pa1 pn1 pc1 ps1 au1 d1 tx1 W h.c1 (of_decide_eq_true hx).1
    · obtain ⟨x0, x1, x2, x3, x4, x5⟩ := of_decide_eq_true hx
      subst x1 x2 x3 x4 x5
      exact Of_com t1 pa2 pn2 pc2 ps1 au1 d1 tx1 W h.c2 x0
  by_cases h0 : comErr t1 ps1 au1 tx1 = 0
  · by_cases ho : oneC t1 t2 ps1 ps2 au1 au2 d1 d2 tx1 tx2
    · have e1 : decide (comErr t1 ps1 au1 tx1 = 0 ∧ oneC t1 t2 ps1 ps2 au1 au2 d1 d2 tx1 tx2) = true := decide_eq_true ⟨h0, ho⟩
      have e2 : decide (oneC t1 t2 ps1 ps2 au1 au2 d1 d2 tx1 tx2) = true := decide_eq_true ho
      by_cases hy : comErr t2 ps2 au2 tx2 = 0 ∧ oneC t2 t3 ps2 ps3 au2 au3 d2 d3 tx2 tx3
      · have e3 : decide (comErr t2 ps2 au2 tx2 = 0 ∧ oneC t2 t3 ps2 ps3 au2 au3 d2 d3 tx2 tx3) = true := decide_eq_true hy
        have e4 : decide (comErr t1 ps1 au1 tx1 = 0 ∧ oneC t1 t3 ps1 ps3 au1 au3 d1 d3 tx1 tx3) = true := decide_eq_true (by
          obtain ⟨x1, x2, x3, x4, x5⟩ := ho
          subst x1 x2 x3 x4 x5
          exact hy)
        rw [e1, e2, e3, e4, h0] at hS
        exact same_yes1 t1 pa1 pn1 pc1 ps1 au1 d1 tx1 t2 pa2 pn2 pc2 ps2 au2 d2 tx2 t3 pa3 pn3 pc3 ps3 au3 d3 tx3 _ (id_ne _) w h1 h2 h3 hS
      · have e3 : decide (comErr t2 ps2 au2 tx2 = 0 ∧ oneC t2 t3 ps2 ps3 au2 au3 d2 d3 tx2 tx3) = false := decide_eq_false hy
        rw [e1, e2, e3] at hS
        generalize decide (comErr t1 ps1 au1 tx1 = 0 ∧ oneC t1 t3 ps1 ps3 au1 au3 d1 d3 tx1 tx3) = Z at hS
        rw [h0] at hS
        exact same_yes2 t1 pa1 pn1 pc1 ps1 au1 d1 tx1 t2 pa2 pn2 pc2 ps2 au2 d2 tx2 t3 pa3 pn3 pc3 ps3 au3 d3 tx3 Z _ (id_ne _) w h1 h2 h3 hS
    · have e1 : decide (comErr t1 ps1 au1 tx1 = 0 ∧ oneC t1 t2 ps1 ps2 au1 au2 d1 d2 tx1 tx2) = false := decide_eq_false fun x => ho x.2
      have e2 : decide (oneC t1 t2 ps1 ps2 au1 au2 d1 d2 tx1 tx2) = false := decide_eq_false ho
      rw [e1, e2] at hS
      generalize decide (comErr t1 ps1 au1 tx1 = 0 ∧ oneC t1 t3 ps1 ps3 au1 au3 d1 d3 tx1 tx3) = Z at hS
      rw [h0] at hS
      exact same_no1 t1 pa1 pn1 pc1 ps1 au1 d1 tx1 t2 pa2 pn2 pc2 ps2 au2 d2 tx2 t3 pa3 pn3 pc3 ps3 au3 d3 tx3 _ Z _ w h1 h2 h3 hS
  · have e1 : decide (comErr t1 ps1 au1 tx1 = 0 ∧ oneC t1 t2 ps1 ps2 au1 au2 d1 d2 tx1 tx2) = false := decide_eq_false fun x => h0 x.1
    rw [e1] at hS
    exact same_no2 t1 pa1 pn1 pc1 ps1 au1 d1 tx1 t2 pa2 pn2 pc2 ps2 au2 d2 tx2 t3 pa3 pn3 pc3 ps3 au3 d3 tx3 _ _ _ _ _ h0 w h1 h2 h3 hS
end Go.Proofs.Ytdibdcbihleflab
