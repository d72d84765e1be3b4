/- The law's comparisons, of a thing with itself: entries, ids, commits. -/
import Derived.Test.YtdibdcbihleflaaOOdd2
import Derived.Deep.QuietTactic
import Derived.BigQuiet
namespace Go.Proofs.Ytdibdcbihleflaa
open Go.RowKit

theorem below_drewN {n0 : Nat} {w W : World} (h : Below n0 w W) (n : Nat) : Below n0 w (W.drewN n) := ⟨h.os, h.tape, h.output, h.size, h.block⟩
/-- a slice of ids -/
def Ids (w : World) (a : Option Addr) (n : Nat) (l : List Int) : Prop := l.length = n ∧ (0 < n → ∃ b off, a = some ⟨b, off, none⟩ ∧ ∀ (j : Nat) x, l[j]? = some x → w.cell? ⟨b, off + j, none⟩ = some (.int .u64 x))
theorem Ids.kept {w w' : World} {a : Option Addr} {n : Nat} {l : List Int} (h : Ids w a n l) (hB : Below w.heap.size w w') : Ids w' a n l :=
  ⟨h.1, fun h0 => by
    obtain ⟨b, off, e, hc⟩ := h.2 h0
    exact ⟨b, off, e, fun j x hx => (hB.cell (p := ⟨b, off + j, none⟩) (World.block_lt_of_cell? w _ (hc j x hx))).trans (hc j x hx)⟩⟩
/-- a slice of entries -/
abbrev Ent := ByteArray × Bool × Int
def Ents (w : World) (a : Option Addr) (n : Nat) (l : List Ent) : Prop := l.length = n ∧ (0 < n → ∃ b off, a = some ⟨b, off, none⟩ ∧ ∀ (j : Nat) x, l[j]? = some x → w.cell? ⟨b, off + j * 3, none⟩ = some (.string x.1) ∧ w.cell? ⟨b, off + j * 3 + 1, none⟩ = some (.bool x.2.1) ∧ w.cell? ⟨b, off + j * 3 + 2, none⟩ = some (.int .u64 x.2.2))
theorem Ents.kept {w w' : World} {a : Option Addr} {n : Nat} {l : List Ent} (h : Ents w a n l) (hB : Below w.heap.size w w') : Ents w' a n l :=
  ⟨h.1, fun h0 => by
    obtain ⟨b, off, e, hc⟩ := h.2 h0
    refine ⟨b, off, e, fun j x hx => ?_⟩
    obtain ⟨h1, h2, h3⟩ := hc j x hx
    exact ⟨(hB.cell (p := ⟨b, off + j * 3, none⟩) (World.block_lt_of_cell? w _ h1)).trans h1, (hB.cell (p := ⟨b, off + j * 3 + 1, none⟩) (World.block_lt_of_cell? w _ h2)).trans h2, (hB.cell (p := ⟨b, off + j * 3 + 2, none⟩) (World.block_lt_of_cell? w _ h3)).trans h3⟩⟩

set_option maxHeartbeats 2000000 in
theorem ids_same (w : World) (a : Option Addr) (n c d : Nat) (l : List Int) (h : Ids w a n l) (hn : n ≤ 9223372036854775807) :
    Calls Try.prog 37 #[.slice a n c, .slice a n d] w fun e w' => e = .returned (.bool true) ∧ Below w.heap.size w w' := by
  go_enter Try.func37, Try.ntmps37
  go_wp2
  go_loopw [13] (fun i wr => ∃ k : Nat, k ≤ n ∧ i = .int .i64 k ∧ Hid (Below w.heap.size w wr)) (fun i _ => n - (intOf i).toNat)
  case atStart => exact ⟨0, Nat.zero_le _, rfl, Below.refl _ _⟩
  case round =>
    obtain ⟨k, hk, rfl, H⟩ := hrel
    by_cases hlt : k < n
    · obtain ⟨x, hx⟩ : ∃ x, l[k]? = some x := ⟨_, List.getElem?_eq_getElem (by rw [h.1]; exact hlt)⟩
      obtain ⟨b1, o1, rfl, hc1⟩ := h.2 (by omega)
      have q1 : wr.cell? ⟨b1, o1 + k, none⟩ = some (.int .u64 x) := (H.out.cell (p := ⟨b1, o1 + k, none⟩) (World.block_lt_of_cell? w _ (hc1 k x hx))).trans (hc1 k x hx)
      have i1 : (k : Int) < (n : Int) := by omega
      have i2 : ¬ n ≤ k := by omega
      clear hc1 h hx
      go_wp2_with fail
      go_quiet (fail)
      go_wp2_with fail
      go_roundw
      case rel => exact ⟨k + 1, by omega, by simp, below_drewN H.out _⟩
      case measure => simp [intOf]; omega
    · obtain rfl : k = n := by omega
      go_wp2
      go_ret
      exact ⟨rfl, H.out⟩

set_option maxHeartbeats 2000000 in
theorem entries_same (w : World) (a : Option Addr) (n c d : Nat) (l : List Ent) (h : Ents w a n l) (hn : n ≤ 9223372036854775807) :
    Calls Try.prog 18 #[.slice a n c, .slice a n d] w fun e w' => e = .returned (.bool true) ∧ Below w.heap.size w w' := by
  go_enter Try.func18, Try.ntmps18
  go_wp2
  go_loopw [13] (fun i wr => ∃ k : Nat, k ≤ n ∧ i = .int .i64 k ∧ Hid (Below w.heap.size w wr)) (fun i _ => n - (intOf i).toNat)
  case atStart => exact ⟨0, Nat.zero_le _, rfl, Below.refl _ _⟩
  case round =>
    obtain ⟨k, hk, rfl, H⟩ := hrel
    by_cases hlt : k < n
    · obtain ⟨⟨x0, x1, x2⟩, hx⟩ : ∃ x, l[k]? = some x := ⟨_, List.getElem?_eq_getElem (by rw [h.1]; exact hlt)⟩
      obtain ⟨b1, o1, rfl, hc1⟩ := h.2 (by omega)
      obtain ⟨q1, q2, q3⟩ := hc1 k _ hx
      have p1 : wr.cell? ⟨b1, o1 + k * 3, none⟩ = some (.string x0) := (H.out.cell (p := ⟨b1, o1 + k * 3, none⟩) (World.block_lt_of_cell? w _ q1)).trans q1
      have p2 : wr.cell? ⟨b1, o1 + k * 3 + 1, none⟩ = some (.bool x1) := (H.out.cell (p := ⟨b1, o1 + k * 3 + 1, none⟩) (World.block_lt_of_cell? w _ q2)).trans q2
      have p3 : wr.cell? ⟨b1, o1 + k * 3 + 2, none⟩ = some (.int .u64 x2) := (H.out.cell (p := ⟨b1, o1 + k * 3 + 2, none⟩) (World.block_lt_of_cell? w _ q3)).trans q3
      have i1 : (k : Int) < (n : Int) := by omega
      have i2 : ¬ n ≤ k := by omega
      clear hc1 h hx q1 q2 q3
      go_wp2_with fail
      go_quiet (fail)
      go_wp2_with fail
      go_roundw
      case rel => exact ⟨k + 1, by omega, by simp, below_drewN H.out _⟩
      case measure => simp [intOf]; omega
    · obtain rfl : k = n := by omega
      go_wp2
      go_ret
      exact ⟨rfl, H.out⟩

abbrev cmt (t : Int) (pa : Option Addr) (pn pc : Nat) (au : ByteArray) (d : Int) (tx : ByteArray) : Value := .agg #[.int .u64 t, .slice pa pn pc, .string au, .int .i64 d, .string tx]
set_option maxRecDepth 20000 in
set_option maxHeartbeats 2000000 in
theorem commits_same (t : Int) (pa : Option Addr) (pn pc : Nat) (au : ByteArray) (d : Int) (tx : ByteArray) (w : World) (l : List Int) (h : Ids w pa pn l) (hn : pn ≤ 9223372036854775807) :
    Calls Try.prog 21 #[cmt t pa pn pc au d tx, cmt t pa pn pc au d tx] w fun e w' => e = .returned (.bool true) ∧ Below w.heap.size w w' := by
  have hB0 : Below w.heap.size w ((w.alloc (.cells #[.int .u64 t, .slice pa pn pc, .string au, .int .i64 d, .string tx] 42)).alloc (.cells #[.int .u64 t, .slice pa pn pc, .string au, .int .i64 d, .string tx] 42)) := ((Below.refl _ w).alloc (Nat.le_refl _) _).alloc (by simp) _
  have b1 := (Box5.new w (.int .u64 t) (.slice pa pn pc) (.string au) (.int .i64 d) (.string tx)).kept ((Below.refl _ _).alloc (Nat.le_refl _) (.cells #[.int .u64 t, .slice pa pn pc, .string au, .int .i64 d, .string tx] 42))
  have b2 := Box5.new (w.alloc (.cells #[.int .u64 t, .slice pa pn pc, .string au, .int .i64 d, .string tx] 42)) (.int .u64 t) (.slice pa pn pc) (.string au) (.int .i64 d) (.string tx)
  rw [World.size_alloc] at b2
  have cs := ids_same _ pa pn pc pc l (h.kept hB0) hn
  have e1 : (au.toList == au.toList) = true := by simp
  have e2 : (tx.toList == tx.toList) = true := by simp
  go_enter Try.func21, Try.ntmps21
  go_wp2_with (go_at_call 37; refine cs.mono ?_; clear cs; rintro e w1 ⟨rfl, hB⟩; obtain ⟨p0, p1, p2, p3, p4⟩ := (b1.kept hB).cell; obtain ⟨q0, q1, q2, q3, q4⟩ := (b2.kept hB).cell)
  go_ret
  exact ⟨rfl, hB0.trans (hB.mono hB0.size)⟩
theorem omust_commit (t : Int) (pa : Option Addr) (pn pc : Nat) (au : ByteArray) (d : Int) (tx : ByteArray) (w : World) : Calls Try.prog 48 #[.iface 42 (cmt t pa pn pc au d tx)] w fun e w' => e = .returned (cmt t pa pn pc au d tx) ∧ Below w.heap.size w w' := by
  have h1 := must_commit (cmt t pa pn pc au d tx)
  go_enter Try.func48, Try.ntmps48
  go_wp2
  refine bodyPost_ret (v := cmt t pa pn pc au d tx) (by simp [results, Try.results48, go_sem]) rfl ⟨rfl, (Below.refl _ w).alloc (Nat.le_refl _) _⟩
theorem must_commit_any (t : Int) (pa : Option Addr) (pn pc : Nat) (au : ByteArray) (d : Int) (tx : ByteArray) (w : World) : Calls Try.prog 22 #[.iface 42 (cmt t pa pn pc au d tx)] w fun e w' => e = .returned (cmt t pa pn pc au d tx) ∧ Below w.heap.size w w' := by
  have hB0 : Below w.heap.size w (w.alloc (.cells #[.int .u64 0, .slice none 0 0, .string ⟨#[]⟩, .int .i64 0, .string ⟨#[]⟩] 42)) := (Below.refl _ w).alloc (Nat.le_refl _) _
  go_enter Try.func22, Try.ntmps22
  go_wp2_with (go_at_call 48; refine (omust_commit t pa pn pc au d tx _).mono ?_; rintro e w1 ⟨rfl, hB⟩; have hb : Box5 w1 w.heap.size (.int .u64 0) (.slice none 0 0) (.string ⟨#[]⟩) (.int .i64 0) (.string ⟨#[]⟩) := ((hB.block w.heap.size (by simp)).trans (World.alloc_heap_new _ _)); obtain ⟨cb0, cb1, cb2, cb3, cb4⟩ := hb.cell; obtain ⟨fb0, fb1, fb2, fb3, fb4⟩ := hb.frozen)
  obtain ⟨d0, d1, d2, d3, d4⟩ := (hb.all (.int .u64 t) (.slice pa pn pc) (.string au) (.int .i64 d) (.string tx)).cell
  refine bodyPost_ret (v := cmt t pa pn pc au d tx) (by simp [results, Try.results22, go_sem, d0, d1, d2, d3, d4]) rfl ⟨rfl, below5 (hB0.trans (hB.mono (by simp))) (Nat.le_refl _) _ _ _ _ _⟩
end Go.Proofs.Ytdibdcbihleflaa
