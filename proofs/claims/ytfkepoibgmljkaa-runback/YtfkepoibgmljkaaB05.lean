import Derived.Test.YtfkepoibgmljkaaProg
import Derived.Test.YtfkepoibgmljkaaB01
import Derived.Outline
import Derived.BigQuiet
import Derived.Deep.QuietTactic
import Derived.Deep.RegionHeld3
import Derived.Laws.CopyOwn
/- What a Reader of the program is in memory, and the walks of its small inner methods. -/
namespace Go.Proofs.Ytfkepoibgmljkaa
open Go.RowKit

/-- the Reader in block r reads the bytes l, which lie in block g; p of them are read, its error is e -/
structure Rd (w : World) (r g p : Nat) (e : Int) (l : List UInt8) : Prop where
  c0 : w.cell? ⟨r, 0, none⟩ = some (.int .i64 p)
  c1 : w.cell? ⟨r, 1, none⟩ = some (.int .i64 e)
  c2 : w.cell? ⟨r, 2, none⟩ = some (.slice (some ⟨g, 0, none⟩) l.length l.length)
  f0 : w.frozen? ⟨r, 0, none⟩ = false
  f1 : w.frozen? ⟨r, 1, none⟩ = false
  hp : p ≤ l.length
  hl : l.length ≤ maxLen
  ne : r ≠ g
  row : ∀ i, i < l.length → w.cell? ⟨g, i, none⟩ = some (.int .u8 (bt l i))

theorem grownBy_drewN (w : World) (k : Nat) (row : Option Nat) : w.grownBy (w.drewN k) row := by
  exact ⟨rfl, rfl, rfl, Nat.le_refl _, fun _ _ _ => rfl⟩

theorem grownBy_trans {a b c : World} {row : Option Nat} (h : a.grownBy b row) (k : b.grownBy c row) : a.grownBy c row :=
  ⟨k.os.trans h.os, k.tape.trans h.tape, k.output.trans h.output, Nat.le_trans h.size k.size, fun i hi hr => (k.block i (Nat.lt_of_lt_of_le hi h.size) hr).trans (h.block i hi hr)⟩

theorem grownBy_setCell (w : World) (r o : Nat) (v : Value) : w.grownBy (w.setCell ⟨r, o, none⟩ v) (some r) :=
  ⟨rfl, rfl, rfl, by simp [World.setCell], fun k _ hk => Below.heap_setCell _ _ _ _ (fun e => hk (by rw [e]))⟩

theorem grownBy_wide {a b : World} {row : Option Nat} (h : a.grownBy b none) : a.grownBy b row :=
  ⟨h.os, h.tape, h.output, h.size, fun i hi _ => h.block i hi (by simp)⟩

theorem Bytes.drewN {w : World} {a : Option Addr} {n : Nat} {l : List UInt8} (h : Bytes w a n l) (k : Nat) : Bytes (w.drewN k) a n l := by
  refine ⟨h.1, fun hp => ?_⟩
  obtain ⟨b, off, rfl, hc⟩ := h.2 hp
  exact ⟨b, off, rfl, fun i hi => by simpa using hc i hi⟩

/-- bytes stay what they are where another block alone is written -/
theorem Bytes.kept {w w' : World} {a : Option Addr} {n : Nat} {l : List UInt8} {row : Option Nat} (h : Bytes w a n l) (hg : w.grownBy w' row) (hne : ∀ x, a = some x → row ≠ some x.block) : Bytes w' a n l := by
  refine ⟨h.1, fun hp => ?_⟩
  obtain ⟨b, off, rfl, hc⟩ := h.2 hp
  exact ⟨b, off, rfl, fun i hi => hg.cell (hc i hi) (fun e => hne _ rfl e.symm)⟩

theorem Rd.setAt {w : World} {r g p : Nat} {e : Int} {l : List UInt8} (h : Rd w r g p e l) (q : Nat) (hq : q ≤ l.length) : Rd (w.setCell ⟨r, 0, none⟩ (.int .i64 q)) r g q e l where
  c0 := World.cell?_setCell_same _ _ _ h.c0
  c1 := by rw [World.cell?_setCell_other _ _ _ _ (by simp)]; exact h.c1
  c2 := by rw [World.cell?_setCell_other _ _ _ _ (by simp)]; exact h.c2
  f0 := by rw [World.frozen?_setCell]; exact h.f0
  f1 := by rw [World.frozen?_setCell]; exact h.f1
  hp := hq
  hl := h.hl
  ne := h.ne
  row := fun i hi => by rw [World.cell?_setCell_other _ _ _ _ (by simp [h.ne])]; exact h.row i hi

theorem Rd.setErr {w : World} {r g p : Nat} {e : Int} {l : List UInt8} (h : Rd w r g p e l) (x : Int) : Rd (w.setCell ⟨r, 1, none⟩ (.int .i64 x)) r g p x l where
  c0 := by rw [World.cell?_setCell_other _ _ _ _ (by simp)]; exact h.c0
  c1 := World.cell?_setCell_same _ _ _ h.c1
  c2 := by rw [World.cell?_setCell_other _ _ _ _ (by simp)]; exact h.c2
  f0 := by rw [World.frozen?_setCell]; exact h.f0
  f1 := by rw [World.frozen?_setCell]; exact h.f1
  hp := h.hp
  hl := h.hl
  ne := h.ne
  row := fun i hi => by rw [World.cell?_setCell_other _ _ _ _ (by simp [h.ne])]; exact h.row i hi

theorem Rd.drewN {w : World} {r g p : Nat} {e : Int} {l : List UInt8} (h : Rd w r g p e l) (k : Nat) : Rd (w.drewN k) r g p e l :=
  ⟨h.c0, h.c1, h.c2, h.f0, h.f1, h.hp, h.hl, h.ne, h.row⟩

theorem Rd.kept {w w' : World} {r g p : Nat} {e : Int} {l : List UInt8} {row : Option Nat} (h : Rd w r g p e l) (hg : w.grownBy w' row) (h1 : row ≠ some r) (h2 : row ≠ some g) : Rd w' r g p e l where
  c0 := hg.cell h.c0 (fun e => h1 e.symm)
  c1 := hg.cell h.c1 (fun e => h1 e.symm)
  c2 := hg.cell h.c2 (fun e => h1 e.symm)
  f0 := by rw [World.frozen?_of_block (hg.block r (World.block_lt_of_cell? w ⟨r, 0, none⟩ h.c0) (fun e => h1 e.symm))]; exact h.f0
  f1 := by rw [World.frozen?_of_block (hg.block r (World.block_lt_of_cell? w ⟨r, 0, none⟩ h.c0) (fun e => h1 e.symm))]; exact h.f1
  hp := h.hp
  hl := h.hl
  ne := h.ne
  row := fun i hi => hg.cell (h.row i hi) (fun e => h2 e.symm)

theorem stuck_nil (w : World) : Calls Try.prog 51 #[.pointer none] w fun e w' => e = .returned (.bool true) ∧ w' = w := by
  go_enter Try.func51, Try.ntmps51
  go_wp2
  go_ret
  exact ⟨rfl, rfl⟩

theorem stuck_no (w : World) (r : Nat) (h : w.cell? ⟨r, 1, none⟩ = some (.int .i64 0)) : Calls Try.prog 51 #[.pointer (some ⟨r, 0, none⟩)] w fun e w' => e = .returned (.bool false) ∧ w' = w := by
  go_enter Try.func51, Try.ntmps51
  go_wp2
  go_ret
  exact ⟨rfl, rfl⟩

theorem stuck_yes (w : World) (r : Nat) (x : Int) (h : w.cell? ⟨r, 1, none⟩ = some (.int .i64 x)) (hx : (x != 0) = true) : Calls Try.prog 51 #[.pointer (some ⟨r, 0, none⟩)] w fun e w' => e = .returned (.bool true) ∧ w' = w := by
  go_enter Try.func51, Try.ntmps51
  go_wp2
  go_ret
  exact ⟨rfl, rfl⟩

theorem settle_no (w : World) (r : Nat) (n x : Int) (y : Value) (h : w.cell? ⟨r, 1, none⟩ = some y) (hf : w.frozen? ⟨r, 1, none⟩ = false) (hx : (x != 0) = true) :
    Calls Try.prog 54 #[.pointer (some ⟨r, 0, none⟩), .int .i64 n, .int .i64 x] w fun e w' => e = .returned (.bool false) ∧ w' = w.setCell ⟨r, 1, none⟩ (.int .i64 x) := by
  go_enter Try.func54, Try.ntmps54
  go_wp2
  go_ret
  exact ⟨rfl, rfl⟩

theorem settle_yes (w : World) (r : Nat) (p n : Int) (h : w.cell? ⟨r, 0, none⟩ = some (.int .i64 p)) (hf : w.frozen? ⟨r, 0, none⟩ = false) (h0 : 0 ≤ p) (h1 : 0 ≤ n) (hs : p + n ≤ 9223372036854775807) :
    Calls Try.prog 54 #[.pointer (some ⟨r, 0, none⟩), .int .i64 n, .int .i64 0] w fun e w' => e = .returned (.bool true) ∧ w' = w.setCell ⟨r, 0, none⟩ (.int .i64 (p + n)) := by
  go_enter Try.func54, Try.ntmps54
  go_wp2
  go_ret
  exact ⟨rfl, rfl⟩

theorem rest_in (w : World) (r g p n : Nat) (h0 : w.cell? ⟨r, 0, none⟩ = some (.int .i64 p)) (h2 : w.cell? ⟨r, 2, none⟩ = some (.slice (some ⟨g, 0, none⟩) n n)) (hp : p < n) :
    Calls Try.prog 53 #[.pointer (some ⟨r, 0, none⟩)] w fun e w' => e = .returned (.slice (some ⟨g, p, none⟩) (n - p) (n - p)) ∧ ∃ k, w' = w.drewN k := by
  have i0 : (0 : Int) ≤ (p : Int) := by omega
  have i1 : (p : Int) ≤ (n : Int) := by omega
  have i2 : ¬ n = p := by omega
  go_enter Try.func53, Try.ntmps53
  go_wp2
  go_quiet (fail)
  go_wp2
  go_ret
  exact ⟨rfl, _, rfl⟩

theorem rest_end (w : World) (r g n : Nat) (h0 : w.cell? ⟨r, 0, none⟩ = some (.int .i64 n)) (h2 : w.cell? ⟨r, 2, none⟩ = some (.slice (some ⟨g, 0, none⟩) n n)) :
    Calls Try.prog 53 #[.pointer (some ⟨r, 0, none⟩)] w fun e w' => e = .returned (.slice (some ⟨g, 0, none⟩) 0 0) ∧ ∃ k, w' = w.drewN k := by
  have i0 : (0 : Int) ≤ (n : Int) := by omega
  go_enter Try.func53, Try.ntmps53
  go_wp2
  go_quiet (fail)
  go_wp2
  go_ret
  exact ⟨rfl, _, rfl⟩

theorem rest_any (w : World) (r g p m : Nat) (e : Int) (l : List UInt8) (h : Rd w r g p e l) (hm : l.length = p + m) :
    Calls Try.prog 53 #[.pointer (some ⟨r, 0, none⟩)] w fun e w' => ∃ q k, e = .returned (.slice (some ⟨g, q, none⟩) m m) ∧ Bytes w (some ⟨g, q, none⟩) m (l.drop p) ∧ w' = w.drewN k := by
  by_cases hp : p < l.length
  · have e0 : l.length - p = m := by omega
    refine (rest_in w r g p l.length h.c0 h.c2 hp).mono fun e w' ⟨he, k, hw⟩ => ⟨p, k, by rw [← e0]; exact he, ⟨by simp; omega, fun _ => ⟨g, p, rfl, fun i hi => ?_⟩⟩, hw⟩
    rw [bt_drop]
    exact h.row (p + i) (by omega)
  · have hpe : p = l.length := by have := h.hp; omega
    obtain rfl : m = 0 := by omega
    exact (rest_end w r g l.length (by rw [← hpe]; exact h.c0) h.c2).mono fun e w' ⟨he, k, hw⟩ => ⟨0, k, he, ⟨by simp; omega, fun h0 => by omega⟩, hw⟩

theorem take_yes (w : World) (r g p m n : Nat) (l : List UInt8) (h : Rd w r g p 0 l) (hm : l.length = p + m) (hn : n ≤ m) :
    Calls Try.prog 55 #[.pointer (some ⟨r, 0, none⟩), .int .i64 n] w fun e w' => ∃ a c, e = .returned (.tuple #[.slice a n c, .bool true]) ∧ Bytes w' a n ((l.drop p).take n) ∧ Rd w' r g (p + n) 0 l ∧ w.grownBy w' (some r) := by
  have hx := h.hl
  unfold maxLen at hx
  have hpm : p + m ≤ 9223372036854775807 := by omega
  have h0 := h.c0
  have f0 := h.f0
  have i0 : (0 : Int) ≤ (n : Int) := by omega
  have i1 : (n : Int) ≤ (m : Int) := by omega
  have i2 : decide ((n : Int) < 0) = false := by simp
  have i3 : decide (m < n) = false := by simp; omega
  have Hm : Hid (l.length = p + m) := hm
  clear hx hm
  go_enter Try.func55, Try.ntmps55
  go_wp2_with fail
  refine (stuck_no w r h.c1).mono ?_
  rintro e w' ⟨rfl, rfl⟩
  go_wp2_with fail
  refine (rest_any _ r g p m 0 l h Hm.out).mono ?_
  rintro e w1 ⟨q, k, rfl, hb, rfl⟩
  go_wp2_with fail
  go_region_held3 (fun _ => True) (exact trivial)
    (first | (go_at_call 54; refine (settle_yes _ r p n ?_ ?_ ?_ ?_ ?_).mono ?_; (simp [*]); (simp [*]); (omega); (omega); (omega); rintro e w2 ⟨rfl, rfl⟩))
  go_wp2
  go_ret2
  refine ⟨_, _, rfl, ?_, ?_, ?_⟩
  · exact ((hb.take n (by omega)).drewN _).kept (grownBy_setCell _ _ _ _) (by simp [h.ne])
  · exact (h.drewN _).setAt (p + n) (by have := Hm.out; omega)
  · exact grownBy_trans (grownBy_drewN _ _ _) (grownBy_setCell _ _ _ _)

theorem take_nil (w : World) (n : Int) : Calls Try.prog 55 #[.pointer none, .int .i64 n] w fun e w' => e = .returned (.tuple #[.slice none 0 0, .bool false]) ∧ w' = w := by
  go_enter Try.func55, Try.ntmps55
  go_wp2_with fail
  refine (stuck_nil w).mono ?_
  rintro e w' ⟨rfl, rfl⟩
  go_wp2
  go_ret2
  exact ⟨rfl, rfl⟩

theorem take_stuck (w : World) (r g p : Nat) (x n : Int) (l : List UInt8) (h : Rd w r g p x l) (hx : (x != 0) = true) :
    Calls Try.prog 55 #[.pointer (some ⟨r, 0, none⟩), .int .i64 n] w fun e w' => e = .returned (.tuple #[.slice none 0 0, .bool false]) ∧ w' = w := by
  go_enter Try.func55, Try.ntmps55
  go_wp2_with fail
  refine (stuck_yes w r x h.c1 hx).mono ?_
  rintro e w' ⟨rfl, rfl⟩
  go_wp2
  go_ret2
  exact ⟨rfl, rfl⟩

theorem take_arg (w : World) (r g p m : Nat) (n : Int) (l : List UInt8) (h : Rd w r g p 0 l) (hm : l.length = p + m) (hn : n < 0) :
    Calls Try.prog 55 #[.pointer (some ⟨r, 0, none⟩), .int .i64 n] w fun e w' => e = .returned (.tuple #[.slice none 0 0, .bool false]) ∧ Rd w' r g p 2 l ∧ w.grownBy w' (some r) := by
  have Hm : Hid (l.length = p + m) := hm
  have i2 : decide (n < 0) = true := by simpa using hn
  clear hm
  go_enter Try.func55, Try.ntmps55
  go_wp2_with fail
  refine (stuck_no w r h.c1).mono ?_
  rintro e w' ⟨rfl, rfl⟩
  go_wp2_with fail
  refine (rest_any _ r g p m 0 l h Hm.out).mono ?_
  rintro e w1 ⟨q, k, rfl, hb, rfl⟩
  go_wp2_with fail
  refine (settle_no _ r 0 2 _ (h.drewN k).c1 (h.drewN k).f1 rfl).mono ?_
  rintro e w2 ⟨rfl, rfl⟩
  go_wp2
  go_ret2
  exact ⟨rfl, (h.drewN k).setErr 2, grownBy_trans (grownBy_drewN _ _ _) (grownBy_setCell _ _ _ _)⟩

theorem take_short (w : World) (r g p m : Nat) (n : Int) (l : List UInt8) (h : Rd w r g p 0 l) (hm : l.length = p + m) (hn : (m : Int) < n) :
    Calls Try.prog 55 #[.pointer (some ⟨r, 0, none⟩), .int .i64 n] w fun e w' => e = .returned (.tuple #[.slice none 0 0, .bool false]) ∧ Rd w' r g p 110 l ∧ w.grownBy w' (some r) := by
  have Hm : Hid (l.length = p + m) := hm
  have i2 : decide (n < 0) = false := by simp; omega
  have i3 : decide ((m : Int) < n) = true := by simpa using hn
  clear hm
  go_enter Try.func55, Try.ntmps55
  go_wp2_with fail
  refine (stuck_no w r h.c1).mono ?_
  rintro e w' ⟨rfl, rfl⟩
  go_wp2_with fail
  refine (rest_any _ r g p m 0 l h Hm.out).mono ?_
  rintro e w1 ⟨q, k, rfl, hb, rfl⟩
  go_wp2_with fail
  refine (settle_no _ r 0 110 _ (h.drewN k).c1 (h.drewN k).f1 rfl).mono ?_
  rintro e w2 ⟨rfl, rfl⟩
  go_wp2
  go_ret2
  exact ⟨rfl, (h.drewN k).setErr 110, grownBy_trans (grownBy_drewN _ _ _) (grownBy_setCell _ _ _ _)⟩

end Go.Proofs.Ytfkepoibgmljkaa

/- The walks of a Reader's methods that need no number's form: Byte, Raw, Err, Left, End; and of Read itself. -/
namespace Go.Proofs.Ytfkepoibgmljkaa
open Go.RowKit

theorem err_nil (w : World) : Calls Try.prog 38 #[.pointer none] w fun e w' => e = .returned (.int .i64 1) ∧ w' = w := by
  go_enter Try.func38, Try.ntmps38
  go_wp2
  go_ret
  exact ⟨rfl, rfl⟩

theorem err_any (w : World) (r : Nat) (x : Int) (h : w.cell? ⟨r, 1, none⟩ = some (.int .i64 x)) : Calls Try.prog 38 #[.pointer (some ⟨r, 0, none⟩)] w fun e w' => e = .returned (.int .i64 x) ∧ w' = w := by
  go_enter Try.func38, Try.ntmps38
  go_wp2
  go_ret
  exact ⟨rfl, rfl⟩

theorem left_nil (w : World) : Calls Try.prog 39 #[.pointer none] w fun e w' => e = .returned (.int .i64 0) ∧ w' = w := by
  go_enter Try.func39, Try.ntmps39
  go_wp2
  go_ret
  exact ⟨rfl, rfl⟩

theorem left_any (w : World) (r g p m : Nat) (x : Int) (l : List UInt8) (h : Rd w r g p x l) (hm : l.length = p + m) :
    Calls Try.prog 39 #[.pointer (some ⟨r, 0, none⟩)] w fun e w' => e = .returned (.int .i64 m) ∧ ∃ k, w' = w.drewN k := by
  have Hm : Hid (l.length = p + m) := hm
  clear hm
  go_enter Try.func39, Try.ntmps39
  go_wp2_with fail
  refine (rest_any _ r g p m x l h Hm.out).mono ?_
  rintro e w1 ⟨q, k, rfl, hb, rfl⟩
  go_wp2
  go_ret
  exact ⟨rfl, _, rfl⟩

end Go.Proofs.Ytfkepoibgmljkaa

/- Bytes turned into a string; what the program says of a byte's type. -/
namespace Go.Proofs.Ytfkepoibgmljkaa
open Go.RowKit

theorem Try.info5 : (Try.prog.info? 5).map (fun i => (i.zero, i.size, i.bytes)) = some (some (.int .u8 0), 1, 1) := by kernel_rfl

theorem fold_push (l : List UInt8) : ∀ acc : ByteArray, (l.map fun c => (c.toNat : Int)).foldl (fun r n => r.push (UInt8.ofNat n.toNat)) acc = ⟨acc.data ++ l.toArray⟩ := by
  induction l with
  | nil => intro acc; simp
  | cons c l ih =>
    intro acc
    rw [List.map_cons, List.foldl_cons, ih]
    congr 1
    simp [ByteArray.push]

theorem run_string (w : World) (a : Option Addr) (n cap : Nat) (l : List UInt8) (hb : Bytes w a n l) :
    (convert 23 9 (.slice a n cap)).run Try.prog w = .ok (.string ⟨l.toArray⟩) w := by
  rw [run_convert_bytes_string w 23 9 5 a n cap Try.underlying23 Try.underlying5 Try.underlying9]
  cases a with
  | none =>
    have h0 : n = 0 := by
      by_cases h : n = 0
      · exact h
      · obtain ⟨b, off, hx, _⟩ := hb.2 (by omega)
        cases hx
    have hl : l = [] := List.eq_nil_of_length_eq_zero (by rw [hb.1]; exact h0)
    subst hl
    simp [Conv.bytesToString, Sem.run_pure]
    rfl
  | some x =>
    have hld : (loadCells x n).run Try.prog w = .ok ((l.map fun c => (c.toNat : Int)).map (Value.int .u8)).toArray w := by
      have hrun := run_loadCells_list (P := Try.prog) w x (cellsOf l) (fun j v hj => ?_)
      · rw [cellsOf_length, hb.1] at hrun
        rw [hrun]
        simp [cellsOf]
      · have hjl : j < l.length := by have := (List.getElem?_eq_some_iff.1 hj).1; rw [cellsOf_length] at this; exact this
        have hl := hb.1
        obtain ⟨b, off, hx, hc⟩ := hb.2 (by omega)
        obtain rfl := Option.some.inj hx
        rw [cellsOf_get l j hjl] at hj
        rw [Addr.add_lit, hc j (by omega)]
        exact hj
    rw [run_bytesToString w x n cap _ hld, fold_push]
    simp

end Go.Proofs.Ytfkepoibgmljkaa
