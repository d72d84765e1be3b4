import Derived.Test.YtdjodigimhgklaaGreatDoorMD01
import Derived.Test.YtdjodigimhgklaaGreatDoorProg
import Derived.Outline
import Derived.Maps.AppendAt
import Derived.Test.YtdjodigimhgklaaGreatDoorMD04
import Derived.BigQuiet
import Derived.Deep.QuietTactic
import Derived.Deep.RegionHeld3
import Derived.Test.YtdjodigimhgklaaGreatDoorMD03
/- append of one value to a row that is owned, as a step of a walk; at whatever types. -/
namespace Go.Proofs.YtdjodigimhgklaaGreatDoor
open Go.RowKit

theorem run_push1 (w : World) (T E ty : TypeId) (i0 : TypeInfo) (z : Value) (by_ : Nat) (hu : Tryz.prog.underlying T = some (.slice E)) (hi : Tryz.prog.info? E = some i0) (hz0 : i0.zero = some z) (hz1 : i0.size = 1) (hz2 : i0.bytes = by_) (hzc : z.cells.size = 1)
    (v : Value) (n : Nat) (xs : List Value) (hown : w.ownsRow 0 E 1 v n xs) (G : Nat) (x : Value) (hx : w.cell? ⟨G, 0, none⟩ = some x) (h1 : x.oneCell' = true) (hn : n + 1 ≤ maxLen) (hm : (n + 1) * by_ ≤ 140737488355328) :
    ∃ v' w', (Builtin.append_ #[T, T] ty #[v, .slice (some ⟨G, 0, none⟩) 1 1]).run Tryz.prog w = .ok v' w' ∧ w'.ownsRow 0 E 1 v' (n + 1) (xs ++ [x]) ∧ w.grownBy w' v.ownBlock ∧ (v'.ownBlock = v.ownBlock ∨ v'.ownBlock = some w.heap.size) := by
  obtain ⟨v', w', h2, h3, h4, _, h5⟩ := run_append_own_at (P := Tryz.prog) w 0 T ty E i0 z 1 by_ hu hi hz0 hz1 hz2 hzc (by omega) v n xs hown ⟨G, 0, none⟩ 1 1 [x] (by simp) (by
    intro j u hj
    cases j with
    | zero => simp at hj; subst hj; rw [Addr.add_lit]; exact hx
    | succ j => simp at hj) (by simp [h1]) hn hm (Nat.zero_le _)
  exact ⟨v', w', h2, h3, h4, h5⟩

theorem step_push1 (w : World) {ops : Array Oper} {o : Oper} {a : Act} {K : Act → World → Prop} {Q : Exit → Act → World → Prop} {F : Prop} (hgd : o.guard = none) (s y : Operand) (T E : TypeId) (i0 : TypeInfo) (z : Value) (by_ : Nat)
    (ho : o.op = .call { callee := .builtin .append, args := #[s, y], argTypes := #[T, T] })
    (hu : Tryz.prog.underlying T = some (.slice E)) (hi : Tryz.prog.info? E = some i0) (hz0 : i0.zero = some z) (hz1 : i0.size = 1) (hz2 : i0.bytes = by_) (hzc : z.cells.size = 1)
    (v : Value) (n : Nat) (xs : List Value) (hs : a.eval s = v) (hown : w.ownsRow 0 E 1 v n xs) (G : Nat) (x : Value) (hy : a.eval y = .slice (some ⟨G, 0, none⟩) 1 1) (hx : w.cell? ⟨G, 0, none⟩ = some x) (h1 : x.oneCell' = true) (hn : n + 1 ≤ maxLen) (hm : (n + 1) * by_ ≤ 140737488355328)
    (h : ∀ v' w', w'.ownsRow 0 E 1 v' (n + 1) (xs ++ [x]) → w.grownBy w' v.ownBlock → (v'.ownBlock = v.ownBlock ∨ v'.ownBlock = some w.heap.size) → K (a.put o.dst v') w') :
    if Region.wanted o (yielded ops a.tmps) = true then Oper.wp Tryz.prog o a w K Q else F := by
  have hw : Region.wanted o (yielded ops a.tmps) = true := by simp [Region.wanted, hgd]
  rw [if_pos hw]
  obtain ⟨v', w', hr, h2, h3, h4⟩ := run_push1 w T E o.type i0 z by_ hu hi hz0 hz1 hz2 hzc v n xs hown G x hx h1 hn hm
  unfold Oper.wp execOp
  simp only [ho, resolve, invoke, builtin, Sem.run_bind, Sem.run_pure, Result.andThen_ok, List.map_toArray, List.map_cons, List.map_nil, hs, hy, hr]
  exact h v' w' h2 h3 h4

theorem wpList_push1 (w : World) {ops : Array Oper} {rest : List Oper} {o : Oper} {a : Act} {Q : Exit → Act → World → Prop} (hgd : Region.wanted o (yielded ops a.tmps) = true) (s y : Operand) (T E : TypeId) (i0 : TypeInfo) (z : Value) (by_ : Nat)
    (ho : o.op = .call { callee := .builtin .append, args := #[s, y], argTypes := #[T, T] })
    (hu : Tryz.prog.underlying T = some (.slice E)) (hi : Tryz.prog.info? E = some i0) (hz0 : i0.zero = some z) (hz1 : i0.size = 1) (hz2 : i0.bytes = by_) (hzc : z.cells.size = 1)
    (v : Value) (n : Nat) (xs : List Value) (hs : a.eval s = v) (hown : w.ownsRow 0 E 1 v n xs) (G : Nat) (x : Value) (hy : a.eval y = .slice (some ⟨G, 0, none⟩) 1 1) (hx : w.cell? ⟨G, 0, none⟩ = some x) (h1 : x.oneCell' = true) (hn : n + 1 ≤ maxLen) (hm : (n + 1) * by_ ≤ 140737488355328)
    (h : ∀ v' w', w'.ownsRow 0 E 1 v' (n + 1) (xs ++ [x]) → w.grownBy w' v.ownBlock → (v'.ownBlock = v.ownBlock ∨ v'.ownBlock = some w.heap.size) → wpList Tryz.prog ops Q rest (a.put o.dst v') w') : wpList Tryz.prog ops Q (o :: rest) a w := by
  obtain ⟨v', w', hr, h2, h3, h4⟩ := run_push1 w T E o.type i0 z by_ hu hi hz0 hz1 hz2 hzc v n xs hown G x hx h1 hn hm
  unfold wpList
  rw [if_pos hgd]
  unfold Oper.wp execOp
  simp only [ho, resolve, invoke, builtin, Sem.run_bind, Sem.run_pure, Result.andThen_ok, List.map_toArray, List.map_cons, List.map_nil, hs, hy, hr]
  exact .inl (h v' w' h2 h3 h4)

end Go.Proofs.YtdjodigimhgklaaGreatDoor

/- The walk of the document's Hash: it answers the same function of the bytes as the program's. -/
namespace Go.Proofs.YtdjodigimhgklaaGreatDoor
open Go.RowKit

set_option maxHeartbeats 400000 in
theorem refHash_any (a : Option Addr) (n cap : Nat) (l : List UInt8) (w : World) (hb : Bytes w a n l) (hm : n ≤ maxLen) :
    Calls Tryz.prog 93 #[.slice a n cap] w fun e w' => e = .returned (.int .u64 (hashTo l n)) ∧ w' = w := by
  unfold maxLen at hm
  obtain ⟨hl, hc⟩ := hb
  go_enter Tryz.func93, Tryz.ntmps93
  go_wp2
  go_loop [3, 4] (fun h i => ∃ k : Nat, k ≤ n ∧ i = .int .i64 k ∧ h = .int .u64 (hashTo l k)) (fun _ i => n - (intOf i).toNat)
  case atStart => exact ⟨0, Nat.zero_le _, rfl, rfl⟩
  case round =>
    obtain ⟨k, hk, rfl, rfl⟩ := hrel
    by_cases hlt : k < n
    · obtain ⟨b, off, rfl, hcell⟩ := hc (by omega)
      have hck := hcell k hlt
      have b0 := bt_lo l k
      have b1 := bt_hi l k
      have h0 := hashTo_lo l k
      have h1 := hashTo_hi l k
      clear hcell hc
      go_wp2
      go_round
      case rel => exact ⟨k + 1, by omega, by go_num, by rw [hashTo_succ]⟩
      case measure => simp [intOf]; omega
    · go_wp2
      go_ret
      obtain rfl : k = n := by omega
      exact ⟨rfl, rfl⟩
end Go.Proofs.YtdjodigimhgklaaGreatDoor

/- What a Reader of the program is in memory, and the walks of its small inner methods. -/
namespace Go.Proofs.YtdjodigimhgklaaGreatDoor
open Go.RowKit

/-- the Reader in block r reads the bytes l, which lie in block g; p of them are read, its error is e -/
structure Rd (w : World) (r g p : Nat) (e : Int) (l : List UInt8) : Prop where
  c0 : w.cell? ⟨r, 0, none⟩ = some (.int .i64 p)
  c1 : w.cell? ⟨r, 1, none⟩ = some (.int .i64 e)
  c2 : w.cell? ⟨r, 2, none⟩ = some (.slice (some ⟨g, 0, none⟩) l.length l.length)
  f0 : w.frozen? ⟨r, 0, none⟩ = false
  f1 : w.frozen? ⟨r, 1, none⟩ = false
  hp : p ≤ l.length
  hl : l.length ≤ maxLen
  ne : r ≠ g
  row : ∀ i, i < l.length → w.cell? ⟨g, i, none⟩ = some (.int .u8 (bt l i))

theorem grownBy_drewN (w : World) (k : Nat) (row : Option Nat) : w.grownBy (w.drewN k) row := by
  exact ⟨rfl, rfl, rfl, Nat.le_refl _, fun _ _ _ => rfl⟩

theorem grownBy_trans {a b c : World} {row : Option Nat} (h : a.grownBy b row) (k : b.grownBy c row) : a.grownBy c row :=
  ⟨k.os.trans h.os, k.tape.trans h.tape, k.output.trans h.output, Nat.le_trans h.size k.size, fun i hi hr => (k.block i (Nat.lt_of_lt_of_le hi h.size) hr).trans (h.block i hi hr)⟩

theorem grownBy_setCell (w : World) (r o : Nat) (v : Value) : w.grownBy (w.setCell ⟨r, o, none⟩ v) (some r) :=
  ⟨rfl, rfl, rfl, by simp [World.setCell], fun k _ hk => Below.heap_setCell _ _ _ _ (fun e => hk (by rw [e]))⟩

theorem grownBy_wide {a b : World} {row : Option Nat} (h : a.grownBy b none) : a.grownBy b row :=
  ⟨h.os, h.tape, h.output, h.size, fun i hi _ => h.block i hi (by simp)⟩

theorem Bytes.drewN {w : World} {a : Option Addr} {n : Nat} {l : List UInt8} (h : Bytes w a n l) (k : Nat) : Bytes (w.drewN k) a n l := by
  refine ⟨h.1, fun hp => ?_⟩
  obtain ⟨b, off, rfl, hc⟩ := h.2 hp
  exact ⟨b, off, rfl, fun i hi => hc i hi⟩

/-- bytes stay what they are where another block alone is written -/
theorem Bytes.kept {w w' : World} {a : Option Addr} {n : Nat} {l : List UInt8} {row : Option Nat} (h : Bytes w a n l) (hg : w.grownBy w' row) (hne : ∀ x, a = some x → row ≠ some x.block) : Bytes w' a n l := by
  refine ⟨h.1, fun hp => ?_⟩
  obtain ⟨b, off, rfl, hc⟩ := h.2 hp
  exact ⟨b, off, rfl, fun i hi => hg.cell (hc i hi) (fun e => hne _ rfl e.symm)⟩

theorem Rd.setAt {w : World} {r g p : Nat} {e : Int} {l : List UInt8} (h : Rd w r g p e l) (q : Nat) (hq : q ≤ l.length) : Rd (w.setCell ⟨r, 0, none⟩ (.int .i64 q)) r g q e l where
  c0 := World.cell?_setCell_same _ _ _ h.c0
  c1 := by rw [World.cell?_setCell_other _ _ _ _ (by simp)]; exact h.c1
  c2 := by rw [World.cell?_setCell_other _ _ _ _ (by simp)]; exact h.c2
  f0 := by rw [World.frozen?_setCell]; exact h.f0
  f1 := by rw [World.frozen?_setCell]; exact h.f1
  hp := hq
  hl := h.hl
  ne := h.ne
  row := fun i hi => by rw [World.cell?_setCell_other _ _ _ _ (by simp [h.ne])]; exact h.row i hi

theorem Rd.setErr {w : World} {r g p : Nat} {e : Int} {l : List UInt8} (h : Rd w r g p e l) (x : Int) : Rd (w.setCell ⟨r, 1, none⟩ (.int .i64 x)) r g p x l where
  c0 := by rw [World.cell?_setCell_other _ _ _ _ (by simp)]; exact h.c0
  c1 := World.cell?_setCell_same _ _ _ h.c1
  c2 := by rw [World.cell?_setCell_other _ _ _ _ (by simp)]; exact h.c2
  f0 := by rw [World.frozen?_setCell]; exact h.f0
  f1 := by rw [World.frozen?_setCell]; exact h.f1
  hp := h.hp
  hl := h.hl
  ne := h.ne
  row := fun i hi => by rw [World.cell?_setCell_other _ _ _ _ (by simp [h.ne])]; exact h.row i hi

theorem Rd.drewN {w : World} {r g p : Nat} {e : Int} {l : List UInt8} (h : Rd w r g p e l) (k : Nat) : Rd (w.drewN k) r g p e l :=
  ⟨h.c0, h.c1, h.c2, h.f0, h.f1, h.hp, h.hl, h.ne, h.row⟩

theorem Rd.kept {w w' : World} {r g p : Nat} {e : Int} {l : List UInt8} {row : Option Nat} (h : Rd w r g p e l) (hg : w.grownBy w' row) (h1 : row ≠ some r) (h2 : row ≠ some g) : Rd w' r g p e l where
  c0 := hg.cell h.c0 (fun e => h1 e.symm)
  c1 := hg.cell h.c1 (fun e => h1 e.symm)
  c2 := hg.cell h.c2 (fun e => h1 e.symm)
  f0 := by rw [World.frozen?_of_block (hg.block r (World.block_lt_of_cell? w ⟨r, 0, none⟩ h.c0) (fun e => h1 e.symm))]; exact h.f0
  f1 := by rw [World.frozen?_of_block (hg.block r (World.block_lt_of_cell? w ⟨r, 0, none⟩ h.c0) (fun e => h1 e.symm))]; exact h.f1
  hp := h.hp
  hl := h.hl
  ne := h.ne
  row := fun i hi => hg.cell (h.row i hi) (fun e => h2 e.symm)

theorem stuck_nil (w : World) : Calls Tryz.prog 151 #[.pointer none] w fun e w' => e = .returned (.bool true) ∧ w' = w := by
  go_enter Tryz.func151, Tryz.ntmps151
  go_wp2
  go_ret
  exact ⟨rfl, rfl⟩

theorem stuck_no (w : World) (r : Nat) (h : w.cell? ⟨r, 1, none⟩ = some (.int .i64 0)) : Calls Tryz.prog 151 #[.pointer (some ⟨r, 0, none⟩)] w fun e w' => e = .returned (.bool false) ∧ w' = w := by
  go_enter Tryz.func151, Tryz.ntmps151
  go_wp2
  go_ret
  exact ⟨rfl, rfl⟩

theorem stuck_yes (w : World) (r : Nat) (x : Int) (h : w.cell? ⟨r, 1, none⟩ = some (.int .i64 x)) (hx : (x != 0) = true) : Calls Tryz.prog 151 #[.pointer (some ⟨r, 0, none⟩)] w fun e w' => e = .returned (.bool true) ∧ w' = w := by
  go_enter Tryz.func151, Tryz.ntmps151
  go_wp2
  go_ret
  exact ⟨rfl, rfl⟩

theorem settle_no (w : World) (r : Nat) (n x : Int) (y : Value) (h : w.cell? ⟨r, 1, none⟩ = some y) (hf : w.frozen? ⟨r, 1, none⟩ = false) (hx : (x != 0) = true) :
    Calls Tryz.prog 153 #[.pointer (some ⟨r, 0, none⟩), .int .i64 n, .int .i64 x] w fun e w' => e = .returned (.bool false) ∧ w' = w.setCell ⟨r, 1, none⟩ (.int .i64 x) := by
  go_enter Tryz.func153, Tryz.ntmps153
  go_wp2
  go_ret
  exact ⟨rfl, rfl⟩

theorem settle_yes (w : World) (r : Nat) (p n : Int) (h : w.cell? ⟨r, 0, none⟩ = some (.int .i64 p)) (hf : w.frozen? ⟨r, 0, none⟩ = false) (h0 : 0 ≤ p) (h1 : 0 ≤ n) (hs : p + n ≤ 9223372036854775807) :
    Calls Tryz.prog 153 #[.pointer (some ⟨r, 0, none⟩), .int .i64 n, .int .i64 0] w fun e w' => e = .returned (.bool true) ∧ w' = w.setCell ⟨r, 0, none⟩ (.int .i64 (p + n)) := by
  go_enter Tryz.func153, Tryz.ntmps153
  go_wp2
  go_ret
  exact ⟨rfl, rfl⟩

theorem rest_in (w : World) (r g p n : Nat) (h0 : w.cell? ⟨r, 0, none⟩ = some (.int .i64 p)) (h2 : w.cell? ⟨r, 2, none⟩ = some (.slice (some ⟨g, 0, none⟩) n n)) (hp : p < n) :
    Calls Tryz.prog 150 #[.pointer (some ⟨r, 0, none⟩)] w fun e w' => e = .returned (.slice (some ⟨g, p, none⟩) (n - p) (n - p)) ∧ ∃ k, w' = w.drewN k := by
  have i0 : (0 : Int) ≤ (p : Int) := by omega
  have i1 : (p : Int) ≤ (n : Int) := by omega
  have i2 : ¬ n = p := by omega
  go_enter Tryz.func150, Tryz.ntmps150
  go_wp2
  go_quiet (fail)
  go_wp2
  go_ret
  exact ⟨rfl, _, rfl⟩

theorem rest_end (w : World) (r g n : Nat) (h0 : w.cell? ⟨r, 0, none⟩ = some (.int .i64 n)) (h2 : w.cell? ⟨r, 2, none⟩ = some (.slice (some ⟨g, 0, none⟩) n n)) :
    Calls Tryz.prog 150 #[.pointer (some ⟨r, 0, none⟩)] w fun e w' => e = .returned (.slice (some ⟨g, 0, none⟩) 0 0) ∧ ∃ k, w' = w.drewN k := by
  have i0 : (0 : Int) ≤ (n : Int) := by omega
  go_enter Tryz.func150, Tryz.ntmps150
  go_wp2
  go_quiet (fail)
  go_wp2
  go_ret
  exact ⟨rfl, _, rfl⟩

theorem rest_any (w : World) (r g p m : Nat) (e : Int) (l : List UInt8) (h : Rd w r g p e l) (hm : l.length = p + m) :
    Calls Tryz.prog 150 #[.pointer (some ⟨r, 0, none⟩)] w fun e w' => ∃ q k, e = .returned (.slice (some ⟨g, q, none⟩) m m) ∧ Bytes w (some ⟨g, q, none⟩) m (l.drop p) ∧ w' = w.drewN k := by
  by_cases hp : p < l.length
  · have e0 : l.length - p = m := by omega
    refine (rest_in w r g p l.length h.c0 h.c2 hp).mono fun e w' ⟨he, k, hw⟩ => ⟨p, k, by rw [← e0]; exact he, ⟨by simp; omega, fun _ => ⟨g, p, rfl, fun i hi => ?_⟩⟩, hw⟩
    rw [bt_drop]
    exact h.row (p + i) (by omega)
  · have hpe : p = l.length := by have := h.hp; omega
    obtain rfl : m = 0 := by omega
    exact (rest_end w r g l.length (by rw [← hpe]; exact h.c0) h.c2).mono fun e w' ⟨he, k, hw⟩ => ⟨0, k, he, ⟨by simp; omega, fun h0 => by omega⟩, hw⟩

theorem take_yes (w : World) (r g p m n : Nat) (l : List UInt8) (h : Rd w r g p 0 l) (hm : l.length = p + m) (hn : n ≤ m) :
    Calls Tryz.prog 154 #[.pointer (some ⟨r, 0, none⟩), .int .i64 n] w fun e w' => ∃ a c, e = .returned (.tuple #[.slice a n c, .bool true]) ∧ Bytes w' a n ((l.drop p).take n) ∧ Rd w' r g (p + n) 0 l ∧ w.grownBy w' (some r) := by
  have hx := h.hl
  unfold maxLen at hx
  have hpm : p + m ≤ 9223372036854775807 := by omega
  have h0 := h.c0
  have f0 := h.f0
  have i0 : (0 : Int) ≤ (n : Int) := by omega
  have i1 : (n : Int) ≤ (m : Int) := by omega
  have i2 : decide ((n : Int) < 0) = false := by simp
  have i3 : decide (m < n) = false := by simp; omega
  have Hm : Hid (l.length = p + m) := hm
  clear hx hm
  go_enter Tryz.func154, Tryz.ntmps154
  go_wp2_with fail
  refine (stuck_no w r h.c1).mono ?_
  rintro e w' ⟨rfl, rfl⟩
  go_wp2_with fail
  refine (rest_any _ r g p m 0 l h Hm.out).mono ?_
  rintro e w1 ⟨q, k, rfl, hb, rfl⟩
  go_wp2_with fail
  go_region_held3 (fun _ => True) (exact trivial)
    (first | (go_at_call 153; refine (settle_yes _ r p n ?_ ?_ ?_ ?_ ?_).mono ?_; (simp [*]); (simp [*]); (omega); (omega); (omega); rintro e w2 ⟨rfl, rfl⟩))
  go_wp2
  go_ret2
  refine ⟨_, _, rfl, ?_, ?_, ?_⟩
  · exact ((hb.take n (by omega)).drewN _).kept (grownBy_setCell _ _ _ _) (by simp [h.ne])
  · exact (h.drewN _).setAt (p + n) (by have := Hm.out; omega)
  · exact grownBy_trans (grownBy_drewN _ _ _) (grownBy_setCell _ _ _ _)

theorem take_nil (w : World) (n : Int) : Calls Tryz.prog 154 #[.pointer none, .int .i64 n] w fun e w' => e = .returned (.tuple #[.slice none 0 0, .bool false]) ∧ w' = w := by
  go_enter Tryz.func154, Tryz.ntmps154
  go_wp2_with fail
  refine (stuck_nil w).mono ?_
  rintro e w' ⟨rfl, rfl⟩
  go_wp2
  go_ret2
  exact ⟨rfl, rfl⟩

theorem take_stuck (w : World) (r g p : Nat) (x n : Int) (l : List UInt8) (h : Rd w r g p x l) (hx : (x != 0) = true) :
    Calls Tryz.prog 154 #[.pointer (some ⟨r, 0, none⟩), .int .i64 n] w fun e w' => e = .returned (.tuple #[.slice none 0 0, .bool false]) ∧ w' = w := by
  go_enter Tryz.func154, Tryz.ntmps154
  go_wp2_with fail
  refine (stuck_yes w r x h.c1 hx).mono ?_
  rintro e w' ⟨rfl, rfl⟩
  go_wp2
  go_ret2
  exact ⟨rfl, rfl⟩

theorem take_arg (w : World) (r g p m : Nat) (n : Int) (l : List UInt8) (h : Rd w r g p 0 l) (hm : l.length = p + m) (hn : n < 0) :
    Calls Tryz.prog 154 #[.pointer (some ⟨r, 0, none⟩), .int .i64 n] w fun e w' => e = .returned (.tuple #[.slice none 0 0, .bool false]) ∧ Rd w' r g p 2 l ∧ w.grownBy w' (some r) := by
  have Hm : Hid (l.length = p + m) := hm
  have i2 : decide (n < 0) = true := by simpa using hn
  clear hm
  go_enter Tryz.func154, Tryz.ntmps154
  go_wp2_with fail
  refine (stuck_no w r h.c1).mono ?_
  rintro e w' ⟨rfl, rfl⟩
  go_wp2_with fail
  refine (rest_any _ r g p m 0 l h Hm.out).mono ?_
  rintro e w1 ⟨q, k, rfl, hb, rfl⟩
  go_wp2_with fail
  refine (settle_no _ r 0 2 _ (h.drewN k).c1 (h.drewN k).f1 rfl).mono ?_
  rintro e w2 ⟨rfl, rfl⟩
  go_wp2
  go_ret2
  exact ⟨rfl, (h.drewN k).setErr 2, grownBy_trans (grownBy_drewN _ _ _) (grownBy_setCell _ _ _ _)⟩

theorem take_short (w : World) (r g p m : Nat) (n : Int) (l : List UInt8) (h : Rd w r g p 0 l) (hm : l.length = p + m) (hn : (m : Int) < n) :
    Calls Tryz.prog 154 #[.pointer (some ⟨r, 0, none⟩), .int .i64 n] w fun e w' => e = .returned (.tuple #[.slice none 0 0, .bool false]) ∧ Rd w' r g p 110 l ∧ w.grownBy w' (some r) := by
  have Hm : Hid (l.length = p + m) := hm
  have i2 : decide (n < 0) = false := by simp; omega
  have i3 : decide ((m : Int) < n) = true := by simpa using hn
  clear hm
  go_enter Tryz.func154, Tryz.ntmps154
  go_wp2_with fail
  refine (stuck_no w r h.c1).mono ?_
  rintro e w' ⟨rfl, rfl⟩
  go_wp2_with fail
  refine (rest_any _ r g p m 0 l h Hm.out).mono ?_
  rintro e w1 ⟨q, k, rfl, hb, rfl⟩
  go_wp2_with fail
  refine (settle_no _ r 0 110 _ (h.drewN k).c1 (h.drewN k).f1 rfl).mono ?_
  rintro e w2 ⟨rfl, rfl⟩
  go_wp2
  go_ret2
  exact ⟨rfl, (h.drewN k).setErr 110, grownBy_trans (grownBy_drewN _ _ _) (grownBy_setCell _ _ _ _)⟩

end Go.Proofs.YtdjodigimhgklaaGreatDoor

/- Plain facts on the hash: a byte more is a step more; another byte is another hash; digits there and back. Nothing of the program is named here. -/
namespace Go.Proofs.YtdjodigimhgklaaGreatDoor
open Go.RowKit

theorem hashTo_congr (l m : List UInt8) : ∀ k, (∀ j, j < k → bt l j = bt m j) → hashTo l k = hashTo m k := by
  intro k
  induction k with
  | zero => intro _; rfl
  | succ k ih => intro h; rw [hashTo_succ, hashTo_succ, ih (fun j hj => h j (by omega)), h k (by omega)]

theorem bt_append_left (l m : List UInt8) (j : Nat) (h : j < l.length) : bt (l ++ m) j = bt l j := by
  unfold bt
  rw [List.getD_eq_getElem?_getD, List.getD_eq_getElem?_getD, List.getElem?_append_left h]
theorem bt_snoc (l : List UInt8) (c : UInt8) : bt (l ++ [c]) l.length = (c.toNat : Int) := by
  unfold bt
  simp

theorem hashTo_snoc (l : List UInt8) (c : UInt8) (n : Nat) (h : l.length = n) : hashTo (l ++ [c]) (n + 1) = IntKind.u64.wrap (bits BinOp.xor IntKind.u64 (hashTo l n) (c.toNat : Int) * 1099511628211) := by
  rw [hashTo_succ, ← h, bt_snoc, hashTo_congr (l ++ [c]) l l.length (fun j hj => bt_append_left l [c] j hj)]

theorem xor_inj (a b c : Int) (a0 : 0 ≤ a) (a1 : a < 18446744073709551616) (b0 : 0 ≤ b) (b1 : b < 18446744073709551616) (c0 : 0 ≤ c) (c1 : c < 18446744073709551616)
    (h : bits BinOp.xor IntKind.u64 a c = bits BinOp.xor IntKind.u64 b c) : a = b := by
  rw [u64_xor a c a0 a1 c0 c1, u64_xor b c b0 b1 c0 c1] at h
  have h' : a.toNat ^^^ c.toNat = b.toNat ^^^ c.toNat := by omega
  have := congrArg (· ^^^ c.toNat) h'
  simp only [Nat.xor_assoc, Nat.xor_self, Nat.xor_zero] at this
  omega
theorem xor_inj' (a b c : Int) (a0 : 0 ≤ a) (a1 : a < 18446744073709551616) (b0 : 0 ≤ b) (b1 : b < 18446744073709551616) (c0 : 0 ≤ c) (c1 : c < 18446744073709551616)
    (h : bits BinOp.xor IntKind.u64 c a = bits BinOp.xor IntKind.u64 c b) : a = b := by
  rw [u64_xor c a c0 c1 a0 a1, u64_xor c b c0 c1 b0 b1] at h
  have h' : c.toNat ^^^ a.toNat = c.toNat ^^^ b.toNat := by omega
  have := congrArg (c.toNat ^^^ ·) h'
  simp only [← Nat.xor_assoc, Nat.xor_self, Nat.zero_xor] at this
  omega
theorem xor_bd (a c : Int) (a0 : 0 ≤ a) (a1 : a < 18446744073709551616) (c0 : 0 ≤ c) (c1 : c < 18446744073709551616) : 0 ≤ bits BinOp.xor IntKind.u64 a c ∧ bits BinOp.xor IntKind.u64 a c < 18446744073709551616 := by
  rw [u64_xor a c a0 a1 c0 c1]
  have : a.toNat ^^^ c.toNat < 2 ^ 64 := Nat.xor_lt_two_pow (by omega) (by omega)
  omega

theorem mul_inj (a b : Int) (a0 : 0 ≤ a) (a1 : a < 18446744073709551616) (b0 : 0 ≤ b) (b1 : b < 18446744073709551616) (h : IntKind.u64.wrap (a * 1099511628211) = IntKind.u64.wrap (b * 1099511628211)) : a = b := by
  rw [IntKind.wrap_u64, IntKind.wrap_u64] at h
  have e : ∀ z : Int, (z * 1099511628211 % 18446744073709551616 * 14886173955864302971) % 18446744073709551616 = z % 18446744073709551616 := by
    intro z
    have hc : (1099511628211 : Int) * 14886173955864302971 = 1 + 18446744073709551616 * 887285111055 := by decide
    rw [Int.mul_emod, Int.emod_emod, ← Int.mul_emod, Int.mul_assoc, hc, Int.mul_add, Int.mul_one, Int.mul_left_comm, Int.add_mul_emod_self_left]
  have ha := e a
  rw [h, e b, Int.emod_eq_of_lt b0 b1, Int.emod_eq_of_lt a0 a1] at ha
  exact ha.symm

/-- a step from unlike hashes, by the same byte, leads to unlike hashes -/
theorem step_inj (a b c : Int) (a0 : 0 ≤ a) (a1 : a < 18446744073709551616) (b0 : 0 ≤ b) (b1 : b < 18446744073709551616) (c0 : 0 ≤ c) (c1 : c ≤ 255)
    (h : IntKind.u64.wrap (bits BinOp.xor IntKind.u64 a c * 1099511628211) = IntKind.u64.wrap (bits BinOp.xor IntKind.u64 b c * 1099511628211)) : a = b := by
  have xa := xor_bd a c a0 a1 c0 (by omega)
  have xb := xor_bd b c b0 b1 c0 (by omega)
  exact xor_inj a b c a0 a1 b0 b1 c0 (by omega) (mul_inj _ _ xa.1 xa.2 xb.1 xb.2 h)
theorem step_inj' (a b c : Int) (a0 : 0 ≤ a) (a1 : a ≤ 255) (b0 : 0 ≤ b) (b1 : b ≤ 255) (c0 : 0 ≤ c) (c1 : c < 18446744073709551616)
    (h : IntKind.u64.wrap (bits BinOp.xor IntKind.u64 c a * 1099511628211) = IntKind.u64.wrap (bits BinOp.xor IntKind.u64 c b * 1099511628211)) : a = b := by
  have xa := xor_bd c a c0 c1 a0 (by omega)
  have xb := xor_bd c b c0 c1 b0 (by omega)
  exact xor_inj' a b c a0 (by omega) b0 (by omega) c0 c1 (mul_inj _ _ xa.1 xa.2 xb.1 xb.2 h)

/-- rows that differ in one byte alone have unlike hashes -/
theorem hashTo_other (l m : List UInt8) (j n : Nat) (hj : j < n) (hother : ∀ i, i ≠ j → bt l i = bt m i) (hne : bt l j ≠ bt m j) : hashTo l n ≠ hashTo m n := by
  obtain ⟨d, rfl⟩ : ∃ d, n = j + 1 + d := ⟨n - (j + 1), by omega⟩
  clear hj
  induction d with
  | zero =>
    intro h
    rw [Nat.add_zero, hashTo_succ, hashTo_succ, hashTo_congr l m j (fun i hi => hother i (by omega))] at h
    have h0 := hashTo_lo m j
    have h1 := hashTo_hi m j
    exact hne (step_inj' _ _ _ (bt_lo l j) (bt_hi l j) (bt_lo m j) (bt_hi m j) h0 (by omega) h)
  | succ d ih =>
    intro h
    rw [show j + 1 + (d + 1) = (j + 1 + d) + 1 from by omega, hashTo_succ, hashTo_succ, hother (j + 1 + d) (by omega)] at h
    have a0 := hashTo_lo l (j + 1 + d)
    have a1 := hashTo_hi l (j + 1 + d)
    have b0 := hashTo_lo m (j + 1 + d)
    have b1 := hashTo_hi m (j + 1 + d)
    exact ih (step_inj _ _ _ a0 (by omega) b0 (by omega) (bt_lo m _) (bt_hi m _) h)

theorem unhexTo_hexOf (x : Nat) : ∀ k, k ≤ 16 → x < 16 ^ 16 → unhexTo (hexOf x) k = ((x / 16 ^ (16 - k) : Nat) : Int) := by
  intro k
  induction k with
  | zero => intro _ hx; rw [Nat.sub_zero, Nat.div_eq_of_lt hx]; rfl
  | succ k ih =>
    intro hk hx
    rw [unhexTo_succ, ih (by omega) hx, hexOf_bt x k (by omega), dig_hexd _ (Nat.mod_lt _ (by omega)), show 16 - k = (15 - k) + 1 from by omega, show 16 - (k + 1) = 15 - k from by omega, Nat.pow_succ, ← Nat.div_div_eq_div_mul]
    omega
theorem hexOK_hexOf (x : Nat) : hexOK (hexOf x) := by
  refine ⟨hexOf_len x, fun j hj => ?_⟩
  have h16 : x / 16 ^ (15 - j) % 16 < 16 := Nat.mod_lt _ (by omega)
  rw [hexOf_bt x j hj, dig_hexd _ h16]
  omega
theorem unhex_hex (x : Nat) (hx : x < 18446744073709551616) : unhexTo (hexOf x) 16 = (x : Int) := by
  rw [unhexTo_hexOf x 16 (by omega) hx]
  simp

end Go.Proofs.YtdjodigimhgklaaGreatDoor

/- Plain: what was written is read as the same; of a shorter beginning the read is refused with 110. Nothing of the program is named here. -/
namespace Go.Proofs.YtdjodigimhgklaaGreatDoor
open Go.RowKit

theorem shortF_canon : ∀ (f x : Nat), x < 128 ^ (f + 1) → Canon (shortF f x) ∧ val (shortF f x) = x := by
  intro f
  induction f with
  | zero =>
    intro x hx
    have hx' : x < 128 := by simpa using hx
    have e : (UInt8.ofNat x).toNat = x := by rw [UInt8.toNat_ofNat']; omega
    simp only [shortF, Canon, val, e]
    omega
  | succ f ih =>
    intro x hx
    by_cases h : x < 128
    · have e : (UInt8.ofNat x).toNat = x := by rw [UInt8.toNat_ofNat']; omega
      rw [shortF_low _ _ h]
      simp only [Canon, val, e]
      omega
    · rw [shortF_high f x h]
      obtain ⟨h1, h2⟩ := ih (x / 128) (by rw [Nat.pow_succ] at hx; exact Nat.div_lt_of_lt_mul (by rw [Nat.mul_comm]; exact hx))
      have e : (UInt8.ofNat (x % 128 + 128)).toNat = x % 128 + 128 := by rw [UInt8.toNat_ofNat']; omega
      constructor
      · cases hs : shortF f (x / 128) with
        | nil => rw [hs] at h1; exact absurd h1 (by simp [Canon])
        | cons d t => rw [hs] at h1 h2; exact ⟨by rw [e]; omega, h1, by rw [h2]; omega⟩
      · simp only [val, e, h2]; omega
theorem short_canon (x : Nat) (hx : x < 18446744073709551616) : Canon (short x) ∧ val (short x) = x :=
  shortF_canon 9 x (by have : (18446744073709551616 : Nat) ≤ 128 ^ (9 + 1) := by decide
                       omega)

theorem drop_cons {l : List UInt8} {i : Nat} {c : UInt8} {t : List UInt8} (h : l.drop i = c :: t) : bt l i = (c.toNat : Int) ∧ l.drop (i + 1) = t := by
  have hi : i < l.length := by
    by_cases hi : i < l.length
    · exact hi
    · rw [List.drop_eq_nil_of_le (by omega)] at h; cases h
  obtain ⟨c', h1, h2⟩ := drop_bt l i hi
  rw [h1] at h
  simp only [List.cons.injEq] at h
  rw [h.1] at h2
  exact ⟨h2, h.2⟩

theorem canon_num : ∀ (p : List UInt8), Canon p → ∀ (i f : Nat) (l rest : List UInt8), l.drop i = p ++ rest → p.length ≤ f → i ≤ 9 → (0 < i → 0 < val p) → val p * 128 ^ i < 18446744073709551616 →
    numFrom l f i = (accTo l i + 128 ^ i * (val p : Int), i + p.length, 0) := by
  intro p
  induction p with
  | nil => intro h; exact absurd h (by simp [Canon])
  | cons c t ih =>
    intro hp i f l rest hd hf hi hv hlim
    obtain ⟨f', rfl⟩ : ∃ f', f = f' + 1 := ⟨f - 1, by simp at hf; omega⟩
    obtain ⟨hbt, hd'⟩ := drop_cons hd
    have hcl := c.toNat_lt
    cases t with
    | nil =>
      simp only [Canon] at hp
      have hval : val [c] = c.toNat := by simp only [val]; omega
      rw [hval] at hlim hv
      have hb : brokenB i (bt l i) = false := by
        rw [hbt]
        simp only [brokenB]
        have h9 : i = 9 → c.toNat ≤ 1 := by
          intro h9; subst h9
          have : (128 : Nat) ^ 9 = 9223372036854775808 := by decide
          rw [this] at hlim
          omega
        have h0 : 0 < i → ¬ c.toNat = 0 := fun h => by have := hv h; omega
        by_cases h1 : i = 9
        · have := h9 h1
          have := h0 (by omega)
          simp [h1]
          omega
        · by_cases h2 : 0 < i
          · have := h0 h2
            simp [h1]
            omega
          · simp [h1]
            omega
      rw [numFrom, if_neg (by simp [hb]), if_pos (by rw [hbt]; omega), accTo_succ, hbt, hval]
      simp only [List.length_singleton, Prod.mk.injEq, and_true]
      have : (c.toNat : Int) % 128 = (c.toNat : Int) := by omega
      rw [this, Int.mul_comm]
    | cons d t =>
      obtain ⟨h1, h2, h3⟩ := hp
      have hval : val (c :: d :: t) = c.toNat % 128 + 128 * val (d :: t) := rfl
      have hi8 : i ≤ 8 := by
        by_cases h9 : i = 9
        · subst h9
          have h128 : (128 : Nat) ^ 9 = 9223372036854775808 := by decide
          rw [h128, hval] at hlim
          omega
        · omega
      have hb : brokenB i (bt l i) = false := by
        rw [hbt]
        simp only [brokenB]
        have : ¬ i = 9 := by omega
        simp [this]
        omega
      have hlim' : val (d :: t) * 128 ^ (i + 1) < 18446744073709551616 := by
        have hle : val (d :: t) * 128 ^ (i + 1) ≤ val (c :: d :: t) * 128 ^ i := by
          rw [Nat.pow_succ, Nat.mul_comm (128 ^ i) 128, ← Nat.mul_assoc]
          exact Nat.mul_le_mul_right _ (by rw [hval]; omega)
        omega
      rw [numFrom, if_neg (by simp [hb]), if_neg (by rw [hbt]; omega), ih h2 (i + 1) f' l rest hd' (by simp at hf ⊢; omega) (by omega) (fun _ => h3) hlim', accTo_succ, hbt, hval, Int.pow_succ]
      simp only [List.length_cons, Prod.mk.injEq, and_true]
      refine ⟨?_, by omega⟩
      have e1 : ((c.toNat % 128 + 128 * val (d :: t) : Nat) : Int) = (c.toNat : Int) % 128 + 128 * (val (d :: t) : Int) := by omega
      rw [e1, Int.mul_add, Int.mul_comm ((c.toNat : Int) % 128), Int.mul_assoc]
      omega

theorem num_short_app (x : Nat) (hx : x < 18446744073709551616) (rest : List UInt8) : num (short x ++ rest) = ((x : Int), (short x).length, 0) := by
  obtain ⟨h1, h2⟩ := short_canon x hx
  unfold num
  rw [canon_num (short x) h1 0 _ (short x ++ rest) rest rfl (by simp) (by omega) (fun h => by omega) (by rw [h2]; omega), h2]
  simp [accTo]

theorem canon_prefix : ∀ (p : List UInt8), Canon p → ∀ (j i : Nat) (l : List UInt8), j < p.length → l.drop i = p.take j → i + p.length ≤ 10 → numFrom l j i = (0, 0, 110) := by
  intro p
  induction p with
  | nil => intro h; exact absurd h (by simp [Canon])
  | cons c t ih =>
    intro hp j i l hj hd hi
    cases j with
    | zero => rfl
    | succ j =>
      cases t with
      | nil => simp at hj
      | cons d t =>
        obtain ⟨h1, h2, _⟩ := hp
        rw [List.take_succ_cons] at hd
        obtain ⟨hbt, hd'⟩ := drop_cons hd
        simp only [List.length_cons] at hi hj
        have hb : brokenB i (bt l i) = false := by
          rw [hbt]
          simp only [brokenB]
          have : ¬ i = 9 := by omega
          simp [this]
          omega
        rw [numFrom, if_neg (by simp [hb]), if_neg (by rw [hbt]; omega)]
        exact ih h2 j (i + 1) l (by simp only [List.length_cons]; omega) hd' (by simp only [List.length_cons]; omega)

theorem num_short_cut (x j : Nat) (hx : x < 18446744073709551616) (hj : j < (short x).length) : num ((short x).take j) = (0, 0, 110) := by
  obtain ⟨h1, _⟩ := short_canon x hx
  have hl := short_len x
  unfold num
  rw [List.length_take, Nat.min_eq_left (by omega)]
  exact canon_prefix (short x) h1 j 0 _ hj rfl (by omega)

theorem wideVal_wide (x : Nat) (rest : List UInt8) : ∀ k, k ≤ 8 → x < 256 ^ 8 → wideVal (wide x ++ rest) k = ((x / 256 ^ (8 - k) : Nat) : Int) := by
  intro k
  induction k with
  | zero => intro _ hx; rw [Nat.sub_zero, Nat.div_eq_of_lt hx]; rfl
  | succ k ih =>
    intro hk hx
    have hb : bt (wide x ++ rest) k = ((x / 256 ^ (7 - k) % 256 : Nat) : Int) := by
      have h1 : bt (wide x ++ rest) k = bt (wide x) k := by
        unfold bt
        rw [List.getD_eq_getElem?_getD, List.getD_eq_getElem?_getD, List.getElem?_append_left (by unfold wide; rw [wideTo_len]; omega)]
      rw [h1]
      exact wideTo_bt x k 8 (by omega)
    rw [wideVal_succ, ih (by omega) hx, hb, show 8 - k = (7 - k) + 1 from by omega, show 8 - (k + 1) = 7 - k from by omega, Nat.pow_succ, ← Nat.div_div_eq_div_mul]
    omega

theorem outU_ok (x : Nat) (hx : x < 18446744073709551616) (m : Int) (rest : List UInt8) : outOf 1 m (short x ++ rest) 0 = ⟨rest, 0, (x : Int), []⟩ := by
  rw [outOf, if_neg (by simp), if_neg (by decide), if_pos rfl, outU, num_short_app x hx rest, if_neg (by simp)]
  simp
theorem outU_cut (x j : Nat) (hx : x < 18446744073709551616) (m : Int) (hj : j < (short x).length) : (outOf 1 m ((short x).take j) 0).err = 110 := by
  rw [outOf, if_neg (by simp), if_neg (by decide), if_pos rfl, outU, num_short_cut x j hx hj, if_pos (by simp)]
  rfl
theorem outW_ok (x : Nat) (hx : x < 18446744073709551616) (m : Int) (rest : List UInt8) : outOf 2 m (wide x ++ rest) 0 = ⟨rest, 0, (x : Int), []⟩ := by
  have hl : (wide x).length = 8 := wideTo_len x 8
  have hv := wideVal_wide x rest 8 (by omega) hx
  rw [outOf, if_neg (by simp), if_neg (by decide), if_neg (by decide), if_pos rfl, outW, if_neg (by rw [List.length_append, hl]; omega), hv, List.drop_append]
  simp [hl]
theorem outW_cut (l : List UInt8) (m : Int) (hj : l.length < 8) : (outOf 2 m l 0).err = 110 := by
  rw [outOf, if_neg (by simp), if_neg (by decide), if_neg (by decide), if_pos rfl, outW, if_pos hj]
  rfl
theorem outT_ok (s rest : List UInt8) (hx : s.length < 18446744073709551616) : outOf 3 (s.length : Int) (short s.length ++ (s ++ rest)) 0 = ⟨rest, 0, 0, s⟩ := by
  have hn := num_short_app s.length hx (s ++ rest)
  have ht := txt_ok (short s.length ++ (s ++ rest)) (s.length : Int) (by omega) (by rw [hn]) (by rw [hn]; simp) (by rw [hn]; simp; omega)
  rw [hn] at ht
  simp only [Int.toNat_natCast] at ht
  rw [outOf, if_neg (by simp), if_neg (by decide), if_neg (by decide), if_neg (by decide), if_pos rfl, outT, ht, if_neg (by simp)]
  simp only [Out.mk.injEq, true_and]
  constructor
  · rw [← List.append_assoc, List.drop_append]
    simp
  · rw [← List.append_assoc, List.take_append_of_le_length (by simp), List.take_of_length_le (by simp), List.drop_append]
    simp
theorem outT_cut (s : List UInt8) (j : Nat) (hx : s.length < 18446744073709551616) (hj : j < (short s.length ++ s).length) : (outOf 3 (s.length : Int) ((short s.length ++ s).take j) 0).err = 110 := by
  rw [outOf, if_neg (by simp), if_neg (by decide), if_neg (by decide), if_neg (by decide), if_pos rfl, outT]
  by_cases h1 : j < (short s.length).length
  · have e : (short s.length ++ s).take j = (short s.length).take j := List.take_append_of_le_length (by omega)
    have hn := num_short_cut s.length j hx h1
    have ht := txt_num ((short s.length).take j) (s.length : Int) (by omega) (by rw [hn]; simp)
    rw [e, ht, hn, if_pos (by simp)]
    rfl
  · have e : (short s.length ++ s).take j = short s.length ++ s.take (j - (short s.length).length) := by rw [List.take_append, List.take_of_length_le (by omega)]
    have hn := num_short_app s.length hx (s.take (j - (short s.length).length))
    rw [List.length_append] at hj
    have ht := txt_short (short s.length ++ s.take (j - (short s.length).length)) (s.length : Int) (by omega) (by rw [hn]) (by rw [hn]; simp) (by rw [hn]; simp; omega)
    rw [e, ht, if_pos (by simp)]
    rfl

end Go.Proofs.YtdjodigimhgklaaGreatDoor
