import Derived.WalkKit
import Derived.Test.YtdjodigimhgklaaGreatDoorProg
import Derived.Outline
import Derived.Maps.OwnSet
import Derived.Maps.AppendAt
import Derived.Deep.RegionHeld3
import Derived.Laws.AppendOwnNone
/- Plain facts on bytes and on rows of cells that hold them; nothing of the program is named here. -/
namespace Go.Proofs.YtdjodigimhgklaaGreatDoor
open Go.RowKit

/-- byte i of a list, as a number -/
def bt (l : List UInt8) (i : Nat) : Int := ((l.getD i 0).toNat : Int)
theorem bt_lo (l : List UInt8) (i : Nat) : 0 ≤ bt l i := by unfold bt; omega
theorem bt_hi (l : List UInt8) (i : Nat) : bt l i ≤ 255 := by
  unfold bt
  have := (l.getD i 0).toNat_lt
  omega
theorem bt_cons (c : UInt8) (l : List UInt8) (i : Nat) : bt (c :: l) (i + 1) = bt l i := by simp [bt]
theorem bt_drop (l : List UInt8) (k i : Nat) : bt (l.drop k) i = bt l (k + i) := by simp [bt, List.getD]
theorem bt_take (l : List UInt8) (k i : Nat) (h : i < k) : bt (l.take k) i = bt l i := by simp [bt, List.getD, h]

/-- a slice value of n bytes that leads to the list l -/
def Bytes (w : World) (a : Option Addr) (n : Nat) (l : List UInt8) : Prop :=
  l.length = n ∧ (0 < n → ∃ b off, a = some ⟨b, off, none⟩ ∧ ∀ i, i < n → w.cell? ⟨b, off + i, none⟩ = some (.int .u8 (bt l i)))

theorem Bytes.take {w : World} {a : Option Addr} {n : Nat} {l : List UInt8} (h : Bytes w a n l) (k : Nat) (hk : k ≤ n) : Bytes w a k (l.take k) := by
  refine ⟨by have := h.1; simp; omega, fun hp => ?_⟩
  obtain ⟨b, off, rfl, hc⟩ := h.2 (by omega)
  exact ⟨b, off, rfl, fun i hi => by rw [bt_take _ _ _ hi]; exact hc i (by omega)⟩

/-- the cells of a list of bytes -/
def cellsOf (l : List UInt8) : List Value := l.map fun c => Value.int .u8 (c.toNat : Int)
theorem cellsOf_length (l : List UInt8) : (cellsOf l).length = l.length := by simp [cellsOf]
theorem cellsOf_get (l : List UInt8) (i : Nat) (h : i < l.length) : (cellsOf l)[i]? = some (.int .u8 (bt l i)) := by
  simp [cellsOf, bt, h]
theorem cellsOf_one (l : List UInt8) : ∀ u ∈ cellsOf l, u.oneCell' = true := by
  intro u hu
  obtain ⟨_, _, rfl⟩ := List.mem_map.1 hu
  rfl
theorem cellsOf_append (l m : List UInt8) : cellsOf (l ++ m) = cellsOf l ++ cellsOf m := by simp [cellsOf]

end Go.Proofs.YtdjodigimhgklaaGreatDoor

/- Bytes turned into a string; what the program says of a byte's type. -/
namespace Go.Proofs.YtdjodigimhgklaaGreatDoor
open Go.RowKit

theorem Tryz.info5 : (Tryz.prog.info? 5).map (fun i => (i.zero, i.size, i.bytes)) = some (some (.int .u8 0), 1, 1) := by kernel_rfl

theorem fold_push (l : List UInt8) : ∀ acc : ByteArray, (l.map fun c => (c.toNat : Int)).foldl (fun r n => r.push (UInt8.ofNat n.toNat)) acc = ⟨acc.data ++ l.toArray⟩ := by
  induction l with
  | nil => intro acc; simp
  | cons c l ih =>
    intro acc
    rw [List.map_cons, List.foldl_cons, ih]
    congr 1
    simp [ByteArray.push]

theorem run_string (w : World) (a : Option Addr) (n cap : Nat) (l : List UInt8) (hb : Bytes w a n l) :
    (convert 33 9 (.slice a n cap)).run Tryz.prog w = .ok (.string ⟨l.toArray⟩) w := by
  rw [run_convert_bytes_string w 33 9 5 a n cap Tryz.underlying33 Tryz.underlying5 Tryz.underlying9]
  cases a with
  | none =>
    have h0 : n = 0 := by
      by_cases h : n = 0
      · exact h
      · obtain ⟨b, off, hx, _⟩ := hb.2 (by omega)
        cases hx
    have hl : l = [] := List.eq_nil_of_length_eq_zero (by rw [hb.1]; exact h0)
    subst hl
    simp [Conv.bytesToString, Sem.run_pure]
    rfl
  | some x =>
    have hld : (loadCells x n).run Tryz.prog w = .ok ((l.map fun c => (c.toNat : Int)).map (Value.int .u8)).toArray w := by
      have hrun := run_loadCells_list (P := Tryz.prog) w x (cellsOf l) (fun j v hj => ?_)
      · rw [cellsOf_length, hb.1] at hrun
        rw [hrun]
        simp [cellsOf]
      · have hjl : j < l.length := by have := (List.getElem?_eq_some_iff.1 hj).1; rw [cellsOf_length] at this; exact this
        have hl := hb.1
        obtain ⟨b, off, hx, hc⟩ := hb.2 (by omega)
        obtain rfl := Option.some.inj hx
        rw [cellsOf_get l j hjl] at hj
        rw [Addr.add_lit, hc j (by omega)]
        exact hj
    rw [run_bytesToString w x n cap _ hld, fold_push]
    simp

end Go.Proofs.YtdjodigimhgklaaGreatDoor

/- What a Disk of the program is in memory: its fields, its map of files, the rows of its bytes; which blocks it owns; and that it stays what it is while others are written. -/
namespace Go.Proofs.YtdjodigimhgklaaGreatDoor
open Go.RowKit Go.Maps

/-- what a disk holds: its files, how many they are, how many raw writes it has done, whether it is cut, and how many it does yet -/
structure DG where
  f : List UInt8 → Option (List UInt8)
  n : Nat
  wr : Nat
  cut : Bool
  left : Nat

/-- an element of the map read as the value that it is -/
def rv : Value → Option (DataW Value × List MemPlace)
  | .slice a n c => some (.held (.slice a n c), [])
  | _ => none
abbrev nils : DataW Value := .held (.slice none 0 0)

/-- nothing but what Fp holds of, and new blocks, has turned -/
structure Turn (Fp : Nat → Prop) (w w' : World) : Prop where
  os : w'.os = w.os
  tape : w'.tape = w.tape
  output : w'.output = w.output
  size : w.heap.size ≤ w'.heap.size
  block : ∀ k, k < w.heap.size → ¬ Fp k → w'.heap[k]? = w.heap[k]?

theorem Turn.refl (Fp : Nat → Prop) (w : World) : Turn Fp w w := ⟨rfl, rfl, rfl, Nat.le_refl _, fun _ _ _ => rfl⟩
theorem Turn.trans {Fp Gp : Nat → Prop} {a b c : World} (h : Turn Fp a b) (k : Turn Gp b c) (hs : ∀ i, i < a.heap.size → Gp i → Fp i) : Turn Fp a c :=
  ⟨k.os.trans h.os, k.tape.trans h.tape, k.output.trans h.output, Nat.le_trans h.size k.size, fun i hi hf =>
    (k.block i (Nat.lt_of_lt_of_le hi h.size) (fun hg => hf (hs i hi hg))).trans (h.block i hi hf)⟩
theorem Turn.of_grownBy {w w' : World} {row : Option Nat} {Fp : Nat → Prop} (h : w.grownBy w' row) (hr : ∀ k, row = some k → Fp k ∨ w.heap.size ≤ k) : Turn Fp w w' :=
  ⟨h.os, h.tape, h.output, h.size, fun k hk hf => h.block k hk (fun e => by
    rcases hr k e.symm with h1 | h1
    · exact hf h1
    · omega)⟩
theorem Turn.of_below {w w' : World} (Fp : Nat → Prop) (h : Below w.heap.size w w') : Turn Fp w w' := ⟨h.os, h.tape, h.output, h.size, fun k hk _ => h.block k hk⟩
theorem Turn.below {Fp : Nat → Prop} {w w' : World} {B : Nat} (h : Turn Fp w w') (hB : B ≤ w.heap.size) (hf : ∀ k, Fp k → B ≤ k) : Below B w w' :=
  ⟨h.os, h.tape, h.output, h.size, fun k hk => h.block k (by omega) (fun hk' => by have := hf k hk'; omega)⟩
theorem Turn.wide {Fp Gp : Nat → Prop} {w w' : World} (h : Turn Fp w w') (hs : ∀ k, Fp k → Gp k) : Turn Gp w w' := ⟨h.os, h.tape, h.output, h.size, fun k hk hg => h.block k hk (fun hf => hg (hs k hf))⟩
theorem Turn.cell {Fp : Nat → Prop} {w w' : World} (h : Turn Fp w w') {a : Addr} {v : Value} (hc : w.cell? a = some v) (hn : ¬ Fp a.block) : w'.cell? a = some v := by
  rw [World.cell?_of_block (h.block a.block (World.block_lt_of_cell? w a hc) hn)]; exact hc
theorem Turn.frozen {Fp : Nat → Prop} {w w' : World} (h : Turn Fp w w') {a : Addr} (hlt : a.block < w.heap.size) (hn : ¬ Fp a.block) : w'.frozen? a = w.frozen? a := World.frozen?_of_block (h.block a.block hlt hn)
theorem Turn.bytes {Fp : Nat → Prop} {w w' : World} (h : Turn Fp w w') {a : Option Addr} {n : Nat} {l : List UInt8} (hb : Bytes w a n l) (hn : 0 < n → ∀ x, a = some x → ¬ Fp x.block) : Bytes w' a n l := by
  refine ⟨hb.1, fun h0 => ?_⟩
  obtain ⟨b, off, rfl, hc⟩ := hb.2 h0
  exact ⟨b, off, rfl, fun i hi => h.cell (hc i hi) (hn h0 ⟨b, off, none⟩ rfl)⟩

/-- the blocks that a disk owns behind a call: those that it owned, and those that the call made -/
def grow (Fp : Nat → Prop) (w w' : World) : Nat → Prop := fun k => Fp k ∨ (w.heap.size ≤ k ∧ k < w'.heap.size)

/-- block p of w is a disk, its map in block b -/
structure DiskAt (w : World) (p b : Nat) (M : DataW Value) (S : DG) (Fp : Nat → Prop) : Prop where
  c0 : w.cell? ⟨p, 0, none⟩ = some (.map (some b))
  c1 : w.cell? ⟨p, 1, none⟩ = some (.int .i64 S.wr)
  c2 : w.cell? ⟨p, 2, none⟩ = some (.bool S.cut)
  c3 : w.cell? ⟨p, 3, none⟩ = some (.int .i64 S.left)
  f1 : w.frozen? ⟨p, 1, none⟩ = false
  f2 : w.frozen? ⟨p, 2, none⟩ = false
  f3 : w.frozen? ⟨p, 3, none⟩ = false
  hl : S.left ≤ 9223372036854775807
  pb : p ≠ b
  own : w.ownsMap Tryz.prog 9 rv b (size M) M
  sz : size M = S.n
  has : ∀ l, has M (.string l) = (S.f l).isSome
  row : ∀ l bs, S.f l = some bs → ∃ v, M.atKey (.string l) nils = .held v ∧ w.ownsRow 0 5 1 v bs.length (cellsOf bs) ∧ ∀ g, v.ownBlock = some g → Fp g ∧ g ≠ p ∧ g ≠ b
  apart : ∀ l l' v v' g, (S.f l).isSome = true → (S.f l').isSome = true → M.atKey (.string l) nils = .held v → M.atKey (.string l') nils = .held v' → v.ownBlock = some g → v'.ownBlock = some g → l = l'
  fp : Fp p
  fb : Fp b
  lt : ∀ k, Fp k → k < w.heap.size

/-- block p of w is a disk -/
def IsDisk (w : World) (p : Nat) (S : DG) (Fp : Nat → Prop) : Prop := ∃ b M, DiskAt w p b M S Fp

theorem rv_slice {v : Value} {y : DataW Value × List MemPlace} (h : rv v = some y) : ∃ t : Option Addr × Nat × Nat, v = .slice t.1 t.2.1 t.2.2 := by
  cases v <;> simp [rv] at h
  exact ⟨(_, _, _), rfl⟩
theorem rv_inv {v : Value} {d : DataW Value} {ps : List MemPlace} (h : rv v = some (d, ps)) : d = .held v := by
  obtain ⟨t, rfl⟩ := rv_slice h
  simp [rv] at h
  exact h.1.symm

theorem ownsRow_move {w w' : World} {B n : Nat} {v : Value} {xs : List Value} (h : w.ownsRow B 5 1 v n xs) (hb : ∀ g, v.ownBlock = some g → w'.heap[g]? = w.heap[g]?) : w'.ownsRow B 5 1 v n xs := by
  refine ⟨h.1, ?_⟩
  rcases h.2 with h0 | ⟨g, cap, cur, rfl, h1, h2, h3⟩
  · exact .inl h0
  · exact .inr ⟨g, cap, cur, rfl, h1, by rw [hb g rfl]; exact h2, h3⟩

theorem DiskAt.kept {w w' : World} {p b : Nat} {M : DataW Value} {S : DG} {Fp : Nat → Prop} (h : DiskAt w p b M S Fp) (hs : w.heap.size ≤ w'.heap.size) (hk : ∀ k, Fp k → w'.heap[k]? = w.heap[k]?) : DiskAt w' p b M S Fp where
  c0 := by rw [World.cell?_of_block (hk p h.fp)]; exact h.c0
  c1 := by rw [World.cell?_of_block (hk p h.fp)]; exact h.c1
  c2 := by rw [World.cell?_of_block (hk p h.fp)]; exact h.c2
  c3 := by rw [World.cell?_of_block (hk p h.fp)]; exact h.c3
  f1 := by rw [World.frozen?_of_block (hk p h.fp)]; exact h.f1
  f2 := by rw [World.frozen?_of_block (hk p h.fp)]; exact h.f2
  f3 := by rw [World.frozen?_of_block (hk p h.fp)]; exact h.f3
  hl := h.hl
  pb := h.pb
  own := by
    obtain ⟨es, clock, hb, r⟩ := h.own
    exact ⟨es, clock, (hk b h.fb).trans hb, r⟩
  sz := h.sz
  has := h.has
  row := fun l bs hf => by
    obtain ⟨v, h1, h2, h3⟩ := h.row l bs hf
    exact ⟨v, h1, ownsRow_move h2 (fun g hg => hk g (h3 g hg).1), h3⟩
  apart := h.apart
  fp := h.fp
  fb := h.fb
  lt := fun k hf => Nat.lt_of_lt_of_le (h.lt k hf) hs

theorem DiskAt.wide {w : World} {p b : Nat} {M : DataW Value} {S : DG} {Fp Gp : Nat → Prop} (h : DiskAt w p b M S Fp) (hs : ∀ k, Fp k → Gp k) (hlt : ∀ k, Gp k → k < w.heap.size) : DiskAt w p b M S Gp :=
  { h with
    row := fun l bs hf => by
      obtain ⟨v, h1, h2, h3⟩ := h.row l bs hf
      exact ⟨v, h1, h2, fun g hg => ⟨hs g (h3 g hg).1, (h3 g hg).2⟩⟩
    fp := hs _ h.fp, fb := hs _ h.fb, lt := hlt }

theorem DiskAt.turn {w w' : World} {p b : Nat} {M : DataW Value} {S : DG} {Fp Gp : Nat → Prop} (h : DiskAt w p b M S Fp) (ht : Turn Gp w w') (hd : ∀ k, Fp k → ¬ Gp k) : DiskAt w' p b M S Fp :=
  h.kept ht.size (fun k hk => ht.block k (h.lt k hk) (hd k hk))
theorem IsDisk.turn {w w' : World} {p : Nat} {S : DG} {Fp Gp : Nat → Prop} (h : IsDisk w p S Fp) (ht : Turn Gp w w') (hd : ∀ k, Fp k → ¬ Gp k) : IsDisk w' p S Fp := by
  obtain ⟨b, M, h⟩ := h
  exact ⟨b, M, h.turn ht hd⟩
theorem IsDisk.below {w w' : World} {p : Nat} {S : DG} {Fp : Nat → Prop} (h : IsDisk w p S Fp) (hB : Below w.heap.size w w') : IsDisk w' p S Fp := h.turn (Turn.of_below (fun _ => False) hB) (fun _ _ => id)
theorem IsDisk.wide {w : World} {p : Nat} {S : DG} {Fp Gp : Nat → Prop} (h : IsDisk w p S Fp) (hs : ∀ k, Fp k → Gp k) (hlt : ∀ k, Gp k → k < w.heap.size) : IsDisk w p S Gp := by
  obtain ⟨b, M, h⟩ := h
  exact ⟨b, M, h.wide hs hlt⟩
theorem IsDisk.lt {w : World} {p : Nat} {S : DG} {Fp : Nat → Prop} (h : IsDisk w p S Fp) (k : Nat) (hk : Fp k) : k < w.heap.size := by
  obtain ⟨b, M, h⟩ := h
  exact h.lt k hk

/-- a field of the disk is written -/
theorem DiskAt.field {w : World} {p b : Nat} {M : DataW Value} {S : DG} {Fp : Nat → Prop} (h : DiskAt w p b M S Fp) (o : Nat) (v : Value) (ho : o ≠ 0) (S' : DG) (hf : S'.f = S.f) (hn : S'.n = S.n) (hl : S'.left ≤ 9223372036854775807)
    (h1 : (w.setCell ⟨p, o, none⟩ v).cell? ⟨p, 1, none⟩ = some (.int .i64 S'.wr)) (h2 : (w.setCell ⟨p, o, none⟩ v).cell? ⟨p, 2, none⟩ = some (.bool S'.cut)) (h3 : (w.setCell ⟨p, o, none⟩ v).cell? ⟨p, 3, none⟩ = some (.int .i64 S'.left)) :
    DiskAt (w.setCell ⟨p, o, none⟩ v) p b M S' Fp where
  c0 := by rw [World.cell?_setCell_other _ _ _ _ (by first | (simp; done) | (simp; omega))]; exact h.c0
  c1 := h1
  c2 := h2
  c3 := h3
  f1 := by rw [World.frozen?_setCell]; exact h.f1
  f2 := by rw [World.frozen?_setCell]; exact h.f2
  f3 := by rw [World.frozen?_setCell]; exact h.f3
  hl := hl
  pb := h.pb
  own := by
    obtain ⟨es, clock, hb, r⟩ := h.own
    exact ⟨es, clock, (Below.heap_setCell _ _ _ _ (fun e => h.pb e.symm)).trans hb, r⟩
  sz := by rw [hn]; exact h.sz
  has := by rw [hf]; exact h.has
  row := fun l bs hfl => by
    rw [hf] at hfl
    obtain ⟨v', h1, h2, h3⟩ := h.row l bs hfl
    exact ⟨v', h1, ownsRow_move h2 (fun g hg => Below.heap_setCell _ _ _ _ (h3 g hg).2.1), h3⟩
  apart := by rw [hf]; exact h.apart
  fp := h.fp
  fb := h.fb
  lt := fun k hk => by have := h.lt k hk; simpa [World.setCell] using this

end Go.Proofs.YtdjodigimhgklaaGreatDoor

/- The walk of the one method by which files change: a raw write is done whole and counted, or not at all. -/
namespace Go.Proofs.YtdjodigimhgklaaGreatDoor
open Go.RowKit Go.Maps

def DG.can (S : DG) : Bool := !S.cut || S.left != 0
def DG.done (S : DG) : DG := { S with wr := S.wr + 1, left := if S.cut then S.left - 1 else S.left }

theorem turn_setCell (w : World) (p o : Nat) (v : Value) : Turn (fun k => k = p) w (w.setCell ⟨p, o, none⟩ v) :=
  ⟨rfl, rfl, rfl, by simp [World.setCell], fun k _ hk => Below.heap_setCell _ _ _ _ hk⟩

set_option maxHeartbeats 1000000 in
theorem raw_done (k p : Nat) (caps : Array Value) (S : DG) (Fp : Nat → Prop) (w : World) (R : World → Prop) (hk : ∀ w, (callFunc k caps).run Tryz.prog w = .ok (.enter k caps) w) (hd : IsDisk w p S Fp) (hw : S.wr < 4611686018427387904) (hc : S.can = true)
    (hcl : ∀ w1, (∀ b M, DiskAt w p b M S Fp → DiskAt w1 p b M S.done Fp) → IsDisk w1 p S.done Fp → Turn (fun i => i = p) w w1 → w1.heap.size = w.heap.size → Calls Tryz.prog k caps w1 fun e w' => e = .returned (.tuple #[]) ∧ R w') :
    Calls Tryz.prog 95 #[.pointer (some ⟨p, 0, none⟩), .func (.func k) #[] caps] w fun e w' => e = .returned (.int .i64 0) ∧ R w' := by
  obtain ⟨b, M, hd⟩ := hd
  obtain ⟨f, n, wr, cut, left⟩ := S
  have c1 := hd.c1
  have c2 := hd.c2
  have c3 := hd.c3
  have f1 := hd.f1
  have f3 := hd.f3
  have hl := hd.hl
  simp only at c1 c2 c3 hl hw
  cases cut with
  | false =>
    have hd1 := fun b' M' (hd : DiskAt w p b' M' (DG.mk f n wr false left) Fp) => hd.field 1 (.int .i64 ((wr : Int) + 1)) (by decide) (DG.mk f n (wr + 1) false left) rfl rfl hl (by rw [World.cell?_setCell_same _ _ _ c1]; rfl) (by rw [World.cell?_setCell_other _ _ _ _ (by simp)]; exact c2) (by rw [World.cell?_setCell_other _ _ _ _ (by simp)]; exact c3)
    have hx := hcl _ hd1 ⟨b, M, hd1 b M hd⟩ (turn_setCell w p 1 _) (by simp [World.setCell])
    clear hcl hd hd1
    go_enter Tryz.func95, Tryz.ntmps95
    go_wp2_with fail
    refine hx.mono ?_
    rintro e w' ⟨rfl, hR⟩
    go_wp2
    go_ret
    exact ⟨rfl, hR⟩
  | true =>
    have h0 : left ≠ 0 := by simpa [DG.can] using hc
    have h0' : ¬ (left : Int) = 0 := by omega
    have e1 : ((left - 1 : Nat) : Int) = (left : Int) - 1 := by omega
    have hd1 := fun b' M' (hd : DiskAt w p b' M' (DG.mk f n wr true left) Fp) => hd.field 3 (.int .i64 ((left : Int) - 1)) (by decide) (DG.mk f n wr true (left - 1)) rfl rfl (by simp only; omega) (by rw [World.cell?_setCell_other _ _ _ _ (by simp)]; exact c1) (by rw [World.cell?_setCell_other _ _ _ _ (by simp)]; exact c2) (by rw [World.cell?_setCell_same _ _ _ c3]; simp only; rw [e1])
    have hd2 := fun b' M' (hd : DiskAt w p b' M' (DG.mk f n wr true left) Fp) => (hd1 b' M' hd).field 1 (.int .i64 ((wr : Int) + 1)) (by decide) (DG.mk f n (wr + 1) true (left - 1)) rfl rfl (by simp only; omega) (by rw [World.cell?_setCell_same _ _ _ (hd1 b' M' hd).c1]; rfl) (by rw [World.cell?_setCell_other _ _ _ _ (by simp)]; exact (hd1 b' M' hd).c2) (by rw [World.cell?_setCell_other _ _ _ _ (by simp)]; exact (hd1 b' M' hd).c3)
    have hx := hcl _ hd2 ⟨b, M, hd2 b M hd⟩ ((turn_setCell w p 3 _).trans (turn_setCell _ p 1 _) (fun _ _ h => h)) (by simp [World.setCell])
    clear hcl hd hd1 hd2
    go_enter Tryz.func95, Tryz.ntmps95
    go_wp2_with fail
    refine hx.mono ?_
    rintro e w' ⟨rfl, hR⟩
    go_wp2
    go_ret
    exact ⟨rfl, hR⟩

set_option maxHeartbeats 1000000 in
theorem raw_cut (k p : Nat) (caps : Array Value) (S : DG) (Fp : Nat → Prop) (w : World) (hd : IsDisk w p S Fp) (hc : S.can = false) :
    Calls Tryz.prog 95 #[.pointer (some ⟨p, 0, none⟩), .func (.func k) #[] caps] w fun e w' => e = .returned (.int .i64 6) ∧ w' = w := by
  obtain ⟨b, M, hd⟩ := hd
  obtain ⟨f, n, wr, cut, left⟩ := S
  have hc' : cut = true ∧ left = 0 := by simpa [DG.can] using hc
  obtain ⟨rfl, rfl⟩ := hc'
  have c2 := hd.c2
  have c3 := hd.c3
  simp only at c2 c3
  clear hd hc
  go_enter Tryz.func95, Tryz.ntmps95
  go_wp2
  go_ret
  exact ⟨rfl, rfl⟩

end Go.Proofs.YtdjodigimhgklaaGreatDoor

/- A file of the disk gets new bytes: the row that append leaves, the store into the map, and what the disk is then. -/
namespace Go.Proofs.YtdjodigimhgklaaGreatDoor
open Go.RowKit Go.Maps

theorem keyed : Keyed Tryz.prog 9 := string_keyed Tryz.underlying9
theorem zeroSlice (w : World) : (zeroValue 33).run Tryz.prog w = .ok (.slice none 0 0) w := by kernel_rfl
theorem keyOfS (s : ByteArray) (hs : s.size ≤ maxLen) : keyOf Tryz.prog 9 (.string s) = some (.string s.data.toList) := WideMaps.keyOf_string_mk (P := Tryz.prog) Tryz.underlying9 hs

/-- append of bytes to a row that is owned: what it is, and where it lies -/
theorem run_append_row (w : World) (ty : TypeId) (v : Value) (n : Nat) (xs : List Value) (hown : w.ownsRow 0 5 1 v n xs) (ad : Option Addr) (m c : Nat) (l : List UInt8) (hb : Bytes w ad m l) (hnil : ad = none → m = 0 ∧ c = 0) (hm : n + m ≤ 140737488355328) :
    ∃ v' w', (Builtin.append_ #[33, 33] ty #[v, .slice ad m c]).run Tryz.prog w = .ok v' w' ∧ w'.ownsRow 0 5 1 v' (n + m) (xs ++ cellsOf l) ∧ w.grownBy w' v.ownBlock ∧ (v'.ownBlock = v.ownBlock ∨ v'.ownBlock = some w.heap.size) := by
  obtain ⟨i0, hi, hz0, hz1, hz2⟩ := info_parts Tryz.info5
  cases ad with
  | none =>
    obtain ⟨rfl, rfl⟩ := hnil rfl
    have hl : l = [] := List.eq_nil_of_length_eq_zero hb.1
    subst hl
    exact ⟨v, w, run_append_owned_none (P := Tryz.prog) (w := w) 0 33 ty 5 i0 1 Tryz.underlying33 hi v n xs hown, by simpa [cellsOf] using hown, ⟨rfl, rfl, rfl, Nat.le_refl _, fun _ _ _ => rfl⟩, .inl rfl⟩
  | some ad =>
    obtain ⟨v', w', h1, h2, h3, _, h5⟩ := run_append_own_at (P := Tryz.prog) w 0 33 ty 5 i0 (.int .u8 0) 1 1 Tryz.underlying33 hi hz0 hz1 hz2 rfl (by omega) v n xs hown ad m c (cellsOf l) (by rw [cellsOf_length, hb.1]; omega) (by
      intro j u hj
      have hjl : j < l.length := by have := (List.getElem?_eq_some_iff.1 hj).1; rw [cellsOf_length] at this; exact this
      have hl := hb.1
      obtain ⟨b, off, hx', hc⟩ := hb.2 (by omega)
      obtain rfl := Option.some.inj hx'
      rw [cellsOf_get l j hjl] at hj
      rw [Addr.add_lit, hc j (by omega)]
      exact hj) (cellsOf_one l) (by unfold maxLen; omega) (by omega) (Nat.zero_le _)
    exact ⟨v', w', h1, h2, h3, h5⟩

theorem wp_append_row (w : World) {o : Oper} {a : Act} {K : Act → World → Prop} {Q : Exit → Act → World → Prop} (s x : Operand)
    (ho : o.op = .call { callee := .builtin .append, args := #[s, x], argTypes := #[33, 33] })
    (v : Value) (n : Nat) (xs : List Value) (hs : a.eval s = v) (hown : w.ownsRow 0 5 1 v n xs) (ad : Option Addr) (m c : Nat) (l : List UInt8) (hx : a.eval x = .slice ad m c) (hb : Bytes w ad m l) (hnil : ad = none → m = 0 ∧ c = 0) (hm : n + m ≤ 140737488355328)
    (h : ∀ v' w', w'.ownsRow 0 5 1 v' (n + m) (xs ++ cellsOf l) → w.grownBy w' v.ownBlock → (v'.ownBlock = v.ownBlock ∨ v'.ownBlock = some w.heap.size) → K (a.put o.dst v') w') : o.wp Tryz.prog a w K Q := by
  obtain ⟨v', w', hr, h2, h3, h4⟩ := run_append_row w o.type v n xs hown ad m c l hb hnil hm
  unfold Oper.wp execOp
  simp only [ho, resolve, invoke, builtin, Sem.run_bind, Sem.run_pure, Result.andThen_ok, List.map_toArray, List.map_cons, List.map_nil, hs, hx, hr]
  exact h v' w' h2 h3 h4

theorem wpList_append_row (w : World) {ops : Array Oper} {rest : List Oper} {o : Oper} {a : Act} {Q : Exit → Act → World → Prop} (hgd : o.guard = none) (s x : Operand)
    (ho : o.op = .call { callee := .builtin .append, args := #[s, x], argTypes := #[33, 33] })
    (v : Value) (n : Nat) (xs : List Value) (hs : a.eval s = v) (hown : w.ownsRow 0 5 1 v n xs) (ad : Option Addr) (m c : Nat) (l : List UInt8) (hx : a.eval x = .slice ad m c) (hb : Bytes w ad m l) (hnil : ad = none → m = 0 ∧ c = 0) (hm : n + m ≤ 140737488355328)
    (h : ∀ v' w', w'.ownsRow 0 5 1 v' (n + m) (xs ++ cellsOf l) → w.grownBy w' v.ownBlock → (v'.ownBlock = v.ownBlock ∨ v'.ownBlock = some w.heap.size) → wpList Tryz.prog ops Q rest (a.put o.dst v') w') : wpList Tryz.prog ops Q (o :: rest) a w :=
  wpList_plain hgd fun _ hK => wp_append_row w s x ho v n xs hs hown ad m c l hx hb hnil hm fun v' w' h2 h3 h4 => hK _ _ (h v' w' h2 h3 h4)

theorem step_append_row (w : World) {ops : Array Oper} {o : Oper} {a : Act} {K : Act → World → Prop} {Q : Exit → Act → World → Prop} {E : Prop} (hgd : o.guard = none) (s x : Operand)
    (ho : o.op = .call { callee := .builtin .append, args := #[s, x], argTypes := #[33, 33] })
    (v : Value) (n : Nat) (xs : List Value) (hs : a.eval s = v) (hown : w.ownsRow 0 5 1 v n xs) (ad : Option Addr) (m c : Nat) (l : List UInt8) (hx : a.eval x = .slice ad m c) (hb : Bytes w ad m l) (hnil : ad = none → m = 0 ∧ c = 0) (hm : n + m ≤ 140737488355328)
    (h : ∀ v' w', w'.ownsRow 0 5 1 v' (n + m) (xs ++ cellsOf l) → w.grownBy w' v.ownBlock → (v'.ownBlock = v.ownBlock ∨ v'.ownBlock = some w.heap.size) → K (a.put o.dst v') w') :
    if Region.wanted o (yielded ops a.tmps) = true then Oper.wp Tryz.prog o a w K Q else E := by
  have hw : Region.wanted o (yielded ops a.tmps) = true := by simp [Region.wanted, hgd]
  rw [if_pos hw]
  exact wp_append_row w s x ho v n xs hs hown ad m c l hx hb hnil hm h

/-- a file gets these bytes -/
def DG.set (S : DG) (l bs : List UInt8) : DG := { S with f := fun x => if x = l then some bs else S.f x, n := if (S.f l).isSome then S.n else S.n + 1 }

theorem keyLit (l : List UInt8) : WideAt.IsKeyLit (.string l) := trivial
theorem key_ne {l l' : List UInt8} (h : l' ≠ l) : (Lit.string l' : Lit) ≠ .string l := fun e => h (by cases e; rfl)

theorem ownsMap_tight {w : World} {b n : Nat} {M : DataW Value} (h : w.ownsMap Tryz.prog 9 rv b n M) : w.ownsMap Tryz.prog 9 rv b (size M) M := by
  obtain ⟨es, clock, h1, h2, h3, rfl⟩ := h
  exact ⟨es, clock, h1, h2, by simp [size, length_sorted], rfl⟩

/-- what the map holds at a name -/
theorem DiskAt.value {w : World} {p b : Nat} {M : DataW Value} {S : DG} {Fp : Nat → Prop} (h : DiskAt w p b M S Fp) (l : List UInt8) :
    ∃ v, M.atKey (.string l) nils = .held v ∧ w.ownsRow 0 5 1 v ((S.f l).getD []).length (cellsOf ((S.f l).getD [])) ∧ (∀ g, v.ownBlock = some g → Fp g ∧ g ≠ p ∧ g ≠ b ∧ (S.f l).isSome = true) := by
  cases hf : S.f l with
  | none =>
    have := h.has l
    rw [hf] at this
    exact ⟨.slice none 0 0, atKey_of_not_has (by simpa using this) _, World.ownsRow_nil _ _ _ _, by simp [Value.ownBlock]⟩
  | some bs =>
    obtain ⟨v, h1, h2, h3⟩ := h.row l bs hf
    exact ⟨v, h1, h2, fun g hg => ⟨(h3 g hg).1, (h3 g hg).2.1, (h3 g hg).2.2, rfl⟩⟩

theorem ownsRow_rv {w : World} {B n : Nat} {v : Value} {xs : List Value} (h : w.ownsRow B 5 1 v n xs) : rv v = some (.held v, []) := by
  rcases h.2 with ⟨rfl, _⟩ | ⟨g, cap, cur, rfl, _⟩ <;> rfl

/-- no file but this one lies in that block -/
def Free (w : World) (p b : Nat) (M : DataW Value) (S : DG) (Fp : Nat → Prop) (nm : List UInt8) (v' : Value) : Prop :=
  ∀ g, v'.ownBlock = some g → (Fp g ∨ w.heap.size ≤ g) ∧ g ≠ p ∧ g ≠ b ∧ ∀ l u, l ≠ nm → (S.f l).isSome = true → M.atKey (.string l) nils = .held u → u.ownBlock ≠ some g

theorem DiskAt.free_new {w : World} {p b : Nat} {M : DataW Value} {S : DG} {Fp : Nat → Prop} (h : DiskAt w p b M S Fp) (nm : List UInt8) (v' : Value) (hnew : ∀ g, v'.ownBlock = some g → w.heap.size ≤ g) : Free w p b M S Fp nm v' := by
  intro g hg
  have hge := hnew g hg
  refine ⟨.inr hge, fun e => by have := h.lt p h.fp; omega, fun e => by have := h.lt b h.fb; omega, ?_⟩
  intro l u _ hl hu hgu
  obtain ⟨bs, hbs⟩ := Option.isSome_iff_exists.1 hl
  obtain ⟨u0, h1, h2, h3⟩ := h.row l bs hbs
  obtain rfl : u0 = u := by rw [h1] at hu; cases hu; rfl
  have := h.lt g (h3 g hgu).1
  omega
theorem DiskAt.free_same {w : World} {p b : Nat} {M : DataW Value} {S : DG} {Fp : Nat → Prop} (h : DiskAt w p b M S Fp) (nm : List UInt8) (v v' : Value) (hv : M.atKey (.string nm) nils = .held v) (hvo : ∀ g, v.ownBlock = some g → Fp g ∧ g ≠ p ∧ g ≠ b ∧ (S.f nm).isSome = true) (he : v'.ownBlock = v.ownBlock) : Free w p b M S Fp nm v' := by
  intro g hg
  rw [he] at hg
  have := hvo g hg
  exact ⟨.inl this.1, this.2.1, this.2.2.1, fun l u hne hl hu hgu => hne (h.apart l nm u v g hl this.2.2.2 hu hv hgu hg)⟩
theorem DiskAt.free_append {w : World} {p b : Nat} {M : DataW Value} {S : DG} {Fp : Nat → Prop} (h : DiskAt w p b M S Fp) (nm : List UInt8) (v v' : Value) (hv : M.atKey (.string nm) nils = .held v) (hvo : ∀ g, v.ownBlock = some g → Fp g ∧ g ≠ p ∧ g ≠ b ∧ (S.f nm).isSome = true) (hat : v'.ownBlock = v.ownBlock ∨ v'.ownBlock = some w.heap.size) : Free w p b M S Fp nm v' :=
  hat.elim (h.free_same nm v v' hv hvo) (fun e => h.free_new nm v' (fun g hg => by rw [e] at hg; cases hg; exact Nat.le_refl _))

theorem DiskAt.put {w w1 : World} {p b : Nat} {M : DataW Value} {S : DG} {Fp : Nat → Prop} (h : DiskAt w p b M S Fp) (s : ByteArray) (hs : s.size ≤ maxLen) (v v' : Value) (bs : List UInt8)
    (hv : M.atKey (.string s.data.toList) nils = .held v) (hvo : ∀ g, v.ownBlock = some g → Fp g ∧ g ≠ p ∧ g ≠ b ∧ (S.f s.data.toList).isSome = true) (hg : w.grownBy w1 v.ownBlock) (ho : w1.ownsRow 0 5 1 v' bs.length (cellsOf bs))
    (hat : Free w p b M S Fp s.data.toList v') (hn : S.n < maxLen) :
    ∃ w2, (Instr.mapUpdate 83 (.map (some b)) (.string s) v').run Tryz.prog w1 = .ok () w2 ∧ DiskAt w2 p b (M.put (.string s.data.toList) (.held v')) (S.set s.data.toList bs) (grow Fp w w2) ∧ Turn Fp w w2 := by
  have hblt := h.own.lt
  have hbk : some b ≠ v.ownBlock := fun e => (hvo b e.symm).2.2.1 rfl
  have own1 : w1.ownsMap Tryz.prog 9 rv b (size M) M := h.own.kept hg hbk
  obtain ⟨w2, hrun, own2, hg2⟩ := own1.update keyed Tryz.underlying83 (by rw [h.sz]; exact hn) (keyOfS s hs) (ownsRow_rv ho)
  have hT1 : Turn Fp w w1 := Turn.of_grownBy hg (fun k hk => .inl (hvo k hk).1)
  have hT : Turn Fp w w2 := hT1.trans (Turn.of_grownBy (Fp := fun k => k = b) hg2 (fun k hk => .inl (by cases hk; rfl))) (fun i _ hi => by subst hi; exact h.fb)
  have hm := h.own.isMap
  have htidy := h.own.tidy keyed
  have hv'lt : ∀ g, v'.ownBlock = some g → g < w1.heap.size := fun g hg' => (ho.lt g hg').2
  have hplt : p < w.heap.size := h.lt p h.fp
  have hp2 : w2.heap[p]? = w.heap[p]? := by
    rw [hg2.block p (Nat.lt_of_lt_of_le hplt hg.size) (by simpa using h.pb), hg.block p hplt (fun e => (hvo p e.symm).2.1 rfl)]
  have hrow2 : ∀ g, g ≠ b → g < w1.heap.size → w2.heap[g]? = w1.heap[g]? := fun g hg' hlt => hg2.block g hlt (by simpa using hg')
  have hv'b : ∀ g, v'.ownBlock = some g → g ≠ b ∧ g ≠ p ∧ grow Fp w w2 g := by
    intro g hg'
    have hf := hat g hg'
    exact ⟨hf.2.2.1, hf.2.1, hf.1.imp id (fun hge => ⟨hge, Nat.lt_of_lt_of_le (hv'lt g hg') hg2.size⟩)⟩
  refine ⟨w2, hrun, ?_, hT⟩
  refine { c0 := ?_, c1 := ?_, c2 := ?_, c3 := ?_, f1 := ?_, f2 := ?_, f3 := ?_, hl := h.hl, pb := h.pb, own := ownsMap_tight own2, sz := ?_, has := ?_, row := ?_, apart := ?_, fp := .inl h.fp, fb := .inl h.fb, lt := ?_ }
  · rw [World.cell?_of_block hp2]; exact h.c0
  · rw [World.cell?_of_block hp2]; exact h.c1
  · rw [World.cell?_of_block hp2]; exact h.c2
  · rw [World.cell?_of_block hp2]; exact h.c3
  · rw [World.frozen?_of_block hp2]; exact h.f1
  · rw [World.frozen?_of_block hp2]; exact h.f2
  · rw [World.frozen?_of_block hp2]; exact h.f3
  · rw [size_put htidy, h.has, h.sz]; rfl
  · intro l
    by_cases e : l = s.data.toList
    · subst e
      rw [has_put_same hm (keyLit _)]
      simp [DG.set]
    · rw [has_put_other (key_ne e), h.has]
      simp [DG.set, e]
  · intro l bs' hf
    by_cases e : l = s.data.toList
    · subst e
      simp only [DG.set, if_true, Option.some.injEq] at hf
      subst hf
      exact ⟨v', atKey_put_same hm (keyLit _) _ _, ownsRow_move ho (fun g hg' => hrow2 g (hv'b g hg').1 (hv'lt g hg')), fun g hg' => ⟨(hv'b g hg').2.2, (hv'b g hg').2.1, (hv'b g hg').1⟩⟩
    · simp only [DG.set, if_neg e] at hf
      obtain ⟨u, h1, h2, h3⟩ := h.row l bs' hf
      have hne : ∀ g, u.ownBlock = some g → some g ≠ v.ownBlock := fun g hg' e' => e (h.apart l s.data.toList u v g (by rw [hf]; rfl) (hvo g e'.symm).2.2.2 h1 hv hg' e'.symm)
      refine ⟨u, by rw [atKey_put_other (key_ne e)]; exact h1, ownsRow_move h2 (fun g hg' => ?_), fun g hg' => ⟨.inl (h3 g hg').1, (h3 g hg').2⟩⟩
      have hlt := h.lt g (h3 g hg').1
      rw [hrow2 g (h3 g hg').2.2 (Nat.lt_of_lt_of_le hlt hg.size), hg.block g hlt (hne g hg')]
  · intro l l' u u' g hl hl' hu hu' hg1 hg2'
    -- the block of the file that was written is another file's nowhere
    have key : ∀ l' u', l' ≠ s.data.toList → (S.f l').isSome = true → M.atKey (.string l') nils = .held u' → v'.ownBlock = some g → u'.ownBlock = some g → False := by
      intro l' u' e hl' hu' hgv hgu
      exact (hat g hgv).2.2.2 l' u' e hl' hu' hgu
    by_cases e : l = s.data.toList
    · by_cases e' : l' = s.data.toList
      · rw [e, e']
      · subst e
        rw [atKey_put_same hm (keyLit _)] at hu
        cases hu
        rw [atKey_put_other (key_ne e')] at hu'
        simp only [DG.set, if_neg e'] at hl'
        exact (key l' u' e' hl' hu' hg1 hg2').elim
    · by_cases e' : l' = s.data.toList
      · subst e'
        rw [atKey_put_same hm (keyLit _)] at hu'
        cases hu'
        rw [atKey_put_other (key_ne e)] at hu
        simp only [DG.set, if_neg e] at hl
        exact (key l u e hl hu hg2' hg1).elim
      · rw [atKey_put_other (key_ne e)] at hu
        rw [atKey_put_other (key_ne e')] at hu'
        simp only [DG.set, if_neg e] at hl
        simp only [DG.set, if_neg e'] at hl'
        exact h.apart l l' u u' g hl hl' hu hu' hg1 hg2'
  · rintro k (hk | ⟨_, hk⟩)
    · exact Nat.lt_of_lt_of_le (h.lt k hk) hT.size
    · exact hk

end Go.Proofs.YtdjodigimhgklaaGreatDoor
