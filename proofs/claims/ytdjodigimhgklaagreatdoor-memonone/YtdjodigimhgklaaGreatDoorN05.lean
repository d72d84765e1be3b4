import Derived.Test.YtdjodigimhgklaaGreatDoorProg
import Derived.Test.YtdjodigimhgklaaGreatDoorN01
import Derived.Test.YtdjodigimhgklaaGreatDoorN03
import Derived.Maps.OwnSet
import Derived.Maps.AppendAt
import Derived.Test.YtdjodigimhgklaaGreatDoorN02
/- What a Disk of the program is in memory: its fields, its map of files, the rows of its bytes; which blocks it owns; and that it stays what it is while others are written. -/
namespace Go.Proofs.YtdjodigimhgklaaGreatDoor
open Go.RowKit Go.Maps

/-- what a disk holds: its files, how many they are, how many raw writes it has done, whether it is cut, and how many it does yet -/
structure DG where
  f : List UInt8 → Option (List UInt8)
  n : Nat
  wr : Nat
  cut : Bool
  left : Nat

/-- an element of the map read as the value that it is -/
def rv : Value → Option (DataW Value × List MemPlace)
  | .slice a n c => some (.held (.slice a n c), [])
  | _ => none
abbrev nils : DataW Value := .held (.slice none 0 0)

/-- nothing but what Fp holds of, and new blocks, has turned -/
structure Turn (Fp : Nat → Prop) (w w' : World) : Prop where
  os : w'.os = w.os
  tape : w'.tape = w.tape
  output : w'.output = w.output
  size : w.heap.size ≤ w'.heap.size
  block : ∀ k, k < w.heap.size → ¬ Fp k → w'.heap[k]? = w.heap[k]?

theorem Turn.refl (Fp : Nat → Prop) (w : World) : Turn Fp w w := ⟨rfl, rfl, rfl, Nat.le_refl _, fun _ _ _ => rfl⟩
theorem Turn.trans {Fp Gp : Nat → Prop} {a b c : World} (h : Turn Fp a b) (k : Turn Gp b c) (hs : ∀ i, i < a.heap.size → Gp i → Fp i) : Turn Fp a c :=
  ⟨k.os.trans h.os, k.tape.trans h.tape, k.output.trans h.output, Nat.le_trans h.size k.size, fun i hi hf =>
    (k.block i (Nat.lt_of_lt_of_le hi h.size) (fun hg => hf (hs i hi hg))).trans (h.block i hi hf)⟩
theorem Turn.of_grownBy {w w' : World} {row : Option Nat} {Fp : Nat → Prop} (h : w.grownBy w' row) (hr : ∀ k, row = some k → Fp k ∨ w.heap.size ≤ k) : Turn Fp w w' :=
  ⟨h.os, h.tape, h.output, h.size, fun k hk hf => h.block k hk (fun e => by
    rcases hr k e.symm with h1 | h1
    · exact hf h1
    · omega)⟩
theorem Turn.of_below {w w' : World} (Fp : Nat → Prop) (h : Below w.heap.size w w') : Turn Fp w w' := ⟨h.os, h.tape, h.output, h.size, fun k hk _ => h.block k hk⟩
theorem Turn.below {Fp : Nat → Prop} {w w' : World} {B : Nat} (h : Turn Fp w w') (hB : B ≤ w.heap.size) (hf : ∀ k, Fp k → B ≤ k) : Below B w w' :=
  ⟨h.os, h.tape, h.output, h.size, fun k hk => h.block k (by omega) (fun hk' => by have := hf k hk'; omega)⟩
theorem Turn.wide {Fp Gp : Nat → Prop} {w w' : World} (h : Turn Fp w w') (hs : ∀ k, Fp k → Gp k) : Turn Gp w w' := ⟨h.os, h.tape, h.output, h.size, fun k hk hg => h.block k hk (fun hf => hg (hs k hf))⟩
theorem Turn.cell {Fp : Nat → Prop} {w w' : World} (h : Turn Fp w w') {a : Addr} {v : Value} (hc : w.cell? a = some v) (hn : ¬ Fp a.block) : w'.cell? a = some v := by
  rw [World.cell?_of_block (h.block a.block (World.block_lt_of_cell? w a hc) hn)]; exact hc
theorem Turn.frozen {Fp : Nat → Prop} {w w' : World} (h : Turn Fp w w') {a : Addr} (hlt : a.block < w.heap.size) (hn : ¬ Fp a.block) : w'.frozen? a = w.frozen? a := World.frozen?_of_block (h.block a.block hlt hn)
theorem Turn.bytes {Fp : Nat → Prop} {w w' : World} (h : Turn Fp w w') {a : Option Addr} {n : Nat} {l : List UInt8} (hb : Bytes w a n l) (hn : 0 < n → ∀ x, a = some x → ¬ Fp x.block) : Bytes w' a n l := by
  refine ⟨hb.1, fun h0 => ?_⟩
  obtain ⟨b, off, rfl, hc⟩ := hb.2 h0
  exact ⟨b, off, rfl, fun i hi => h.cell (hc i hi) (hn h0 ⟨b, off, none⟩ rfl)⟩

/-- the blocks that a disk owns behind a call: those that it owned, and those that the call made -/
def grow (Fp : Nat → Prop) (w w' : World) : Nat → Prop := fun k => Fp k ∨ (w.heap.size ≤ k ∧ k < w'.heap.size)

/-- block p of w is a disk, its map in block b -/
structure DiskAt (w : World) (p b : Nat) (M : DataW Value) (S : DG) (Fp : Nat → Prop) : Prop where
  c0 : w.cell? ⟨p, 0, none⟩ = some (.map (some b))
  c1 : w.cell? ⟨p, 1, none⟩ = some (.int .i64 S.wr)
  c2 : w.cell? ⟨p, 2, none⟩ = some (.bool S.cut)
  c3 : w.cell? ⟨p, 3, none⟩ = some (.int .i64 S.left)
  f1 : w.frozen? ⟨p, 1, none⟩ = false
  f2 : w.frozen? ⟨p, 2, none⟩ = false
  f3 : w.frozen? ⟨p, 3, none⟩ = false
  hl : S.left ≤ 9223372036854775807
  pb : p ≠ b
  own : w.ownsMap Tryz.prog 9 rv b (size M) M
  sz : size M = S.n
  has : ∀ l, has M (.string l) = (S.f l).isSome
  row : ∀ l bs, S.f l = some bs → ∃ v, M.atKey (.string l) nils = .held v ∧ w.ownsRow 0 5 1 v bs.length (cellsOf bs) ∧ ∀ g, v.ownBlock = some g → Fp g ∧ g ≠ p ∧ g ≠ b
  apart : ∀ l l' v v' g, (S.f l).isSome = true → (S.f l').isSome = true → M.atKey (.string l) nils = .held v → M.atKey (.string l') nils = .held v' → v.ownBlock = some g → v'.ownBlock = some g → l = l'
  fp : Fp p
  fb : Fp b
  lt : ∀ k, Fp k → k < w.heap.size

/-- block p of w is a disk -/
def IsDisk (w : World) (p : Nat) (S : DG) (Fp : Nat → Prop) : Prop := ∃ b M, DiskAt w p b M S Fp

theorem rv_slice {v : Value} {y : DataW Value × List MemPlace} (h : rv v = some y) : ∃ t : Option Addr × Nat × Nat, v = .slice t.1 t.2.1 t.2.2 := by
  cases v <;> simp [rv] at h
  exact ⟨(_, _, _), rfl⟩
theorem rv_inv {v : Value} {d : DataW Value} {ps : List MemPlace} (h : rv v = some (d, ps)) : d = .held v := by
  obtain ⟨t, rfl⟩ := rv_slice h
  simp [rv] at h
  exact h.1.symm

theorem ownsRow_move {w w' : World} {B n : Nat} {v : Value} {xs : List Value} (h : w.ownsRow B 5 1 v n xs) (hb : ∀ g, v.ownBlock = some g → w'.heap[g]? = w.heap[g]?) : w'.ownsRow B 5 1 v n xs := by
  refine ⟨h.1, ?_⟩
  rcases h.2 with h0 | ⟨g, cap, cur, rfl, h1, h2, h3⟩
  · exact .inl h0
  · exact .inr ⟨g, cap, cur, rfl, h1, by rw [hb g rfl]; exact h2, h3⟩

theorem DiskAt.kept {w w' : World} {p b : Nat} {M : DataW Value} {S : DG} {Fp : Nat → Prop} (h : DiskAt w p b M S Fp) (hs : w.heap.size ≤ w'.heap.size) (hk : ∀ k, Fp k → w'.heap[k]? = w.heap[k]?) : DiskAt w' p b M S Fp where
  c0 := by rw [World.cell?_of_block (hk p h.fp)]; exact h.c0
  c1 := by rw [World.cell?_of_block (hk p h.fp)]; exact h.c1
  c2 := by rw [World.cell?_of_block (hk p h.fp)]; exact h.c2
  c3 := by rw [World.cell?_of_block (hk p h.fp)]; exact h.c3
  f1 := by rw [World.frozen?_of_block (hk p h.fp)]; exact h.f1
  f2 := by rw [World.frozen?_of_block (hk p h.fp)]; exact h.f2
  f3 := by rw [World.frozen?_of_block (hk p h.fp)]; exact h.f3
  hl := h.hl
  pb := h.pb
  own := by
    obtain ⟨es, clock, hb, r⟩ := h.own
    exact ⟨es, clock, (hk b h.fb).trans hb, r⟩
  sz := h.sz
  has := h.has
  row := fun l bs hf => by
    obtain ⟨v, h1, h2, h3⟩ := h.row l bs hf
    exact ⟨v, h1, ownsRow_move h2 (fun g hg => hk g (h3 g hg).1), h3⟩
  apart := h.apart
  fp := h.fp
  fb := h.fb
  lt := fun k hf => Nat.lt_of_lt_of_le (h.lt k hf) hs

theorem DiskAt.wide {w : World} {p b : Nat} {M : DataW Value} {S : DG} {Fp Gp : Nat → Prop} (h : DiskAt w p b M S Fp) (hs : ∀ k, Fp k → Gp k) (hlt : ∀ k, Gp k → k < w.heap.size) : DiskAt w p b M S Gp :=
  { h with
    row := fun l bs hf => by
      obtain ⟨v, h1, h2, h3⟩ := h.row l bs hf
      exact ⟨v, h1, h2, fun g hg => ⟨hs g (h3 g hg).1, (h3 g hg).2⟩⟩
    fp := hs _ h.fp, fb := hs _ h.fb, lt := hlt }

theorem DiskAt.turn {w w' : World} {p b : Nat} {M : DataW Value} {S : DG} {Fp Gp : Nat → Prop} (h : DiskAt w p b M S Fp) (ht : Turn Gp w w') (hd : ∀ k, Fp k → ¬ Gp k) : DiskAt w' p b M S Fp :=
  h.kept ht.size (fun k hk => ht.block k (h.lt k hk) (hd k hk))
theorem IsDisk.turn {w w' : World} {p : Nat} {S : DG} {Fp Gp : Nat → Prop} (h : IsDisk w p S Fp) (ht : Turn Gp w w') (hd : ∀ k, Fp k → ¬ Gp k) : IsDisk w' p S Fp := by
  obtain ⟨b, M, h⟩ := h
  exact ⟨b, M, h.turn ht hd⟩
theorem IsDisk.below {w w' : World} {p : Nat} {S : DG} {Fp : Nat → Prop} (h : IsDisk w p S Fp) (hB : Below w.heap.size w w') : IsDisk w' p S Fp := h.turn (Turn.of_below (fun _ => False) hB) (fun _ _ => id)
theorem IsDisk.wide {w : World} {p : Nat} {S : DG} {Fp Gp : Nat → Prop} (h : IsDisk w p S Fp) (hs : ∀ k, Fp k → Gp k) (hlt : ∀ k, Gp k → k < w.heap.size) : IsDisk w p S Gp := by
  obtain ⟨b, M, h⟩ := h
  exact ⟨b, M, h.wide hs hlt⟩
theorem IsDisk.lt {w : World} {p : Nat} {S : DG} {Fp : Nat → Prop} (h : IsDisk w p S Fp) (k : Nat) (hk : Fp k) : k < w.heap.size := by
  obtain ⟨b, M, h⟩ := h
  exact h.lt k hk

/-- a field of the disk is written -/
theorem DiskAt.field {w : World} {p b : Nat} {M : DataW Value} {S : DG} {Fp : Nat → Prop} (h : DiskAt w p b M S Fp) (o : Nat) (v : Value) (ho : o ≠ 0) (S' : DG) (hf : S'.f = S.f) (hn : S'.n = S.n) (hl : S'.left ≤ 9223372036854775807)
    (h1 : (w.setCell ⟨p, o, none⟩ v).cell? ⟨p, 1, none⟩ = some (.int .i64 S'.wr)) (h2 : (w.setCell ⟨p, o, none⟩ v).cell? ⟨p, 2, none⟩ = some (.bool S'.cut)) (h3 : (w.setCell ⟨p, o, none⟩ v).cell? ⟨p, 3, none⟩ = some (.int .i64 S'.left)) :
    DiskAt (w.setCell ⟨p, o, none⟩ v) p b M S' Fp where
  c0 := by rw [World.cell?_setCell_other _ _ _ _ (by first | (simp; done) | (simp; omega))]; exact h.c0
  c1 := h1
  c2 := h2
  c3 := h3
  f1 := by rw [World.frozen?_setCell]; exact h.f1
  f2 := by rw [World.frozen?_setCell]; exact h.f2
  f3 := by rw [World.frozen?_setCell]; exact h.f3
  hl := hl
  pb := h.pb
  own := by
    obtain ⟨es, clock, hb, r⟩ := h.own
    exact ⟨es, clock, (Below.heap_setCell _ _ _ _ (fun e => h.pb e.symm)).trans hb, r⟩
  sz := by rw [hn]; exact h.sz
  has := by rw [hf]; exact h.has
  row := fun l bs hfl => by
    rw [hf] at hfl
    obtain ⟨v', h1, h2, h3⟩ := h.row l bs hfl
    exact ⟨v', h1, ownsRow_move h2 (fun g hg => Below.heap_setCell _ _ _ _ (h3 g hg).2.1), h3⟩
  apart := by rw [hf]; exact h.apart
  fp := h.fp
  fb := h.fb
  lt := fun k hk => by have := h.lt k hk; simpa [World.setCell] using this

end Go.Proofs.YtdjodigimhgklaaGreatDoor

/- Plain facts on the hash: a byte more is a step more; another byte is another hash; digits there and back. Nothing of the program is named here. -/
namespace Go.Proofs.YtdjodigimhgklaaGreatDoor
open Go.RowKit

theorem hashTo_congr (l m : List UInt8) : ∀ k, (∀ j, j < k → bt l j = bt m j) → hashTo l k = hashTo m k := by
  intro k
  induction k with
  | zero => intro _; rfl
  | succ k ih => intro h; rw [hashTo_succ, hashTo_succ, ih (fun j hj => h j (by omega)), h k (by omega)]

theorem bt_append_left (l m : List UInt8) (j : Nat) (h : j < l.length) : bt (l ++ m) j = bt l j := by
  unfold bt
  rw [List.getD_eq_getElem?_getD, List.getD_eq_getElem?_getD, List.getElem?_append_left h]
theorem bt_snoc (l : List UInt8) (c : UInt8) : bt (l ++ [c]) l.length = (c.toNat : Int) := by
  unfold bt
  simp

theorem hashTo_snoc (l : List UInt8) (c : UInt8) (n : Nat) (h : l.length = n) : hashTo (l ++ [c]) (n + 1) = IntKind.u64.wrap (bits BinOp.xor IntKind.u64 (hashTo l n) (c.toNat : Int) * 1099511628211) := by
  rw [hashTo_succ, ← h, bt_snoc, hashTo_congr (l ++ [c]) l l.length (fun j hj => bt_append_left l [c] j hj)]

theorem xor_inj (a b c : Int) (a0 : 0 ≤ a) (a1 : a < 18446744073709551616) (b0 : 0 ≤ b) (b1 : b < 18446744073709551616) (c0 : 0 ≤ c) (c1 : c < 18446744073709551616)
    (h : bits BinOp.xor IntKind.u64 a c = bits BinOp.xor IntKind.u64 b c) : a = b := by
  rw [u64_xor a c a0 a1 c0 c1, u64_xor b c b0 b1 c0 c1] at h
  have h' : a.toNat ^^^ c.toNat = b.toNat ^^^ c.toNat := by omega
  have := congrArg (· ^^^ c.toNat) h'
  simp only [Nat.xor_assoc, Nat.xor_self, Nat.xor_zero] at this
  omega
theorem xor_inj' (a b c : Int) (a0 : 0 ≤ a) (a1 : a < 18446744073709551616) (b0 : 0 ≤ b) (b1 : b < 18446744073709551616) (c0 : 0 ≤ c) (c1 : c < 18446744073709551616)
    (h : bits BinOp.xor IntKind.u64 c a = bits BinOp.xor IntKind.u64 c b) : a = b := by
  rw [u64_xor c a c0 c1 a0 a1, u64_xor c b c0 c1 b0 b1] at h
  have h' : c.toNat ^^^ a.toNat = c.toNat ^^^ b.toNat := by omega
  have := congrArg (c.toNat ^^^ ·) h'
  simp only [← Nat.xor_assoc, Nat.xor_self, Nat.zero_xor] at this
  omega
theorem xor_bd (a c : Int) (a0 : 0 ≤ a) (a1 : a < 18446744073709551616) (c0 : 0 ≤ c) (c1 : c < 18446744073709551616) : 0 ≤ bits BinOp.xor IntKind.u64 a c ∧ bits BinOp.xor IntKind.u64 a c < 18446744073709551616 := by
  rw [u64_xor a c a0 a1 c0 c1]
  have : a.toNat ^^^ c.toNat < 2 ^ 64 := Nat.xor_lt_two_pow (by omega) (by omega)
  omega

theorem mul_inj (a b : Int) (a0 : 0 ≤ a) (a1 : a < 18446744073709551616) (b0 : 0 ≤ b) (b1 : b < 18446744073709551616) (h : IntKind.u64.wrap (a * 1099511628211) = IntKind.u64.wrap (b * 1099511628211)) : a = b := by
  rw [IntKind.wrap_u64, IntKind.wrap_u64] at h
  have e : ∀ z : Int, (z * 1099511628211 % 18446744073709551616 * 14886173955864302971) % 18446744073709551616 = z % 18446744073709551616 := by
    intro z
    have hc : (1099511628211 : Int) * 14886173955864302971 = 1 + 18446744073709551616 * 887285111055 := by decide
    rw [Int.mul_emod, Int.emod_emod, ← Int.mul_emod, Int.mul_assoc, hc, Int.mul_add, Int.mul_one, Int.mul_left_comm, Int.add_mul_emod_self_left]
  have ha := e a
  rw [h, e b, Int.emod_eq_of_lt b0 b1, Int.emod_eq_of_lt a0 a1] at ha
  exact ha.symm

/-- a step from unlike hashes, by the same byte, leads to unlike hashes -/
theorem step_inj (a b c : Int) (a0 : 0 ≤ a) (a1 : a < 18446744073709551616) (b0 : 0 ≤ b) (b1 : b < 18446744073709551616) (c0 : 0 ≤ c) (c1 : c ≤ 255)
    (h : IntKind.u64.wrap (bits BinOp.xor IntKind.u64 a c * 1099511628211) = IntKind.u64.wrap (bits BinOp.xor IntKind.u64 b c * 1099511628211)) : a = b := by
  have xa := xor_bd a c a0 a1 c0 (by omega)
  have xb := xor_bd b c b0 b1 c0 (by omega)
  exact xor_inj a b c a0 a1 b0 b1 c0 (by omega) (mul_inj _ _ xa.1 xa.2 xb.1 xb.2 h)
theorem step_inj' (a b c : Int) (a0 : 0 ≤ a) (a1 : a ≤ 255) (b0 : 0 ≤ b) (b1 : b ≤ 255) (c0 : 0 ≤ c) (c1 : c < 18446744073709551616)
    (h : IntKind.u64.wrap (bits BinOp.xor IntKind.u64 c a * 1099511628211) = IntKind.u64.wrap (bits BinOp.xor IntKind.u64 c b * 1099511628211)) : a = b := by
  have xa := xor_bd c a c0 c1 a0 (by omega)
  have xb := xor_bd c b c0 c1 b0 (by omega)
  exact xor_inj' a b c a0 (by omega) b0 (by omega) c0 c1 (mul_inj _ _ xa.1 xa.2 xb.1 xb.2 h)

/-- rows that differ in one byte alone have unlike hashes -/
theorem hashTo_other (l m : List UInt8) (j n : Nat) (hj : j < n) (hother : ∀ i, i ≠ j → bt l i = bt m i) (hne : bt l j ≠ bt m j) : hashTo l n ≠ hashTo m n := by
  obtain ⟨d, rfl⟩ : ∃ d, n = j + 1 + d := ⟨n - (j + 1), by omega⟩
  clear hj
  induction d with
  | zero =>
    intro h
    rw [Nat.add_zero, hashTo_succ, hashTo_succ, hashTo_congr l m j (fun i hi => hother i (by omega))] at h
    have h0 := hashTo_lo m j
    have h1 := hashTo_hi m j
    exact hne (step_inj' _ _ _ (bt_lo l j) (bt_hi l j) (bt_lo m j) (bt_hi m j) h0 (by omega) h)
  | succ d ih =>
    intro h
    rw [show j + 1 + (d + 1) = (j + 1 + d) + 1 from by omega, hashTo_succ, hashTo_succ, hother (j + 1 + d) (by omega)] at h
    have a0 := hashTo_lo l (j + 1 + d)
    have a1 := hashTo_hi l (j + 1 + d)
    have b0 := hashTo_lo m (j + 1 + d)
    have b1 := hashTo_hi m (j + 1 + d)
    exact ih (step_inj _ _ _ a0 (by omega) b0 (by omega) (bt_lo m _) (bt_hi m _) h)

theorem unhexTo_hexOf (x : Nat) : ∀ k, k ≤ 16 → x < 16 ^ 16 → unhexTo (hexOf x) k = ((x / 16 ^ (16 - k) : Nat) : Int) := by
  intro k
  induction k with
  | zero => intro _ hx; rw [Nat.sub_zero, Nat.div_eq_of_lt hx]; rfl
  | succ k ih =>
    intro hk hx
    rw [unhexTo_succ, ih (by omega) hx, hexOf_bt x k (by omega), dig_hexd _ (Nat.mod_lt _ (by omega)), show 16 - k = (15 - k) + 1 from by omega, show 16 - (k + 1) = 15 - k from by omega, Nat.pow_succ, ← Nat.div_div_eq_div_mul]
    omega
theorem hexOK_hexOf (x : Nat) : hexOK (hexOf x) := by
  refine ⟨hexOf_len x, fun j hj => ?_⟩
  have h16 : x / 16 ^ (15 - j) % 16 < 16 := Nat.mod_lt _ (by omega)
  rw [hexOf_bt x j hj, dig_hexd _ h16]
  omega
theorem unhex_hex (x : Nat) (hx : x < 18446744073709551616) : unhexTo (hexOf x) 16 = (x : Int) := by
  rw [unhexTo_hexOf x 16 (by omega) hx]
  simp

end Go.Proofs.YtdjodigimhgklaaGreatDoor
