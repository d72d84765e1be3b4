import Derived.Test.YtncagdfbgpdhfaaGreatP04
import Derived.Test.YtncagdfbgpdhfaaGreatP10
import Derived.Test.YtncagdfbgpdhfaaGreatProg
import Derived.Test.YtncagdfbgpdhfaaGreatP01
import Derived.Test.YtncagdfbgpdhfaaGreatP02
import Derived.Maps.OwnSet
import Derived.Maps.AppendAt
/- A blob: its types, its copy, the document's bytes. -/
namespace Go.Proofs.YtncagdfbgpdhfaaGreat
open Go.RowKit

theorem fresh_blob (a : Option Addr) (n c : Nat) (l : List UInt8) (w : World) (hb : Bytes w a n l) (hnil : a = none → n = 0 ∧ c = 0) (hn : n ≤ 1099511627776) :
    Calls Tryz.prog 79 #[.iface 82 (.agg #[.slice a n c])] w fun e w' => ∃ ad cp, e = .returned (.iface 82 (.agg #[.slice ad n cp])) ∧ OwnB w.heap.size l (.slice ad n cp) w' ∧ Below w.heap.size w w' := by
  have h1 := as_blob (.agg #[.slice a n c])
  have hB0 : Below w.heap.size w (w.alloc (.cells #[.slice a n c] 82)) := (Below.refl _ w).alloc (Nat.le_refl _) _
  have hll := hb.1
  have hcl : Calls Tryz.prog 71 #[.slice a n c] (w.alloc (.cells #[.slice a n c] 82)) fun e w' => ∃ ad cp, e = .returned (.slice ad n cp) ∧ Hid (w'.ownsRow (w.heap.size + 1) 5 1 (.slice ad n cp) n (cellsOf l) ∧ Below (w.heap.size + 1) (w.alloc (.cells #[.slice a n c] 82)) w') ∧ Boxed w' w.heap.size 82 (.slice a n c) := by
    refine (oclone_any a n c l _ (bytes_below hb hB0) hnil (by omega)).mono fun e w' ⟨v, he, ho, hB⟩ => ?_
    have hbx : Boxed w' w.heap.size 82 (.slice a n c) := (hB.block w.heap.size (by simp)).trans (World.alloc_heap_new _ _)
    rw [World.size_alloc] at ho hB
    obtain ⟨ad, cp, rfl, _⟩ := row_shape ho
    exact ⟨ad, cp, he, ⟨ho, hB⟩, hbx⟩
  go_enter Tryz.func79, Tryz.ntmps79
  go_wp2_with (go_at_call 71; refine hcl.mono ?_; clear hcl; rintro e w1 ⟨ad, cp, rfl, HO, hbx⟩; have cb := hbx.cell; have fb := hbx.frozen; have c2 := (hbx.set (.slice ad n cp)).cell)
  go_ret
  obtain ⟨ho, hB⟩ := HO.out
  refine ⟨ad, cp, rfl, ⟨?_⟩, (hB0.trans (hB.mono (by omega))).setCell (p := ⟨w.heap.size, 0, none⟩) (Nat.le_refl _) _⟩
  rw [hll]
  refine row_lower (ho.kept (row := some w.heap.size) (grownBy_setCell' w1 w.heap.size _) ?_) (by omega)
  exact .inr fun e => by have := (row_block ho w.heap.size e).1; omega
theorem Copy_blob (a : Option Addr) (n c : Nat) (l : List UInt8) (w : World) (hb : Bytes w a n l) (hnil : a = none → n = 0 ∧ c = 0) (hn : n ≤ 1099511627776) :
    Calls Tryz.prog 58 #[.iface 82 (.agg #[.slice a n c])] w fun e w' => ∃ ad cp, e = .returned (.iface 82 (.agg #[.slice ad n cp])) ∧ OwnB w.heap.size l (.slice ad n cp) w' ∧ Below w.heap.size w w' := by
  go_enter Tryz.func58, Tryz.ntmps58
  go_wp2_with (go_at_call 79; refine (fresh_blob a n c l _ hb hnil hn).mono ?_; rintro e w1 ⟨ad, cp, rfl, hO, hB⟩)
  go_ret
  exact ⟨ad, cp, rfl, hO, hB⟩

end Go.Proofs.YtncagdfbgpdhfaaGreat

/- A commit's copy, its type, the law's comparison of two commits. -/
namespace Go.Proofs.YtncagdfbgpdhfaaGreat
open Go.RowKit

attribute [local go_sem] Oper.semAt_some

set_option maxHeartbeats 1000000 in
theorem clone_ids (a : Option Addr) (n c : Nat) (l : List Int) (w : World) (hb : Ids w a n l) (hnil : a = none → n = 0 ∧ c = 0) (hbig : n ≤ 1099511627776) :
    Calls Tryz.prog 62 #[.slice a n c] w fun e w' => ∃ v, e = .returned v ∧ w'.ownsRow w.heap.size 31 1 v n (l.map (Value.int .u64)) ∧ Below w.heap.size w w' := by
  have q22 : ∀ (w : World) (a : Option Addr) (n c n' c' : Nat), (binOp .eql 28 (.slice a n c) (.slice none n' c')).run Tryz.prog w = .ok (.bool a.isNone) w := fun w a n c n' c' => Lib.run_eql_slice_nil w _ _ a n c n' c' Tryz.underlying28
  cases a with
  | none =>
    obtain ⟨rfl, rfl⟩ := hnil rfl
    have hl : l = [] := List.eq_nil_of_length_eq_zero hb.1
    subst hl
    go_enter Tryz.func62, Tryz.ntmps62
    go_wp2
    go_ret
    exact ⟨_, rfl, World.ownsRow_nil _ _ _ _, Below.refl _ _⟩
  | some a =>
    have hB0 : Below w.heap.size w (w.alloc (.cells #[] 31)) := (Below.refl _ _).alloc (Nat.le_refl _) _
    have hb0 : Ids (w.alloc (.cells #[] 31)) (some a) n l := hb.below hB0
    have hr0 : (w.alloc (.cells #[] 31)).ownsRow w.heap.size 31 1 (.slice (some ⟨w.heap.size, 0, none⟩) 0 0) 0 (([] : List Int).map (Value.int .u64)) := World.ownsRow_made w #[] 0 (Nat.le_refl _) (by unfold maxLen; omega) rfl
    go_enter Tryz.func62, Tryz.ntmps62
    go_wp2_with (at_builtin; refine wpList_appI _ w.heap.size (by simp) rfl _ _ rfl (.slice (some ⟨w.heap.size, 0, none⟩) 0 0) 0 [] rfl hr0 (some a) n c l rfl hb0 hnil (by omega) ?_; intro v' w1 hown hgrow; obtain ⟨a', c', rfl, hnc, hnn⟩ := row_shape hown)
    go_ret
    simp only [Nat.zero_add, List.nil_append] at *
    refine ⟨_, rfl, hown, hB0.grown hgrow (by simp) (by intro k hk; cases hk; exact Nat.le_refl _)⟩
theorem Box5.set1 {W : World} {B : Nat} {a b c d e : Value} (h : Box5 W B a b c d e) (b' : Value) : Box5 (W.setCell ⟨B, 1, none⟩ b') B a b' c d e := by
  have h' : W.heap[B]? = _ := h
  have hl := h.lt
  unfold Box5
  simp [World.setCell, Array.getElem?_modify, h']
set_option maxRecDepth 20000 in
set_option maxHeartbeats 2000000 in
theorem fresh_com (t : Int) (pa : Option Addr) (pn pc : Nat) (ps : List Int) (au : ByteArray) (d : Int) (tx : ByteArray) (w : World) (hb : Ids w pa pn ps) (hnil : pa = none → pn = 0 ∧ pc = 0) (hn : pn ≤ 1099511627776) :
    Calls Tryz.prog 79 #[coV t pa pn pc au d tx] w fun e w' => ∃ ad cp, e = .returned (coV t ad pn cp au d tx) ∧ w'.ownsRow w.heap.size 31 1 (.slice ad pn cp) pn (ps.map (Value.int .u64)) ∧ Below w.heap.size w w' := by
  have h1 := no_blob_com (cmt t pa pn pc au d tx)
  have h2 := no_tree_com (cmt t pa pn pc au d tx)
  have h3 := as_commit (cmt t pa pn pc au d tx)
  have hB0 : Below w.heap.size w (w.alloc (.cells #[.int .u64 t, .slice pa pn pc, .string au, .int .i64 d, .string tx] 78)) := (Below.refl _ w).alloc (Nat.le_refl _) _
  have b0 := Box5.new w (.int .u64 t) (.slice pa pn pc) (.string au) (.int .i64 d) (.string tx)
  have hcl : Calls Tryz.prog 62 #[.slice pa pn pc] (w.alloc (.cells #[.int .u64 t, .slice pa pn pc, .string au, .int .i64 d, .string tx] 78)) fun e w' => ∃ ad cp, e = .returned (.slice ad pn cp) ∧ Hid (w'.ownsRow (w.heap.size + 1) 31 1 (.slice ad pn cp) pn (ps.map (Value.int .u64)) ∧ Below (w.heap.size + 1) (w.alloc (.cells #[.int .u64 t, .slice pa pn pc, .string au, .int .i64 d, .string tx] 78)) w') ∧ Box5 w' w.heap.size (.int .u64 t) (.slice pa pn pc) (.string au) (.int .i64 d) (.string tx) := by
    refine (clone_ids pa pn pc ps _ (hb.below hB0) hnil (by omega)).mono fun e w' ⟨v, he, ho, hB⟩ => ?_
    have hbx := b0.kept hB
    rw [World.size_alloc] at ho hB
    obtain ⟨ad, cp, rfl, _⟩ := row_shape ho
    exact ⟨ad, cp, he, ⟨ho, hB⟩, hbx⟩
  go_enter Tryz.func79, Tryz.ntmps79
  go_wp2_with (go_at_call 62; refine hcl.mono ?_; clear hcl; rintro e w1 ⟨ad, cp, rfl, HO, hbx⟩; obtain ⟨c0, c1, c2, c3, c4⟩ := hbx.cell; obtain ⟨f0, f1, f2, f3, f4⟩ := hbx.frozen; obtain ⟨d0, d1, d2, d3, d4⟩ := (hbx.set1 (.slice ad pn cp)).cell)
  go_ret
  obtain ⟨ho, hB⟩ := HO.out
  refine ⟨ad, cp, rfl, ?_, (hB0.trans (hB.mono (by omega))).setCell (p := ⟨w.heap.size, 1, none⟩) (Nat.le_refl _) _⟩
  have hg : w1.grownBy (w1.setCell ⟨w.heap.size, 1, none⟩ (.slice ad pn cp)) (some w.heap.size) :=
    ⟨rfl, rfl, rfl, by simp, fun k hk hne => Below.heap_setCell _ _ _ _ (fun e => hne (by rw [e]))⟩
  refine row_lower (ho.kept (row := some w.heap.size) hg ?_) (by omega)
  exact .inr fun e => by have := (row_block ho w.heap.size e).1; omega
theorem Copy_com (t : Int) (pa : Option Addr) (pn pc : Nat) (ps : List Int) (au : ByteArray) (d : Int) (tx : ByteArray) (w : World) (hb : Ids w pa pn ps) (hnil : pa = none → pn = 0 ∧ pc = 0) (hn : pn ≤ 1099511627776) :
    Calls Tryz.prog 58 #[coV t pa pn pc au d tx] w fun e w' => ∃ ad cp, e = .returned (coV t ad pn cp au d tx) ∧ w'.ownsRow w.heap.size 31 1 (.slice ad pn cp) pn (ps.map (Value.int .u64)) ∧ Below w.heap.size w w' := by
  go_enter Tryz.func58, Tryz.ntmps58
  go_wp2_with (go_at_call 79; refine (fresh_com t pa pn pc ps au d tx _ hb hnil hn).mono ?_; rintro e w1 ⟨ad, cp, rfl, hO, hB⟩)
  go_ret
  exact ⟨ad, cp, rfl, hO, hB⟩
end Go.Proofs.YtncagdfbgpdhfaaGreat

/- What a Disk of the program is in memory: its fields, its map of files, the rows of its bytes; which blocks it owns; and that it stays what it is while others are written. -/
namespace Go.Proofs.YtncagdfbgpdhfaaGreat
open Go.RowKit Go.Maps

/-- what a disk holds: its files, how many they are, how many raw writes it has done, whether it is cut, and how many it does yet -/
structure DG where
  f : List UInt8 → Option (List UInt8)
  n : Nat
  wr : Nat
  cut : Bool
  left : Nat

/-- an element of the map read as the value that it is -/
def rv : Value → Option (DataW Value × List MemPlace)
  | .slice a n c => some (.held (.slice a n c), [])
  | _ => none
abbrev nils : DataW Value := .held (.slice none 0 0)

/-- nothing but what Fp holds of, and new blocks, has turned -/
structure Turn (Fp : Nat → Prop) (w w' : World) : Prop where
  os : w'.os = w.os
  tape : w'.tape = w.tape
  output : w'.output = w.output
  size : w.heap.size ≤ w'.heap.size
  block : ∀ k, k < w.heap.size → ¬ Fp k → w'.heap[k]? = w.heap[k]?

theorem Turn.refl (Fp : Nat → Prop) (w : World) : Turn Fp w w := ⟨rfl, rfl, rfl, Nat.le_refl _, fun _ _ _ => rfl⟩
theorem Turn.trans {Fp Gp : Nat → Prop} {a b c : World} (h : Turn Fp a b) (k : Turn Gp b c) (hs : ∀ i, i < a.heap.size → Gp i → Fp i) : Turn Fp a c :=
  ⟨k.os.trans h.os, k.tape.trans h.tape, k.output.trans h.output, Nat.le_trans h.size k.size, fun i hi hf =>
    (k.block i (Nat.lt_of_lt_of_le hi h.size) (fun hg => hf (hs i hi hg))).trans (h.block i hi hf)⟩
theorem Turn.of_grownBy {w w' : World} {row : Option Nat} {Fp : Nat → Prop} (h : w.grownBy w' row) (hr : ∀ k, row = some k → Fp k ∨ w.heap.size ≤ k) : Turn Fp w w' :=
  ⟨h.os, h.tape, h.output, h.size, fun k hk hf => h.block k hk (fun e => by
    rcases hr k e.symm with h1 | h1
    · exact hf h1
    · omega)⟩
theorem Turn.of_below {w w' : World} (Fp : Nat → Prop) (h : Below w.heap.size w w') : Turn Fp w w' := ⟨h.os, h.tape, h.output, h.size, fun k hk _ => h.block k hk⟩
theorem Turn.below {Fp : Nat → Prop} {w w' : World} {B : Nat} (h : Turn Fp w w') (hB : B ≤ w.heap.size) (hf : ∀ k, Fp k → B ≤ k) : Below B w w' :=
  ⟨h.os, h.tape, h.output, h.size, fun k hk => h.block k (by omega) (fun hk' => by have := hf k hk'; omega)⟩
theorem Turn.wide {Fp Gp : Nat → Prop} {w w' : World} (h : Turn Fp w w') (hs : ∀ k, Fp k → Gp k) : Turn Gp w w' := ⟨h.os, h.tape, h.output, h.size, fun k hk hg => h.block k hk (fun hf => hg (hs k hf))⟩
theorem Turn.cell {Fp : Nat → Prop} {w w' : World} (h : Turn Fp w w') {a : Addr} {v : Value} (hc : w.cell? a = some v) (hn : ¬ Fp a.block) : w'.cell? a = some v := by
  rw [World.cell?_of_block (h.block a.block (World.block_lt_of_cell? w a hc) hn)]; exact hc
theorem Turn.frozen {Fp : Nat → Prop} {w w' : World} (h : Turn Fp w w') {a : Addr} (hlt : a.block < w.heap.size) (hn : ¬ Fp a.block) : w'.frozen? a = w.frozen? a := World.frozen?_of_block (h.block a.block hlt hn)
theorem Turn.bytes {Fp : Nat → Prop} {w w' : World} (h : Turn Fp w w') {a : Option Addr} {n : Nat} {l : List UInt8} (hb : Bytes w a n l) (hn : 0 < n → ∀ x, a = some x → ¬ Fp x.block) : Bytes w' a n l := by
  refine ⟨hb.1, fun h0 => ?_⟩
  obtain ⟨b, off, rfl, hc⟩ := hb.2 h0
  exact ⟨b, off, rfl, fun i hi => h.cell (hc i hi) (hn h0 ⟨b, off, none⟩ rfl)⟩

/-- the blocks that a disk owns behind a call: those that it owned, and those that the call made -/
def grow (Fp : Nat → Prop) (w w' : World) : Nat → Prop := fun k => Fp k ∨ (w.heap.size ≤ k ∧ k < w'.heap.size)

/-- block p of w is a disk, its map in block b -/
structure DiskAt (w : World) (p b : Nat) (M : DataW Value) (S : DG) (Fp : Nat → Prop) : Prop where
  c0 : w.cell? ⟨p, 0, none⟩ = some (.map (some b))
  c1 : w.cell? ⟨p, 1, none⟩ = some (.int .i64 S.wr)
  c2 : w.cell? ⟨p, 2, none⟩ = some (.bool S.cut)
  c3 : w.cell? ⟨p, 3, none⟩ = some (.int .i64 S.left)
  f1 : w.frozen? ⟨p, 1, none⟩ = false
  f2 : w.frozen? ⟨p, 2, none⟩ = false
  f3 : w.frozen? ⟨p, 3, none⟩ = false
  hl : S.left ≤ 9223372036854775807
  pb : p ≠ b
  own : w.ownsMap Tryz.prog 9 rv b (size M) M
  sz : size M = S.n
  has : ∀ l, has M (.string l) = (S.f l).isSome
  row : ∀ l bs, S.f l = some bs → ∃ v, M.atKey (.string l) nils = .held v ∧ w.ownsRow 0 5 1 v bs.length (cellsOf bs) ∧ ∀ g, v.ownBlock = some g → Fp g ∧ g ≠ p ∧ g ≠ b
  apart : ∀ l l' v v' g, (S.f l).isSome = true → (S.f l').isSome = true → M.atKey (.string l) nils = .held v → M.atKey (.string l') nils = .held v' → v.ownBlock = some g → v'.ownBlock = some g → l = l'
  fp : Fp p
  fb : Fp b
  lt : ∀ k, Fp k → k < w.heap.size

/-- block p of w is a disk -/
def IsDisk (w : World) (p : Nat) (S : DG) (Fp : Nat → Prop) : Prop := ∃ b M, DiskAt w p b M S Fp

theorem rv_slice {v : Value} {y : DataW Value × List MemPlace} (h : rv v = some y) : ∃ t : Option Addr × Nat × Nat, v = .slice t.1 t.2.1 t.2.2 := by
  cases v <;> simp [rv] at h
  exact ⟨(_, _, _), rfl⟩
theorem rv_inv {v : Value} {d : DataW Value} {ps : List MemPlace} (h : rv v = some (d, ps)) : d = .held v := by
  obtain ⟨t, rfl⟩ := rv_slice h
  simp [rv] at h
  exact h.1.symm

theorem ownsRow_move {w w' : World} {B n : Nat} {v : Value} {xs : List Value} (h : w.ownsRow B 5 1 v n xs) (hb : ∀ g, v.ownBlock = some g → w'.heap[g]? = w.heap[g]?) : w'.ownsRow B 5 1 v n xs := by
  refine ⟨h.1, ?_⟩
  rcases h.2 with h0 | ⟨g, cap, cur, rfl, h1, h2, h3⟩
  · exact .inl h0
  · exact .inr ⟨g, cap, cur, rfl, h1, by rw [hb g rfl]; exact h2, h3⟩

theorem DiskAt.kept {w w' : World} {p b : Nat} {M : DataW Value} {S : DG} {Fp : Nat → Prop} (h : DiskAt w p b M S Fp) (hs : w.heap.size ≤ w'.heap.size) (hk : ∀ k, Fp k → w'.heap[k]? = w.heap[k]?) : DiskAt w' p b M S Fp where
  c0 := by rw [World.cell?_of_block (hk p h.fp)]; exact h.c0
  c1 := by rw [World.cell?_of_block (hk p h.fp)]; exact h.c1
  c2 := by rw [World.cell?_of_block (hk p h.fp)]; exact h.c2
  c3 := by rw [World.cell?_of_block (hk p h.fp)]; exact h.c3
  f1 := by rw [World.frozen?_of_block (hk p h.fp)]; exact h.f1
  f2 := by rw [World.frozen?_of_block (hk p h.fp)]; exact h.f2
  f3 := by rw [World.frozen?_of_block (hk p h.fp)]; exact h.f3
  hl := h.hl
  pb := h.pb
  own := by
    obtain ⟨es, clock, hb, r⟩ := h.own
    exact ⟨es, clock, (hk b h.fb).trans hb, r⟩
  sz := h.sz
  has := h.has
  row := fun l bs hf => by
    obtain ⟨v, h1, h2, h3⟩ := h.row l bs hf
    exact ⟨v, h1, ownsRow_move h2 (fun g hg => hk g (h3 g hg).1), h3⟩
  apart := h.apart
  fp := h.fp
  fb := h.fb
  lt := fun k hf => Nat.lt_of_lt_of_le (h.lt k hf) hs

theorem DiskAt.wide {w : World} {p b : Nat} {M : DataW Value} {S : DG} {Fp Gp : Nat → Prop} (h : DiskAt w p b M S Fp) (hs : ∀ k, Fp k → Gp k) (hlt : ∀ k, Gp k → k < w.heap.size) : DiskAt w p b M S Gp :=
  { h with
    row := fun l bs hf => by
      obtain ⟨v, h1, h2, h3⟩ := h.row l bs hf
      exact ⟨v, h1, h2, fun g hg => ⟨hs g (h3 g hg).1, (h3 g hg).2⟩⟩
    fp := hs _ h.fp, fb := hs _ h.fb, lt := hlt }

theorem DiskAt.turn {w w' : World} {p b : Nat} {M : DataW Value} {S : DG} {Fp Gp : Nat → Prop} (h : DiskAt w p b M S Fp) (ht : Turn Gp w w') (hd : ∀ k, Fp k → ¬ Gp k) : DiskAt w' p b M S Fp :=
  h.kept ht.size (fun k hk => ht.block k (h.lt k hk) (hd k hk))
theorem IsDisk.turn {w w' : World} {p : Nat} {S : DG} {Fp Gp : Nat → Prop} (h : IsDisk w p S Fp) (ht : Turn Gp w w') (hd : ∀ k, Fp k → ¬ Gp k) : IsDisk w' p S Fp := by
  obtain ⟨b, M, h⟩ := h
  exact ⟨b, M, h.turn ht hd⟩
theorem IsDisk.below {w w' : World} {p : Nat} {S : DG} {Fp : Nat → Prop} (h : IsDisk w p S Fp) (hB : Below w.heap.size w w') : IsDisk w' p S Fp := h.turn (Turn.of_below (fun _ => False) hB) (fun _ _ => id)
theorem IsDisk.wide {w : World} {p : Nat} {S : DG} {Fp Gp : Nat → Prop} (h : IsDisk w p S Fp) (hs : ∀ k, Fp k → Gp k) (hlt : ∀ k, Gp k → k < w.heap.size) : IsDisk w p S Gp := by
  obtain ⟨b, M, h⟩ := h
  exact ⟨b, M, h.wide hs hlt⟩
theorem IsDisk.lt {w : World} {p : Nat} {S : DG} {Fp : Nat → Prop} (h : IsDisk w p S Fp) (k : Nat) (hk : Fp k) : k < w.heap.size := by
  obtain ⟨b, M, h⟩ := h
  exact h.lt k hk

/-- a field of the disk is written -/
theorem DiskAt.field {w : World} {p b : Nat} {M : DataW Value} {S : DG} {Fp : Nat → Prop} (h : DiskAt w p b M S Fp) (o : Nat) (v : Value) (ho : o ≠ 0) (S' : DG) (hf : S'.f = S.f) (hn : S'.n = S.n) (hl : S'.left ≤ 9223372036854775807)
    (h1 : (w.setCell ⟨p, o, none⟩ v).cell? ⟨p, 1, none⟩ = some (.int .i64 S'.wr)) (h2 : (w.setCell ⟨p, o, none⟩ v).cell? ⟨p, 2, none⟩ = some (.bool S'.cut)) (h3 : (w.setCell ⟨p, o, none⟩ v).cell? ⟨p, 3, none⟩ = some (.int .i64 S'.left)) :
    DiskAt (w.setCell ⟨p, o, none⟩ v) p b M S' Fp where
  c0 := by rw [World.cell?_setCell_other _ _ _ _ (by first | (simp; done) | (simp; omega))]; exact h.c0
  c1 := h1
  c2 := h2
  c3 := h3
  f1 := by rw [World.frozen?_setCell]; exact h.f1
  f2 := by rw [World.frozen?_setCell]; exact h.f2
  f3 := by rw [World.frozen?_setCell]; exact h.f3
  hl := hl
  pb := h.pb
  own := by
    obtain ⟨es, clock, hb, r⟩ := h.own
    exact ⟨es, clock, (Below.heap_setCell _ _ _ _ (fun e => h.pb e.symm)).trans hb, r⟩
  sz := by rw [hn]; exact h.sz
  has := by rw [hf]; exact h.has
  row := fun l bs hfl => by
    rw [hf] at hfl
    obtain ⟨v', h1, h2, h3⟩ := h.row l bs hfl
    exact ⟨v', h1, ownsRow_move h2 (fun g hg => Below.heap_setCell _ _ _ _ (h3 g hg).2.1), h3⟩
  apart := by rw [hf]; exact h.apart
  fp := h.fp
  fb := h.fb
  lt := fun k hk => by have := h.lt k hk; simpa [World.setCell] using this

end Go.Proofs.YtncagdfbgpdhfaaGreat
