import Derived.Test.YtojpbemfbjkjjaaGreatP11
import Derived.Test.YtojpbemfbjkjjaaGreatProg
import Derived.Test.YtojpbemfbjkjjaaGreatP01
import Derived.Test.YtojpbemfbjkjjaaGreatP02
import Derived.Maps.OwnSet
import Derived.Maps.AppendAt
import Derived.Test.YtojpbemfbjkjjaaGreatP15
import Derived.RangeFuncOwn
/- A commit's copy, its type, the law's comparison of two commits. -/
namespace Go.Proofs.YtojpbemfbjkjjaaGreat
open Go.RowKit

attribute [local go_sem] Oper.semAt_some

set_option maxHeartbeats 1000000 in
theorem clone_ids (a : Option Addr) (n c : Nat) (l : List Int) (w : World) (hb : Ids w a n l) (hnil : a = none → n = 0 ∧ c = 0) (hbig : n ≤ 1099511627776) :
    Calls Tryz.prog 79 #[.slice a n c] w fun e w' => ∃ v, e = .returned v ∧ w'.ownsRow w.heap.size 31 1 v n (l.map (Value.int .u64)) ∧ Below w.heap.size w w' := by
  have q22 : ∀ (w : World) (a : Option Addr) (n c n' c' : Nat), (binOp .eql 27 (.slice a n c) (.slice none n' c')).run Tryz.prog w = .ok (.bool a.isNone) w := fun w a n c n' c' => Lib.run_eql_slice_nil w _ _ a n c n' c' Tryz.underlying27
  cases a with
  | none =>
    obtain ⟨rfl, rfl⟩ := hnil rfl
    have hl : l = [] := List.eq_nil_of_length_eq_zero hb.1
    subst hl
    go_enter Tryz.func79, Tryz.ntmps79
    go_wp2
    go_ret
    exact ⟨_, rfl, World.ownsRow_nil _ _ _ _, Below.refl _ _⟩
  | some a =>
    have hB0 : Below w.heap.size w (w.alloc (.cells #[] 31)) := (Below.refl _ _).alloc (Nat.le_refl _) _
    have hb0 : Ids (w.alloc (.cells #[] 31)) (some a) n l := hb.below hB0
    have hr0 : (w.alloc (.cells #[] 31)).ownsRow w.heap.size 31 1 (.slice (some ⟨w.heap.size, 0, none⟩) 0 0) 0 (([] : List Int).map (Value.int .u64)) := World.ownsRow_made w #[] 0 (Nat.le_refl _) (by unfold maxLen; omega) rfl
    go_enter Tryz.func79, Tryz.ntmps79
    go_wp2_with (at_builtin; refine wpList_appI _ w.heap.size (by simp) rfl _ _ rfl (.slice (some ⟨w.heap.size, 0, none⟩) 0 0) 0 [] rfl hr0 (some a) n c l rfl hb0 hnil (by omega) ?_; intro v' w1 hown hgrow; obtain ⟨a', c', rfl, hnc, hnn⟩ := row_shape hown)
    go_ret
    simp only [Nat.zero_add, List.nil_append] at *
    refine ⟨_, rfl, hown, hB0.grown hgrow (by simp) (by intro k hk; cases hk; exact Nat.le_refl _)⟩
theorem Box5.set1 {W : World} {B : Nat} {a b c d e : Value} (h : Box5 W B a b c d e) (b' : Value) : Box5 (W.setCell ⟨B, 1, none⟩ b') B a b' c d e := by
  have h' : W.heap[B]? = _ := h
  have hl := h.lt
  unfold Box5
  simp [World.setCell, Array.getElem?_modify, h']
set_option maxRecDepth 20000 in
set_option maxHeartbeats 2000000 in
theorem fresh_com (t : Int) (pa : Option Addr) (pn pc : Nat) (ps : List Int) (au : ByteArray) (d : Int) (tx : ByteArray) (w : World) (hb : Ids w pa pn ps) (hnil : pa = none → pn = 0 ∧ pc = 0) (hn : pn ≤ 1099511627776) :
    Calls Tryz.prog 59 #[coV t pa pn pc au d tx] w fun e w' => ∃ ad cp, e = .returned (coV t ad pn cp au d tx) ∧ w'.ownsRow w.heap.size 31 1 (.slice ad pn cp) pn (ps.map (Value.int .u64)) ∧ Below w.heap.size w w' := by
  have h1 := no_blob_com (cmt t pa pn pc au d tx)
  have h2 := no_tree_com (cmt t pa pn pc au d tx)
  have h3 := as_commit (cmt t pa pn pc au d tx)
  have hB0 : Below w.heap.size w (w.alloc (.cells #[.int .u64 t, .slice pa pn pc, .string au, .int .i64 d, .string tx] 55)) := (Below.refl _ w).alloc (Nat.le_refl _) _
  have b0 := Box5.new w (.int .u64 t) (.slice pa pn pc) (.string au) (.int .i64 d) (.string tx)
  have hcl : Calls Tryz.prog 79 #[.slice pa pn pc] (w.alloc (.cells #[.int .u64 t, .slice pa pn pc, .string au, .int .i64 d, .string tx] 55)) fun e w' => ∃ ad cp, e = .returned (.slice ad pn cp) ∧ Hid (w'.ownsRow (w.heap.size + 1) 31 1 (.slice ad pn cp) pn (ps.map (Value.int .u64)) ∧ Below (w.heap.size + 1) (w.alloc (.cells #[.int .u64 t, .slice pa pn pc, .string au, .int .i64 d, .string tx] 55)) w') ∧ Box5 w' w.heap.size (.int .u64 t) (.slice pa pn pc) (.string au) (.int .i64 d) (.string tx) := by
    refine (clone_ids pa pn pc ps _ (hb.below hB0) hnil (by omega)).mono fun e w' ⟨v, he, ho, hB⟩ => ?_
    have hbx := b0.kept hB
    rw [World.size_alloc] at ho hB
    obtain ⟨ad, cp, rfl, _⟩ := row_shape ho
    exact ⟨ad, cp, he, ⟨ho, hB⟩, hbx⟩
  go_enter Tryz.func59, Tryz.ntmps59
  go_wp2_with (go_at_call 79; refine hcl.mono ?_; clear hcl; rintro e w1 ⟨ad, cp, rfl, HO, hbx⟩; obtain ⟨c0, c1, c2, c3, c4⟩ := hbx.cell; obtain ⟨f0, f1, f2, f3, f4⟩ := hbx.frozen; obtain ⟨d0, d1, d2, d3, d4⟩ := (hbx.set1 (.slice ad pn cp)).cell)
  go_ret
  obtain ⟨ho, hB⟩ := HO.out
  refine ⟨ad, cp, rfl, ?_, (hB0.trans (hB.mono (by omega))).setCell (p := ⟨w.heap.size, 1, none⟩) (Nat.le_refl _) _⟩
  have hg : w1.grownBy (w1.setCell ⟨w.heap.size, 1, none⟩ (.slice ad pn cp)) (some w.heap.size) :=
    ⟨rfl, rfl, rfl, by simp, fun k hk hne => Below.heap_setCell _ _ _ _ (fun e => hne (by rw [e]))⟩
  refine row_lower (ho.kept (row := some w.heap.size) hg ?_) (by omega)
  exact .inr fun e => by have := (row_block ho w.heap.size e).1; omega
theorem Copy_com (t : Int) (pa : Option Addr) (pn pc : Nat) (ps : List Int) (au : ByteArray) (d : Int) (tx : ByteArray) (w : World) (hb : Ids w pa pn ps) (hnil : pa = none → pn = 0 ∧ pc = 0) (hn : pn ≤ 1099511627776) :
    Calls Tryz.prog 44 #[coV t pa pn pc au d tx] w fun e w' => ∃ ad cp, e = .returned (coV t ad pn cp au d tx) ∧ w'.ownsRow w.heap.size 31 1 (.slice ad pn cp) pn (ps.map (Value.int .u64)) ∧ Below w.heap.size w w' := by
  go_enter Tryz.func44, Tryz.ntmps44
  go_wp2_with (go_at_call 59; refine (fresh_com t pa pn pc ps au d tx _ hb hnil hn).mono ?_; rintro e w1 ⟨ad, cp, rfl, hO, hB⟩)
  go_ret
  exact ⟨ad, cp, rfl, hO, hB⟩
end Go.Proofs.YtojpbemfbjkjjaaGreat

/- What a Disk of the program is in memory: its fields, its map of files, the rows of its bytes; which blocks it owns; and that it stays what it is while others are written. -/
namespace Go.Proofs.YtojpbemfbjkjjaaGreat
open Go.RowKit Go.Maps

/-- what a disk holds: its files, how many they are, how many raw writes it has done, whether it is cut, and how many it does yet -/
structure DG where
  f : List UInt8 → Option (List UInt8)
  n : Nat
  wr : Nat
  cut : Bool
  left : Nat

/-- an element of the map read as the value that it is -/
def rv : Value → Option (DataW Value × List MemPlace)
  | .slice a n c => some (.held (.slice a n c), [])
  | _ => none
abbrev nils : DataW Value := .held (.slice none 0 0)

/-- nothing but what Fp holds of, and new blocks, has turned -/
structure Turn (Fp : Nat → Prop) (w w' : World) : Prop where
  os : w'.os = w.os
  tape : w'.tape = w.tape
  output : w'.output = w.output
  size : w.heap.size ≤ w'.heap.size
  block : ∀ k, k < w.heap.size → ¬ Fp k → w'.heap[k]? = w.heap[k]?

theorem Turn.refl (Fp : Nat → Prop) (w : World) : Turn Fp w w := ⟨rfl, rfl, rfl, Nat.le_refl _, fun _ _ _ => rfl⟩
theorem Turn.trans {Fp Gp : Nat → Prop} {a b c : World} (h : Turn Fp a b) (k : Turn Gp b c) (hs : ∀ i, i < a.heap.size → Gp i → Fp i) : Turn Fp a c :=
  ⟨k.os.trans h.os, k.tape.trans h.tape, k.output.trans h.output, Nat.le_trans h.size k.size, fun i hi hf =>
    (k.block i (Nat.lt_of_lt_of_le hi h.size) (fun hg => hf (hs i hi hg))).trans (h.block i hi hf)⟩
theorem Turn.of_grownBy {w w' : World} {row : Option Nat} {Fp : Nat → Prop} (h : w.grownBy w' row) (hr : ∀ k, row = some k → Fp k ∨ w.heap.size ≤ k) : Turn Fp w w' :=
  ⟨h.os, h.tape, h.output, h.size, fun k hk hf => h.block k hk (fun e => by
    rcases hr k e.symm with h1 | h1
    · exact hf h1
    · omega)⟩
theorem Turn.of_below {w w' : World} (Fp : Nat → Prop) (h : Below w.heap.size w w') : Turn Fp w w' := ⟨h.os, h.tape, h.output, h.size, fun k hk _ => h.block k hk⟩
theorem Turn.below {Fp : Nat → Prop} {w w' : World} {B : Nat} (h : Turn Fp w w') (hB : B ≤ w.heap.size) (hf : ∀ k, Fp k → B ≤ k) : Below B w w' :=
  ⟨h.os, h.tape, h.output, h.size, fun k hk => h.block k (by omega) (fun hk' => by have := hf k hk'; omega)⟩
theorem Turn.wide {Fp Gp : Nat → Prop} {w w' : World} (h : Turn Fp w w') (hs : ∀ k, Fp k → Gp k) : Turn Gp w w' := ⟨h.os, h.tape, h.output, h.size, fun k hk hg => h.block k hk (fun hf => hg (hs k hf))⟩
theorem Turn.cell {Fp : Nat → Prop} {w w' : World} (h : Turn Fp w w') {a : Addr} {v : Value} (hc : w.cell? a = some v) (hn : ¬ Fp a.block) : w'.cell? a = some v := by
  rw [World.cell?_of_block (h.block a.block (World.block_lt_of_cell? w a hc) hn)]; exact hc
theorem Turn.frozen {Fp : Nat → Prop} {w w' : World} (h : Turn Fp w w') {a : Addr} (hlt : a.block < w.heap.size) (hn : ¬ Fp a.block) : w'.frozen? a = w.frozen? a := World.frozen?_of_block (h.block a.block hlt hn)
theorem Turn.bytes {Fp : Nat → Prop} {w w' : World} (h : Turn Fp w w') {a : Option Addr} {n : Nat} {l : List UInt8} (hb : Bytes w a n l) (hn : 0 < n → ∀ x, a = some x → ¬ Fp x.block) : Bytes w' a n l := by
  refine ⟨hb.1, fun h0 => ?_⟩
  obtain ⟨b, off, rfl, hc⟩ := hb.2 h0
  exact ⟨b, off, rfl, fun i hi => h.cell (hc i hi) (hn h0 ⟨b, off, none⟩ rfl)⟩

/-- the blocks that a disk owns behind a call: those that it owned, and those that the call made -/
def grow (Fp : Nat → Prop) (w w' : World) : Nat → Prop := fun k => Fp k ∨ (w.heap.size ≤ k ∧ k < w'.heap.size)

/-- block p of w is a disk, its map in block b -/
structure DiskAt (w : World) (p b : Nat) (M : DataW Value) (S : DG) (Fp : Nat → Prop) : Prop where
  c0 : w.cell? ⟨p, 0, none⟩ = some (.map (some b))
  c1 : w.cell? ⟨p, 1, none⟩ = some (.int .i64 S.wr)
  c2 : w.cell? ⟨p, 2, none⟩ = some (.bool S.cut)
  c3 : w.cell? ⟨p, 3, none⟩ = some (.int .i64 S.left)
  f1 : w.frozen? ⟨p, 1, none⟩ = false
  f2 : w.frozen? ⟨p, 2, none⟩ = false
  f3 : w.frozen? ⟨p, 3, none⟩ = false
  hl : S.left ≤ 9223372036854775807
  pb : p ≠ b
  own : w.ownsMap Tryz.prog 9 rv b (size M) M
  sz : size M = S.n
  has : ∀ l, has M (.string l) = (S.f l).isSome
  row : ∀ l bs, S.f l = some bs → ∃ v, M.atKey (.string l) nils = .held v ∧ w.ownsRow 0 5 1 v bs.length (cellsOf bs) ∧ ∀ g, v.ownBlock = some g → Fp g ∧ g ≠ p ∧ g ≠ b
  apart : ∀ l l' v v' g, (S.f l).isSome = true → (S.f l').isSome = true → M.atKey (.string l) nils = .held v → M.atKey (.string l') nils = .held v' → v.ownBlock = some g → v'.ownBlock = some g → l = l'
  fp : Fp p
  fb : Fp b
  lt : ∀ k, Fp k → k < w.heap.size

/-- block p of w is a disk -/
def IsDisk (w : World) (p : Nat) (S : DG) (Fp : Nat → Prop) : Prop := ∃ b M, DiskAt w p b M S Fp

theorem rv_slice {v : Value} {y : DataW Value × List MemPlace} (h : rv v = some y) : ∃ t : Option Addr × Nat × Nat, v = .slice t.1 t.2.1 t.2.2 := by
  cases v <;> simp [rv] at h
  exact ⟨(_, _, _), rfl⟩
theorem rv_inv {v : Value} {d : DataW Value} {ps : List MemPlace} (h : rv v = some (d, ps)) : d = .held v := by
  obtain ⟨t, rfl⟩ := rv_slice h
  simp [rv] at h
  exact h.1.symm

theorem ownsRow_move {w w' : World} {B n : Nat} {v : Value} {xs : List Value} (h : w.ownsRow B 5 1 v n xs) (hb : ∀ g, v.ownBlock = some g → w'.heap[g]? = w.heap[g]?) : w'.ownsRow B 5 1 v n xs := by
  refine ⟨h.1, ?_⟩
  rcases h.2 with h0 | ⟨g, cap, cur, rfl, h1, h2, h3⟩
  · exact .inl h0
  · exact .inr ⟨g, cap, cur, rfl, h1, by rw [hb g rfl]; exact h2, h3⟩

theorem DiskAt.kept {w w' : World} {p b : Nat} {M : DataW Value} {S : DG} {Fp : Nat → Prop} (h : DiskAt w p b M S Fp) (hs : w.heap.size ≤ w'.heap.size) (hk : ∀ k, Fp k → w'.heap[k]? = w.heap[k]?) : DiskAt w' p b M S Fp where
  c0 := by rw [World.cell?_of_block (hk p h.fp)]; exact h.c0
  c1 := by rw [World.cell?_of_block (hk p h.fp)]; exact h.c1
  c2 := by rw [World.cell?_of_block (hk p h.fp)]; exact h.c2
  c3 := by rw [World.cell?_of_block (hk p h.fp)]; exact h.c3
  f1 := by rw [World.frozen?_of_block (hk p h.fp)]; exact h.f1
  f2 := by rw [World.frozen?_of_block (hk p h.fp)]; exact h.f2
  f3 := by rw [World.frozen?_of_block (hk p h.fp)]; exact h.f3
  hl := h.hl
  pb := h.pb
  own := by
    obtain ⟨es, clock, hb, r⟩ := h.own
    exact ⟨es, clock, (hk b h.fb).trans hb, r⟩
  sz := h.sz
  has := h.has
  row := fun l bs hf => by
    obtain ⟨v, h1, h2, h3⟩ := h.row l bs hf
    exact ⟨v, h1, ownsRow_move h2 (fun g hg => hk g (h3 g hg).1), h3⟩
  apart := h.apart
  fp := h.fp
  fb := h.fb
  lt := fun k hf => Nat.lt_of_lt_of_le (h.lt k hf) hs

theorem DiskAt.wide {w : World} {p b : Nat} {M : DataW Value} {S : DG} {Fp Gp : Nat → Prop} (h : DiskAt w p b M S Fp) (hs : ∀ k, Fp k → Gp k) (hlt : ∀ k, Gp k → k < w.heap.size) : DiskAt w p b M S Gp :=
  { h with
    row := fun l bs hf => by
      obtain ⟨v, h1, h2, h3⟩ := h.row l bs hf
      exact ⟨v, h1, h2, fun g hg => ⟨hs g (h3 g hg).1, (h3 g hg).2⟩⟩
    fp := hs _ h.fp, fb := hs _ h.fb, lt := hlt }

theorem DiskAt.turn {w w' : World} {p b : Nat} {M : DataW Value} {S : DG} {Fp Gp : Nat → Prop} (h : DiskAt w p b M S Fp) (ht : Turn Gp w w') (hd : ∀ k, Fp k → ¬ Gp k) : DiskAt w' p b M S Fp :=
  h.kept ht.size (fun k hk => ht.block k (h.lt k hk) (hd k hk))
theorem IsDisk.turn {w w' : World} {p : Nat} {S : DG} {Fp Gp : Nat → Prop} (h : IsDisk w p S Fp) (ht : Turn Gp w w') (hd : ∀ k, Fp k → ¬ Gp k) : IsDisk w' p S Fp := by
  obtain ⟨b, M, h⟩ := h
  exact ⟨b, M, h.turn ht hd⟩
theorem IsDisk.below {w w' : World} {p : Nat} {S : DG} {Fp : Nat → Prop} (h : IsDisk w p S Fp) (hB : Below w.heap.size w w') : IsDisk w' p S Fp := h.turn (Turn.of_below (fun _ => False) hB) (fun _ _ => id)
theorem IsDisk.wide {w : World} {p : Nat} {S : DG} {Fp Gp : Nat → Prop} (h : IsDisk w p S Fp) (hs : ∀ k, Fp k → Gp k) (hlt : ∀ k, Gp k → k < w.heap.size) : IsDisk w p S Gp := by
  obtain ⟨b, M, h⟩ := h
  exact ⟨b, M, h.wide hs hlt⟩
theorem IsDisk.lt {w : World} {p : Nat} {S : DG} {Fp : Nat → Prop} (h : IsDisk w p S Fp) (k : Nat) (hk : Fp k) : k < w.heap.size := by
  obtain ⟨b, M, h⟩ := h
  exact h.lt k hk

/-- a field of the disk is written -/
theorem DiskAt.field {w : World} {p b : Nat} {M : DataW Value} {S : DG} {Fp : Nat → Prop} (h : DiskAt w p b M S Fp) (o : Nat) (v : Value) (ho : o ≠ 0) (S' : DG) (hf : S'.f = S.f) (hn : S'.n = S.n) (hl : S'.left ≤ 9223372036854775807)
    (h1 : (w.setCell ⟨p, o, none⟩ v).cell? ⟨p, 1, none⟩ = some (.int .i64 S'.wr)) (h2 : (w.setCell ⟨p, o, none⟩ v).cell? ⟨p, 2, none⟩ = some (.bool S'.cut)) (h3 : (w.setCell ⟨p, o, none⟩ v).cell? ⟨p, 3, none⟩ = some (.int .i64 S'.left)) :
    DiskAt (w.setCell ⟨p, o, none⟩ v) p b M S' Fp where
  c0 := by rw [World.cell?_setCell_other _ _ _ _ (by first | (simp; done) | (simp; omega))]; exact h.c0
  c1 := h1
  c2 := h2
  c3 := h3
  f1 := by rw [World.frozen?_setCell]; exact h.f1
  f2 := by rw [World.frozen?_setCell]; exact h.f2
  f3 := by rw [World.frozen?_setCell]; exact h.f3
  hl := hl
  pb := h.pb
  own := by
    obtain ⟨es, clock, hb, r⟩ := h.own
    exact ⟨es, clock, (Below.heap_setCell _ _ _ _ (fun e => h.pb e.symm)).trans hb, r⟩
  sz := by rw [hn]; exact h.sz
  has := by rw [hf]; exact h.has
  row := fun l bs hfl => by
    rw [hf] at hfl
    obtain ⟨v', h1, h2, h3⟩ := h.row l bs hfl
    exact ⟨v', h1, ownsRow_move h2 (fun g hg => Below.heap_setCell _ _ _ _ (h3 g hg).2.1), h3⟩
  apart := by rw [hf]; exact h.apart
  fp := h.fp
  fb := h.fb
  lt := fun k hk => by have := h.lt k hk; simpa [World.setCell] using this

end Go.Proofs.YtojpbemfbjkjjaaGreat

/- Objects in memory of a store's own: what Copy and Decode answer lies in new blocks. -/
namespace Go.Proofs.YtojpbemfbjkjjaaGreat
open Go.RowKit

attribute [local go_sem] Oper.semAt_some

theorem raw_fresh (w : World) (r g p m n : Nat) (l : List UInt8) (h : Rd w r g p 0 l) (hm : l.length = p + m) (hn : n ≤ m) (hlim : m ≤ 281474976710656) :
    Calls Tryz.prog 89 #[.pointer (some ⟨r, 0, none⟩), .int .i64 n] w fun e w' => ∃ b c, e = .returned (.slice (some ⟨b, 0, none⟩) n c) ∧ w.heap.size ≤ b ∧ Bytes w' (some ⟨b, 0, none⟩) n ((l.drop p).take n) ∧ Rd w' r g (p + n) 0 l ∧ w.grownBy w' (some r) := by
  have Hm : Hid (l.length = p + m) := hm
  clear hm
  go_enter Tryz.func89, Tryz.ntmps89
  go_wp2_with fail
  refine (take_yes _ r g p m n l h Hm.out hn).mono ?_
  rintro e w1 ⟨a, c, rfl, hb, hr, hg⟩
  go_wp2_with fail
  refine (withRoom_any a n c 0 _ _ hb (by omega)).mono ?_
  rintro e w2 ⟨rfl, hown, hg2⟩
  go_wp2
  go_ret
  refine ⟨_, _, rfl, hg.size, (ownsRow_bytes hown).1, hr.kept hg2 (by simp) (by simp), grownBy_trans hg (grownBy_wide hg2)⟩
/-- an object that lies in memory of its own -/
def ObF (B : Nat) : Ob → Value → World → Prop
  | .blob b, v, W => ∃ g cp, v = .iface 72 (.agg #[.slice (some ⟨g, 0, none⟩) b.length cp]) ∧ Bytes W (some ⟨g, 0, none⟩) b.length b ∧ B ≤ g
  | .tree l, v, W => ∃ ad cp, v = trV ad l.length cp ∧ W.ownsRow B 157 3 (.slice ad l.length cp) l.length (entCells l)
  | .com c, v, W => ∃ ad cp, v = coV c.1 ad c.2.1.length cp c.2.2.1 c.2.2.2.1 c.2.2.2.2 ∧ W.ownsRow B 31 1 (.slice ad c.2.1.length cp) c.2.1.length (c.2.1.map (Value.int .u64))
theorem ObF.grown {B r : Nat} {o : Ob} {v : Value} {W W' : World} (h : ObF B o v W) (hg : W.grownBy W' (some r)) (hr : r < B) : ObF B o v W' := by
  cases o with
  | blob b => obtain ⟨g, cp, h1, h2, h3⟩ := h; exact ⟨g, cp, h1, h2.kept hg (fun x hx => by cases hx; simp; omega), h3⟩
  | tree l => obtain ⟨ad, cp, h1, h2⟩ := h; exact ⟨ad, cp, h1, own_grown h2 hg hr⟩
  | com c => obtain ⟨ad, cp, h1, h2⟩ := h; exact ⟨ad, cp, h1, own_grown h2 hg hr⟩
theorem ObF.below {B : Nat} {o : Ob} {v : Value} {W W' : World} (h : ObF B o v W) (hB : Below W.heap.size W W') : ObF B o v W' := by
  cases o with
  | blob b => obtain ⟨g, cp, h1, h2, h3⟩ := h; exact ⟨g, cp, h1, bytes_below h2 hB, h3⟩
  | tree l => obtain ⟨ad, cp, h1, h2⟩ := h; exact ⟨ad, cp, h1, row_keep h2 hB⟩
  | com c => obtain ⟨ad, cp, h1, h2⟩ := h; exact ⟨ad, cp, h1, row_keep h2 hB⟩
theorem ObF.at_ {w w' : World} {o : Ob} {v : Value} (h : ObF w.heap.size o v w') (ok : ObOk o) (hs : (obB o).length ≤ 549755813888) : ObAt o v w' := by
  have hd : DecOut w (some o) (.returned v) w' := by
    cases o with
    | blob b => obtain ⟨g, cp, h1, h2, _⟩ := h; exact ⟨_, cp, by rw [h1], h2⟩
    | tree l => obtain ⟨ad, cp, h1, h2⟩ := h; exact ⟨ad, cp, by rw [h1], h2⟩
    | com c => obtain ⟨ad, cp, h1, h2⟩ := h; exact ⟨ad, cp, by rw [h1], h2⟩
  obtain ⟨v', hv, h'⟩ := dec_at hd ok hs
  cases hv
  exact h'
set_option maxRecDepth 20000 in
set_option maxHeartbeats 4000000 in
theorem decode_blobF (a : Option Addr) (n cap : Nat) (b : List UInt8) (w : World) (hb : Bytes w a n (98 :: b)) (hn : n ≤ 549755813888) :
    Calls Tryz.prog 69 #[.slice a n cap] w fun x w' => (∃ v, x = .returned v ∧ ObF w.heap.size (.blob b) v w') ∧ Below w.heap.size w w' := by
  have hrd := oread_any a n cap (98 :: b) w hb (by omega)
  have hll := hb.1
  have HB : Hid (byteR (98 :: b) 0 0 = (98, 1, 0)) := byte_of (l := 98 :: b) (p := 0) (c := 98) (r := b) rfl
  obtain ⟨m, hm⟩ : ∃ m, m = b.length := ⟨_, rfl⟩
  have Hm : Hid ((98 :: b).length = 1 + m) := (by rw [hm]; simp; omega : (98 :: b).length = 1 + m)
  have hm2 : m ≤ 549755813888 := by simp at hll; omega
  have HMB : Hid (m = b.length) := hm
  generalize hL : 98 :: b = L at *
  have HL : Hid (98 :: b = L) := hL
  clear hm hll hb hL
  go_enter Tryz.func69, Tryz.ntmps69
  go_wp2_with first
    | (go_at_call 61; refine hrd.mono ?_; clear hrd; rintro y w1 ⟨r, g, rfl, hr, hg, hR1, hG1⟩; have B1 : Hid (Below w.heap.size w w1) := ⟨hG1.os, hG1.tape, hG1.output, hG1.size, fun k hk => hG1.block k hk (by simp)⟩; have hby := byte_st w1 r g 0 0 L hR1; rw [HB.out] at hby; clear hR1 hG1)
    | (go_at_call 88; refine hby.mono ?_; clear hby; rintro y w2 ⟨rfl, hR2, hG2⟩; have R2 : Hid (Rd w2 r g 1 0 L ∧ Below w.heap.size w w2) := ⟨hR2, below_of_gr B1.out hG2 hr⟩; clear hR2 hG2 B1)
    | (go_at_call 62; refine (left_any _ r g 1 m 0 L R2.out.1 Hm.out).mono ?_; rintro y w3 ⟨rfl, kk, hw3⟩; have R3 : Hid (Rd w3 r g 1 0 L ∧ Below w.heap.size w w3) := ⟨by rw [hw3]; exact R2.out.1.drewN kk, by rw [hw3]; exact below_drewN R2.out.2 kk⟩; clear hw3 R2)
    | (go_at_call 89; refine (raw_fresh _ r g 1 m m L R3.out.1 Hm.out (Nat.le_refl _) (by omega)).mono ?_; rintro y w4 ⟨gb, cp, rfl, hfr, hy4, hR4, hG4⟩; have R4 : Hid (Rd w4 r g (1 + m) 0 L ∧ Below w.heap.size w w4 ∧ Bytes w4 (some ⟨gb, 0, none⟩) m ((L.drop 1).take m) ∧ w.heap.size ≤ gb) := ⟨hR4, below_of_gr R3.out.2 hG4 hr, hy4, Nat.le_trans R3.out.2.size hfr⟩; clear hR4 hG4 hy4 R3 hfr)
    | (go_at_call 92; refine (end_st _ r g _ _ L R4.out.1).mono ?_; rintro y w5 ⟨z, rfl, hz, hB5⟩; obtain rfl : z = 0 := hz.2 ⟨rfl, Hm.out.symm⟩; have R5 : Hid (Below w.heap.size w w5 ∧ Bytes w5 (some ⟨gb, 0, none⟩) m ((L.drop 1).take m) ∧ w.heap.size ≤ gb) := ⟨R4.out.2.1.trans (hB5.mono R4.out.2.1.size), bytes_below R4.out.2.2.1 hB5, R4.out.2.2.2⟩; clear hz hB5 R4)
  go_ret
  have h2 := R5.out.2.1
  rw [← HL.out] at h2
  have e : ((98 :: b).drop 1).take m = b := by rw [HMB.out]; simp
  rw [e, HMB.out] at h2
  exact ⟨⟨_, rfl, gb, cp, by rw [← HMB.out]; rfl, h2, R5.out.2.2⟩, R5.out.1⟩
theorem Decode_F (a : Option Addr) (n cap : Nat) (l : List UInt8) (w : World) (hb : Bytes w a n l) (hn : n ≤ 549755813888) (o : Ob) (hd : decG l = some o) :
    Calls Tryz.prog 52 #[.slice a n cap] w fun x w' => (∃ v, x = .returned (.tuple #[v, .int .i64 0]) ∧ ObF w.heap.size o v w') ∧ Below w.heap.size w w' := by
  have hll := hb.1
  obtain ⟨h1, h2, h3, h4⟩ := decG_some hd (by omega)
  have hde : Calls Tryz.prog 69 #[.slice a n cap] w fun x w' => (∃ v, x = .returned v ∧ ObF w.heap.size o v w') ∧ Below w.heap.size w w' := by
    have hx := decode_any a n cap l w hb hn
    rw [h1] at hx
    cases o with
    | blob b =>
      have e : l = 98 :: b := h3.symm
      subst e
      exact decode_blobF a n cap b w hb hn
    | tree R =>
      refine hx.mono fun x w' hx => ⟨?_, hx.2⟩
      obtain ⟨ad, cp, hv, ho⟩ := hx.1
      exact ⟨_, hv, ad, cp, rfl, ho⟩
    | com c =>
      refine hx.mono fun x w' hx => ⟨?_, hx.2⟩
      obtain ⟨ad, cp, hv, ho⟩ := hx.1
      exact ⟨_, hv, ad, cp, rfl, ho⟩
  have HK : Hid (∀ W v, ObF w.heap.size o v W → Calls Tryz.prog 54 #[v] W fun e w' => e = .returned (.int .i64 0) ∧ Below W.heap.size W w') := fun W v h => by
    have := check_ob W (h.at_ h4 (by rw [h3]; omega))
    rw [h2] at this
    exact this
  clear hb hd h1 h2 h3 h4 hll
  go_enter Tryz.func52, Tryz.ntmps52
  go_wp2_with first
    | (go_at_call 69; refine hde.mono ?_; clear hde; rintro y w1 ⟨⟨v, rfl, hO1⟩, hB1⟩)
    | (go_at_call 54; refine (HK.out _ _ hO1).mono ?_; rintro y w2 ⟨rfl, hB2⟩)
  go_ret2
  exact ⟨⟨v, rfl, hO1.below hB2⟩, hB1.trans (hB2.mono hB1.size)⟩

/-- the blocks of cells from n on -/
def Fresh (n : Nat) (W : World) : Nat → Prop := fun k => n ≤ k ∧ ∃ o : Obj, W.heap[k]? = some o ∧ o.isCells = true
theorem Fresh.lt {n : Nat} {W : World} {k : Nat} (h : Fresh n W k) : k < W.heap.size := by
  obtain ⟨_, o, ho, _⟩ := h
  exact (Array.getElem?_eq_some_iff.1 ho).1
theorem Fresh.below {n k : Nat} {W W' : World} (h : Fresh n W k) (hB : Below W.heap.size W W') : Fresh n W' k := by
  obtain ⟨h1, o, ho, hc⟩ := h
  exact ⟨h1, o, (hB.block k (Array.getElem?_eq_some_iff.1 ho).1).trans ho, hc⟩
/-- a slice that is nil has no entries -/
def NilOk : Ob → Value → Prop
  | .tree l, v => ∀ ad cp, v = trV ad l.length cp → ad = none → l.length = 0 ∧ cp = 0
  | _, _ => True
def ObS (o : Ob) (v : Value) (W : World) : Prop := ObAt o v W ∧ NilOk o v
theorem ObS.below {o : Ob} {v : Value} {W W' : World} (h : ObS o v W) (hB : Below W.heap.size W W') : ObS o v W' := ⟨h.1.below hB, h.2⟩
/-- an object that lies in these blocks alone -/
def Held (O : Nat → Prop) (o : Ob) (v : Value) (W : World) : Prop := ∀ W' : World, (∀ k, O k → W'.heap[k]? = W.heap[k]?) → ObS o v W'
theorem Held.get {O : Nat → Prop} {o : Ob} {v : Value} {W : World} (h : Held O o v W) : ObS o v W := h W fun _ _ => rfl
theorem Held.kept {O : Nat → Prop} {o : Ob} {v : Value} {W W' : World} (h : Held O o v W) (hk : ∀ k, O k → W'.heap[k]? = W.heap[k]?) : Held O o v W' := fun X hX => h X fun k hk' => (hX k hk').trans (hk k hk')
theorem Held.wide {O O' : Nat → Prop} {o : Ob} {v : Value} {W : World} (h : Held O o v W) (hs : ∀ k, O k → O' k) : Held O' o v W := fun X hX => h X fun k hk => hX k (hs k hk)
theorem row_moved {w w' : World} {e : TypeId} {B n z : Nat} {v : Value} {xs : List Value} (h : w.ownsRow B e z v n xs) (hb : ∀ g, v.ownBlock = some g → w'.heap[g]? = w.heap[g]?) : w'.ownsRow B e z v n xs := by
  refine ⟨h.1, ?_⟩
  rcases h.2 with h0 | ⟨g, cap, cur, rfl, h1, h2, h3⟩
  · exact .inl h0
  · exact .inr ⟨g, cap, cur, rfl, h1, by rw [hb g rfl]; exact h2, h3⟩
theorem row_fresh {W : World} {B r : Nat} {e : TypeId} (h : B ≤ r ∧ r < W.heap.size ∧ ∃ cur, W.heap[r]? = some (.cells cur e (0, 0))) : Fresh B W r := by
  obtain ⟨h1, _, cur, hc⟩ := h
  exact ⟨h1, _, hc, rfl⟩
theorem nil_com {v : Value} {c : ComD} : NilOk (.com c) v := trivial
theorem Copy_ob {o : Ob} {v : Value} (W : World) (h : ObS o v W) (h0 : obErr o = 0) : Calls Tryz.prog 44 #[v] W fun e w' => ∃ u, e = .returned u ∧ Held (Fresh W.heap.size w') o u w' ∧ Below W.heap.size W w' := by
  cases o with
  | blob b =>
    obtain ⟨⟨ad, cp, rfl, h2, h3, h4⟩, _⟩ := h
    have hb : b.length ≤ 4096 := by
      have h0' : blobErr b.length = 0 := h0
      unfold blobErr at h0'
      split at h0'
      · omega
      · omega
    refine (Copy_blob ad _ cp b W h2 h3 (by omega)).mono fun e w' hx => ?_
    obtain ⟨a', c', rfl, ho, hB⟩ := hx
    refine ⟨_, rfl, fun X hX => ?_, hB⟩
    have hr : X.ownsRow W.heap.size 5 1 (.slice a' b.length c') b.length (cellsOf b) := row_moved ho.row (fun g hg => hX g (row_fresh (row_block ho.row g hg)))
    have hn := (row_shape hr)
    obtain ⟨a2, c2, e2, hc2, hn2⟩ := hn
    cases e2
    exact ⟨⟨a', c', rfl, OwnB.bytes ⟨hr⟩ rfl, hn2, h4⟩, trivial⟩
  | tree l =>
    obtain ⟨⟨ad, cp, rfl, h2, h3, h4⟩, hnil⟩ := h
    have hl : l.length ≤ 256 := (fits_of h3 h0).1
    refine (Copy_tree ad _ cp l W h2 (hnil ad cp rfl) (by omega)).mono fun e w' hx => ?_
    obtain ⟨a', c', rfl, ho, hB⟩ := hx
    refine ⟨_, rfl, fun X hX => ?_, hB⟩
    have hr := row_moved ho (fun g hg => hX g (row_fresh (row_block3 ho g hg)))
    obtain ⟨a2, c2, e2, hc2, hn2⟩ := row_shape3 hr
    cases e2
    refine ⟨⟨a', c', rfl, own_ents hr rfl, h3, h4⟩, fun x y e => ?_⟩
    cases e
    exact hn2
  | com c =>
    obtain ⟨⟨ad, cp, rfl, h2⟩, hnil⟩ := h
    have hl : c.2.1.length ≤ 8 := by
      have h0' : comErr c.1 c.2.1 c.2.2.1 c.2.2.2.2 = 0 := h0
      unfold comErr at h0'
      split at h0'
      · omega
      · split at h0'
        · rename_i hp; omega
        · rename_i hp
          simp only [ne_eq, Decidable.not_not] at hp
          unfold parErr at hp
          split at hp
          · omega
          · omega
    refine (Copy_com c.1 ad _ cp c.2.1 _ _ _ W h2.par h2.len.2.2 (by omega)).mono fun e w' hx => ?_
    obtain ⟨a', c', rfl, ho, hB⟩ := hx
    refine ⟨_, rfl, fun X hX => ?_, hB⟩
    have hr := row_moved ho (fun g hg => hX g (row_fresh (row_block ho g hg)))
    obtain ⟨a2, c2, e2, hc2, hn2⟩ := row_shape hr
    cases e2
    obtain ⟨a2, c2, e2, hI⟩ := own_ids hr
    cases e2
    exact ⟨⟨a', c', rfl, ⟨h2.tree, hI, h2.pars, ⟨hc2, h2.len.2.1, hn2⟩, h2.author, h2.date, h2.text⟩⟩, trivial⟩
theorem ObF.held {w w' : World} {o : Ob} {v : Value} (h : ObF w.heap.size o v w') (ok : ObOk o) (hs : (obB o).length ≤ 549755813888) : Held (Fresh w.heap.size w') o v w' := by
  intro X hX
  have hF : ObF w.heap.size o v X := by
    cases o with
    | blob b =>
      obtain ⟨g, cp, h1, h2, h3⟩ := h
      refine ⟨g, cp, h1, ⟨h2.1, fun h0 => ?_⟩, h3⟩
      obtain ⟨b', off, e, hc⟩ := h2.2 h0
      cases e
      refine ⟨_, _, rfl, fun i hi => ?_⟩
      have := hc i hi
      rw [World.cell?_of_block (hX _ ⟨h3, cells_of_cell this⟩)]
      exact this
    | tree l => obtain ⟨ad, cp, h1, h2⟩ := h; exact ⟨ad, cp, h1, row_moved h2 (fun g hg => hX g (row_fresh (row_block3 h2 g hg)))⟩
    | com c => obtain ⟨ad, cp, h1, h2⟩ := h; exact ⟨ad, cp, h1, row_moved h2 (fun g hg => hX g (row_fresh (row_block h2 g hg)))⟩
  refine ⟨hF.at_ ok hs, ?_⟩
  cases o with
  | blob b => trivial
  | tree l =>
    obtain ⟨ad, cp, rfl, h2⟩ := hF
    obtain ⟨a2, c2, e2, hc2, hn2⟩ := row_shape3 h2
    cases e2
    intro x y e
    cases e
    exact hn2
  | com c => trivial
theorem Encode_bad {o : Ob} {v : Value} (W : World) (h : ObAt o v W) (h0 : obErr o ≠ 0) : Calls Tryz.prog 38 #[v] W fun e w' => e = .returned (.tuple #[.slice none 0 0, .int .i64 (obErr o)]) ∧ Below W.heap.size W w' := by
  have c1 := check_ob W h
  have h0' : (obErr o == 0) = false := beq_eq_false_iff_ne.2 h0
  generalize obErr o = E at *
  go_enter Tryz.func38, Tryz.ntmps38
  go_wp2_with (go_at_call 54; refine c1.mono ?_; clear c1; rintro e w1 ⟨rfl, hB1⟩)
  go_ret2
  exact ⟨rfl, hB1⟩
end Go.Proofs.YtojpbemfbjkjjaaGreat
