import Derived.Test.YtfkepoibgmljkaaProg
import Derived.Test.YtfkepoibgmljkaaB01
import Derived.Test.YtfkepoibgmljkaaB05
import Derived.Maps.OwnSet
import Derived.Maps.AppendAt
import Derived.Outline
import Derived.Test.YtfkepoibgmljkaaB08
import Derived.Sort.BigQuietIn
import Derived.Test.YtfkepoibgmljkaaB22
import Derived.RangeFuncBox
import Derived.RangeFuncWrites
/- What a Disk of the program is in memory: its fields, its map of files, the rows of its bytes; which blocks it owns; and that it stays what it is while others are written. -/
namespace Go.Proofs.Ytfkepoibgmljkaa
open Go.RowKit Go.Maps

/-- what a disk holds: its files, how many they are, how many raw writes it has done, whether it is cut, and how many it does yet -/
structure DG where
  f : List UInt8 → Option (List UInt8)
  n : Nat
  wr : Nat
  cut : Bool
  left : Nat

/-- an element of the map read as the value that it is -/
def rv : Value → Option (DataW Value × List MemPlace)
  | .slice a n c => some (.held (.slice a n c), [])
  | _ => none
abbrev nils : DataW Value := .held (.slice none 0 0)

/-- nothing but what Fp holds of, and new blocks, has turned -/
structure Turn (Fp : Nat → Prop) (w w' : World) : Prop where
  os : w'.os = w.os
  tape : w'.tape = w.tape
  output : w'.output = w.output
  size : w.heap.size ≤ w'.heap.size
  block : ∀ k, k < w.heap.size → ¬ Fp k → w'.heap[k]? = w.heap[k]?

theorem Turn.refl (Fp : Nat → Prop) (w : World) : Turn Fp w w := ⟨rfl, rfl, rfl, Nat.le_refl _, fun _ _ _ => rfl⟩
theorem Turn.trans {Fp Gp : Nat → Prop} {a b c : World} (h : Turn Fp a b) (k : Turn Gp b c) (hs : ∀ i, i < a.heap.size → Gp i → Fp i) : Turn Fp a c :=
  ⟨k.os.trans h.os, k.tape.trans h.tape, k.output.trans h.output, Nat.le_trans h.size k.size, fun i hi hf =>
    (k.block i (Nat.lt_of_lt_of_le hi h.size) (fun hg => hf (hs i hi hg))).trans (h.block i hi hf)⟩
theorem Turn.of_grownBy {w w' : World} {row : Option Nat} {Fp : Nat → Prop} (h : w.grownBy w' row) (hr : ∀ k, row = some k → Fp k ∨ w.heap.size ≤ k) : Turn Fp w w' :=
  ⟨h.os, h.tape, h.output, h.size, fun k hk hf => h.block k hk (fun e => by
    rcases hr k e.symm with h1 | h1
    · exact hf h1
    · omega)⟩
theorem Turn.of_below {w w' : World} (Fp : Nat → Prop) (h : Below w.heap.size w w') : Turn Fp w w' := ⟨h.os, h.tape, h.output, h.size, fun k hk _ => h.block k hk⟩
theorem Turn.below {Fp : Nat → Prop} {w w' : World} {B : Nat} (h : Turn Fp w w') (hB : B ≤ w.heap.size) (hf : ∀ k, Fp k → B ≤ k) : Below B w w' :=
  ⟨h.os, h.tape, h.output, h.size, fun k hk => h.block k (by omega) (fun hk' => by have := hf k hk'; omega)⟩
theorem Turn.wide {Fp Gp : Nat → Prop} {w w' : World} (h : Turn Fp w w') (hs : ∀ k, Fp k → Gp k) : Turn Gp w w' := ⟨h.os, h.tape, h.output, h.size, fun k hk hg => h.block k hk (fun hf => hg (hs k hf))⟩
theorem Turn.cell {Fp : Nat → Prop} {w w' : World} (h : Turn Fp w w') {a : Addr} {v : Value} (hc : w.cell? a = some v) (hn : ¬ Fp a.block) : w'.cell? a = some v := by
  rw [World.cell?_of_block (h.block a.block (World.block_lt_of_cell? w a hc) hn)]; exact hc
theorem Turn.frozen {Fp : Nat → Prop} {w w' : World} (h : Turn Fp w w') {a : Addr} (hlt : a.block < w.heap.size) (hn : ¬ Fp a.block) : w'.frozen? a = w.frozen? a := World.frozen?_of_block (h.block a.block hlt hn)
theorem Turn.bytes {Fp : Nat → Prop} {w w' : World} (h : Turn Fp w w') {a : Option Addr} {n : Nat} {l : List UInt8} (hb : Bytes w a n l) (hn : 0 < n → ∀ x, a = some x → ¬ Fp x.block) : Bytes w' a n l := by
  refine ⟨hb.1, fun h0 => ?_⟩
  obtain ⟨b, off, rfl, hc⟩ := hb.2 h0
  exact ⟨b, off, rfl, fun i hi => h.cell (hc i hi) (hn h0 ⟨b, off, none⟩ rfl)⟩

/-- the blocks that a disk owns behind a call: those that it owned, and those that the call made -/
def grow (Fp : Nat → Prop) (w w' : World) : Nat → Prop := fun k => Fp k ∨ (w.heap.size ≤ k ∧ k < w'.heap.size)

/-- block p of w is a disk, its map in block b -/
structure DiskAt (w : World) (p b : Nat) (M : DataW Value) (S : DG) (Fp : Nat → Prop) : Prop where
  c0 : w.cell? ⟨p, 0, none⟩ = some (.map (some b))
  c1 : w.cell? ⟨p, 1, none⟩ = some (.int .i64 S.wr)
  c2 : w.cell? ⟨p, 2, none⟩ = some (.bool S.cut)
  c3 : w.cell? ⟨p, 3, none⟩ = some (.int .i64 S.left)
  f1 : w.frozen? ⟨p, 1, none⟩ = false
  f2 : w.frozen? ⟨p, 2, none⟩ = false
  f3 : w.frozen? ⟨p, 3, none⟩ = false
  hl : S.left ≤ 9223372036854775807
  pb : p ≠ b
  own : w.ownsMap Try.prog 9 rv b (size M) M
  sz : size M = S.n
  has : ∀ l, has M (.string l) = (S.f l).isSome
  row : ∀ l bs, S.f l = some bs → ∃ v, M.atKey (.string l) nils = .held v ∧ w.ownsRow 0 5 1 v bs.length (cellsOf bs) ∧ ∀ g, v.ownBlock = some g → Fp g ∧ g ≠ p ∧ g ≠ b
  apart : ∀ l l' v v' g, (S.f l).isSome = true → (S.f l').isSome = true → M.atKey (.string l) nils = .held v → M.atKey (.string l') nils = .held v' → v.ownBlock = some g → v'.ownBlock = some g → l = l'
  fp : Fp p
  fb : Fp b
  lt : ∀ k, Fp k → k < w.heap.size

/-- block p of w is a disk -/
def IsDisk (w : World) (p : Nat) (S : DG) (Fp : Nat → Prop) : Prop := ∃ b M, DiskAt w p b M S Fp

theorem rv_slice {v : Value} {y : DataW Value × List MemPlace} (h : rv v = some y) : ∃ t : Option Addr × Nat × Nat, v = .slice t.1 t.2.1 t.2.2 := by
  cases v <;> simp [rv] at h
  exact ⟨(_, _, _), rfl⟩
theorem rv_inv {v : Value} {d : DataW Value} {ps : List MemPlace} (h : rv v = some (d, ps)) : d = .held v := by
  obtain ⟨t, rfl⟩ := rv_slice h
  simp [rv] at h
  exact h.1.symm

theorem ownsRow_move {w w' : World} {B n : Nat} {v : Value} {xs : List Value} (h : w.ownsRow B 5 1 v n xs) (hb : ∀ g, v.ownBlock = some g → w'.heap[g]? = w.heap[g]?) : w'.ownsRow B 5 1 v n xs := by
  refine ⟨h.1, ?_⟩
  rcases h.2 with h0 | ⟨g, cap, cur, rfl, h1, h2, h3⟩
  · exact .inl h0
  · exact .inr ⟨g, cap, cur, rfl, h1, by rw [hb g rfl]; exact h2, h3⟩

theorem DiskAt.kept {w w' : World} {p b : Nat} {M : DataW Value} {S : DG} {Fp : Nat → Prop} (h : DiskAt w p b M S Fp) (hs : w.heap.size ≤ w'.heap.size) (hk : ∀ k, Fp k → w'.heap[k]? = w.heap[k]?) : DiskAt w' p b M S Fp where
  c0 := by rw [World.cell?_of_block (hk p h.fp)]; exact h.c0
  c1 := by rw [World.cell?_of_block (hk p h.fp)]; exact h.c1
  c2 := by rw [World.cell?_of_block (hk p h.fp)]; exact h.c2
  c3 := by rw [World.cell?_of_block (hk p h.fp)]; exact h.c3
  f1 := by rw [World.frozen?_of_block (hk p h.fp)]; exact h.f1
  f2 := by rw [World.frozen?_of_block (hk p h.fp)]; exact h.f2
  f3 := by rw [World.frozen?_of_block (hk p h.fp)]; exact h.f3
  hl := h.hl
  pb := h.pb
  own := by
    obtain ⟨es, clock, hb, r⟩ := h.own
    exact ⟨es, clock, (hk b h.fb).trans hb, r⟩
  sz := h.sz
  has := h.has
  row := fun l bs hf => by
    obtain ⟨v, h1, h2, h3⟩ := h.row l bs hf
    exact ⟨v, h1, ownsRow_move h2 (fun g hg => hk g (h3 g hg).1), h3⟩
  apart := h.apart
  fp := h.fp
  fb := h.fb
  lt := fun k hf => Nat.lt_of_lt_of_le (h.lt k hf) hs

theorem DiskAt.wide {w : World} {p b : Nat} {M : DataW Value} {S : DG} {Fp Gp : Nat → Prop} (h : DiskAt w p b M S Fp) (hs : ∀ k, Fp k → Gp k) (hlt : ∀ k, Gp k → k < w.heap.size) : DiskAt w p b M S Gp :=
  { h with
    row := fun l bs hf => by
      obtain ⟨v, h1, h2, h3⟩ := h.row l bs hf
      exact ⟨v, h1, h2, fun g hg => ⟨hs g (h3 g hg).1, (h3 g hg).2⟩⟩
    fp := hs _ h.fp, fb := hs _ h.fb, lt := hlt }

theorem DiskAt.turn {w w' : World} {p b : Nat} {M : DataW Value} {S : DG} {Fp Gp : Nat → Prop} (h : DiskAt w p b M S Fp) (ht : Turn Gp w w') (hd : ∀ k, Fp k → ¬ Gp k) : DiskAt w' p b M S Fp :=
  h.kept ht.size (fun k hk => ht.block k (h.lt k hk) (hd k hk))
theorem IsDisk.turn {w w' : World} {p : Nat} {S : DG} {Fp Gp : Nat → Prop} (h : IsDisk w p S Fp) (ht : Turn Gp w w') (hd : ∀ k, Fp k → ¬ Gp k) : IsDisk w' p S Fp := by
  obtain ⟨b, M, h⟩ := h
  exact ⟨b, M, h.turn ht hd⟩
theorem IsDisk.below {w w' : World} {p : Nat} {S : DG} {Fp : Nat → Prop} (h : IsDisk w p S Fp) (hB : Below w.heap.size w w') : IsDisk w' p S Fp := h.turn (Turn.of_below (fun _ => False) hB) (fun _ _ => id)
theorem IsDisk.wide {w : World} {p : Nat} {S : DG} {Fp Gp : Nat → Prop} (h : IsDisk w p S Fp) (hs : ∀ k, Fp k → Gp k) (hlt : ∀ k, Gp k → k < w.heap.size) : IsDisk w p S Gp := by
  obtain ⟨b, M, h⟩ := h
  exact ⟨b, M, h.wide hs hlt⟩
theorem IsDisk.lt {w : World} {p : Nat} {S : DG} {Fp : Nat → Prop} (h : IsDisk w p S Fp) (k : Nat) (hk : Fp k) : k < w.heap.size := by
  obtain ⟨b, M, h⟩ := h
  exact h.lt k hk

/-- a field of the disk is written -/
theorem DiskAt.field {w : World} {p b : Nat} {M : DataW Value} {S : DG} {Fp : Nat → Prop} (h : DiskAt w p b M S Fp) (o : Nat) (v : Value) (ho : o ≠ 0) (S' : DG) (hf : S'.f = S.f) (hn : S'.n = S.n) (hl : S'.left ≤ 9223372036854775807)
    (h1 : (w.setCell ⟨p, o, none⟩ v).cell? ⟨p, 1, none⟩ = some (.int .i64 S'.wr)) (h2 : (w.setCell ⟨p, o, none⟩ v).cell? ⟨p, 2, none⟩ = some (.bool S'.cut)) (h3 : (w.setCell ⟨p, o, none⟩ v).cell? ⟨p, 3, none⟩ = some (.int .i64 S'.left)) :
    DiskAt (w.setCell ⟨p, o, none⟩ v) p b M S' Fp where
  c0 := by rw [World.cell?_setCell_other _ _ _ _ (by first | (simp; done) | (simp; omega))]; exact h.c0
  c1 := h1
  c2 := h2
  c3 := h3
  f1 := by rw [World.frozen?_setCell]; exact h.f1
  f2 := by rw [World.frozen?_setCell]; exact h.f2
  f3 := by rw [World.frozen?_setCell]; exact h.f3
  hl := hl
  pb := h.pb
  own := by
    obtain ⟨es, clock, hb, r⟩ := h.own
    exact ⟨es, clock, (Below.heap_setCell _ _ _ _ (fun e => h.pb e.symm)).trans hb, r⟩
  sz := by rw [hn]; exact h.sz
  has := by rw [hf]; exact h.has
  row := fun l bs hfl => by
    rw [hf] at hfl
    obtain ⟨v', h1, h2, h3⟩ := h.row l bs hfl
    exact ⟨v', h1, ownsRow_move h2 (fun g hg => Below.heap_setCell _ _ _ _ (h3 g hg).2.1), h3⟩
  apart := by rw [hf]; exact h.apart
  fp := h.fp
  fb := h.fb
  lt := fun k hk => by have := h.lt k hk; simpa [World.setCell] using this

end Go.Proofs.Ytfkepoibgmljkaa

/- The walk of the one method by which files change: a raw write is done whole and counted, or not at all. -/
namespace Go.Proofs.Ytfkepoibgmljkaa
open Go.RowKit Go.Maps

def DG.can (S : DG) : Bool := !S.cut || S.left != 0
def DG.done (S : DG) : DG := { S with wr := S.wr + 1, left := if S.cut then S.left - 1 else S.left }

theorem turn_setCell (w : World) (p o : Nat) (v : Value) : Turn (fun k => k = p) w (w.setCell ⟨p, o, none⟩ v) :=
  ⟨rfl, rfl, rfl, by simp [World.setCell], fun k _ hk => Below.heap_setCell _ _ _ _ hk⟩

end Go.Proofs.Ytfkepoibgmljkaa

/- A region that only reads, in a round of a range over a function: it goes as it goes outside of one. Of no program. -/
namespace Go.Proofs.Ytfkepoibgmljkaa
open Go.RowKit Go.Shelf

def noDefer (o : Oper) : Bool := match o.op with
  | .defer _ => false
  | _ => true
theorem noDefer_ne {o : Oper} (h : noDefer o = true) (c : Call) : o.op ≠ .defer c := fun e => by unfold noDefer at h; rw [e] at h; cases h

theorem oper_round {F : Fence} {n : Nat} {P : Program} {o : Oper} {a : Act} {w : World} {K : Act → World → Prop} {Q : Exit → Act → World → Prop} (r : Nat) (hro : F.round = none) (hd : noDefer o = true) (h : o.wpIn F n P a w K Q) : o.wpIn (F.inRound r) n P a w K Q := by
  refine ⟨h.1, ?_⟩
  have h2 := h.2
  rw [hro, Oper.semAt_none] at h2
  rw [Fence.inRound_round, Oper.semAt_some r _ _ (noDefer_ne hd)]
  generalize (execOp a.eval o).run P w = x at h2 ⊢
  cases x with
  | ok x w' => cases x <;> exact h2
  | halt x w' => cases x <;> exact h2

theorem any_round {F : Fence} {n : Nat} {P : Program} {md : Region.Mode} {ops : Array Oper} {Q : Exit → Act → World → Prop} (r : Nat) (hro : F.round = none) (hd : ∀ (i : Nat) o, ops[i]? = some o → noDefer o = true) :
    ∀ (fuel : Nat) (listed : Array Bool) (a : Act) (w : World), wpAnyIn F n P md ops Q fuel listed a w → wpAnyIn (F.inRound r) n P md ops Q fuel listed a w
  | 0, _, _, _, h => h
  | fuel + 1, listed, a, w, h => by
    refine ⟨h.1, fun i hi => ?_⟩
    have hk := h.2 i hi
    unfold wpOpIn at hk ⊢
    cases ho : ops[i]? with
    | none =>
      rw [ho] at hk
      exact any_round r hro hd fuel _ a w hk
    | some o =>
      rw [ho] at hk
      simp only at hk ⊢
      split at hk
      · rename_i hw
        rw [if_pos hw]
        exact Oper.wpIn_mono (fun a w => any_round r hro hd fuel _ a w) (oper_round r hro (hd i o ho) hk)
      · rename_i hw
        rw [if_neg hw]
        exact ⟨hk.1, any_round r hro hd fuel _ _ w hk.2⟩

theorem region_quiet_round {F : Fence} {n : Nat} {P : Program} {id : Nat} {Q : Exit → Act → World → Prop} {a : Act} {w : World} {l : List Oper} {r : Nat} (hro : F.round = none) (hm : P.follows .mixedOrders = true) (hB : Region.lexB .any l.toArray = true) (hd : l.all noDefer = true)
    (h : wpQuietIn F n P l.toArray (fun w' => ∃ n, w' = w.drewN n) (fun a' => ∀ w', (∃ n, w' = w.drewN n) → Q .normal a' w') l a) : (Code.region id l.toArray true).wpIn (F.inRound r) n P Q a w := by
  simp only [Region.lexB, Bool.and_eq_true] at hB
  refine wpIn_region_any hm (any_round r hro (fun i o ho => ?_) _ _ _ _ (wpAnyIn_of_quiet (Q := fun a' => ∀ w', (∃ n, w' = w.drewN n) → Q .normal a' w') (C := fun w' => ∃ n, w' = w.drewN n) hro (fun _ w' hw' h => h w' hw') _ _ _ _ ⟨1, rfl⟩ ?_))
  · rw [List.all_eq_true] at hd
    refine hd o ?_
    have : l[i]? = some o := by simpa using ho
    exact List.mem_of_getElem? this
  · have := wpAnyQIn_lex (F := F) (n := n) (P := P) (C := fun w' => ∃ n, w' = w.drewN n) (Q := fun a' => ∀ w', (∃ n, w' = w.drewN n) → Q .normal a' w') (md := .any) hB.1 l.toArray.toList 0 (Array.replicate l.toArray.size false) a (by simp) (by simpa using hB.2) (by simpa using h)
    simpa using this

end Go.Proofs.Ytfkepoibgmljkaa

/- The law's told: are these just the pairs that a run tells? -/
namespace Go.Proofs.Ytfkepoibgmljkaa
open Go.RowKit Go.Shelf Go.Maps

attribute [local go_sem] Oper.semAt_some

theorem vfin_m {n D : Nat} {f : Func} {W : World} {v : Value} {tmps : Array Value} {P : Ending → World → Prop} (hK : W.heap[D]? = some (.deferred (some []))) (hr : (results f tmps).run Try.prog (W.putObj D (.deferred none)) = .ok v (W.putObj D (.deferred none))) (hP : P (.returned v) (W.putObj D (.deferred none))) :
    bodyPostM Fence.wide n Try.prog f P Exit.ret { tmps := tmps, defers := [{ target := .collected D, args := #[] }] } W := ⟨by simp, .inl ⟨_, _, rfl, run_takeDeferred hK, ⟨v, hr, hP⟩⟩⟩
theorem vturn_put {X : Nat → Prop} {w W : World} {D : Nat} (o : Obj) (h : Turn X w W) (hD : w.heap.size ≤ D) : Turn X w (W.putObj D o) :=
  ⟨h.os, h.tape, h.output, by simpa using h.size, fun k hk hn => (World.putObj_heap_other (by omega)).trans (h.block k hk hn)⟩
theorem vkeeps_turn {X : Nat → Prop} {W W' : World} {B : Nat} (h : Turn X W W') (hX : ∀ k, X k → k < B) : KeepsFrom B W W' :=
  ⟨h.size, fun k o hB hk _ => (h.block k (Array.getElem?_eq_some_iff.1 hk).1 (fun hx => by have := hX k hx; omega)).trans hk⟩
theorem vturn_own {X : Nat → Prop} {β : Type} {w3 : World} : OwnFrom w3.heap.size (fun (_ : β) W => Turn X w3 W) := fun _ _ _ _ hT hgr hr =>
  ⟨hgr.os.trans hT.os, hgr.tape.trans hT.tape, hgr.output.trans hT.output, Nat.le_trans hT.size hgr.size, fun k hk hn => (hgr.block k (Nat.lt_of_lt_of_le hk hT.size) (fun e => by have := (hr k e.symm).1; omega)).trans (hT.block k hk hn)⟩
theorem vbox_own {β : Type} {w3 : World} {g : Nat} {t : TypeId} (hg : g < w3.heap.size) (f : β → Value) : OwnFrom w3.heap.size (fun (s : β) W => Boxed W g t (f s)) := fun _ _ _ _ h hgr hr =>
  h.kept hgr (fun e => by have := (hr g e.symm).1; omega)
/-- what stands while pairs are held against a list -/
def ToldI (bn : Nat) (w3 : World) (L2 : List Pr) (pre : List Pr) (W : World) : Prop := Boxed W bn 3 (.int .i64 (pre.length : Int)) ∧ Turn (fun k => k = bn) w3 W ∧ pre = L2.take pre.length ∧ pre.length ≤ L2.length
theorem toldI_own (bn : Nat) (w3 : World) (L2 : List Pr) (h : bn < w3.heap.size) : OwnFrom w3.heap.size (ToldI bn w3 L2) := fun s X Y row hs hgr hr =>
  ⟨vbox_own h (fun s : List Pr => Value.int .i64 (s.length : Int)) s X Y row hs.1 hgr hr, vturn_own (β := List Pr) s X Y row hs.2.1 hgr hr, hs.2.2⟩

end Go.Proofs.Ytfkepoibgmljkaa
