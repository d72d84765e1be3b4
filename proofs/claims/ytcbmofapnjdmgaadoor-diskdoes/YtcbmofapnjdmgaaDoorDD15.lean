import Derived.Test.YtcbmofapnjdmgaaDoorDD14
/- What the statements' own reference disk is in memory, and that it stays what it is while others are written. -/
namespace Go.Proofs.YtcbmofapnjdmgaaDoor
open Go.RowKit Go.Maps

/-- a file of the reference disk: its name, the value that leads to its bytes, its bytes -/
structure It where
  name : ByteArray
  v : Value
  bs : List UInt8

def It.cells (i : It) : List Value := [.string i.name, i.v]
def flat2 (is : List It) : List Value := (is.map It.cells).flatten
theorem flat2_length (is : List It) : (flat2 is).length = is.length * 2 := by
  induction is with
  | nil => rfl
  | cons o r ih => simp [flat2, It.cells] at ih ⊢; omega
theorem flat2_snoc (is : List It) (i : It) : flat2 (is ++ [i]) = flat2 is ++ i.cells := by simp [flat2]
theorem flat2_get : ∀ (is : List It) (k j : Nat) (i : It) (v : Value), is[k]? = some i → i.cells[j]? = some v → (flat2 is)[k * 2 + j]? = some v := by
  intro is
  induction is with
  | nil => intro k j o v h; simp at h
  | cons a r ih =>
    intro k j o v h hj
    have hj2 : j < 2 := by have := (List.getElem?_eq_some_iff.1 hj).1; simpa [It.cells] using this
    have e : flat2 (a :: r) = a.cells ++ flat2 r := by simp [flat2]
    have l2 : a.cells.length = 2 := rfl
    rw [e]
    cases k with
    | zero =>
      simp only [List.getElem?_cons_zero, Option.some.injEq] at h
      subst h
      rw [Nat.zero_mul, Nat.zero_add, List.getElem?_append_left (by omega)]
      exact hj
    | succ k =>
      rw [List.getElem?_append_right (by omega), l2, show (k + 1) * 2 + j - 2 = k * 2 + j by omega]
      exact ih k j o v (by simpa using h) hj

/-- block p of w is a reference disk with these files -/
structure RefAt (w : World) (p : Nat) (fs : Value) (is : List It) (wr : Nat) (left : Int) (Fp : Nat → Prop) : Prop where
  c0 : w.cell? ⟨p, 0, none⟩ = some fs
  c1 : w.cell? ⟨p, 1, none⟩ = some (.int .i64 wr)
  c2 : w.cell? ⟨p, 2, none⟩ = some (.int .i64 left)
  f0 : w.frozen? ⟨p, 0, none⟩ = false
  f1 : w.frozen? ⟨p, 1, none⟩ = false
  f2 : w.frozen? ⟨p, 2, none⟩ = false
  row : w.ownsRow 0 51 2 fs is.length (flat2 is)
  each : ∀ i ∈ is, w.ownsRow 0 5 1 i.v i.bs.length (cellsOf i.bs) ∧ ∀ g, i.v.ownBlock = some g → Fp g ∧ g ≠ p ∧ fs.ownBlock ≠ some g
  apart : is.Pairwise (fun a b => ∀ g, a.v.ownBlock = some g → b.v.ownBlock ≠ some g)
  ff : ∀ g, fs.ownBlock = some g → Fp g ∧ g ≠ p
  fp : Fp p
  lt : ∀ k, Fp k → k < w.heap.size

theorem ownsRow_move2 {w w' : World} {B n : Nat} {v : Value} {xs : List Value} {e : TypeId} {z : Nat} (h : w.ownsRow B e z v n xs) (hb : ∀ g, v.ownBlock = some g → w'.heap[g]? = w.heap[g]?) : w'.ownsRow B e z v n xs := by
  refine ⟨h.1, ?_⟩
  rcases h.2 with h0 | ⟨g, cap, cur, rfl, h1, h2, h3⟩
  · exact .inl h0
  · exact .inr ⟨g, cap, cur, rfl, h1, by rw [hb g rfl]; exact h2, h3⟩

theorem RefAt.kept {w w' : World} {p : Nat} {fs : Value} {is : List It} {wr : Nat} {left : Int} {Fp : Nat → Prop} (h : RefAt w p fs is wr left Fp) (hs : w.heap.size ≤ w'.heap.size) (hk : ∀ k, Fp k → w'.heap[k]? = w.heap[k]?) : RefAt w' p fs is wr left Fp where
  c0 := by rw [World.cell?_of_block (hk p h.fp)]; exact h.c0
  c1 := by rw [World.cell?_of_block (hk p h.fp)]; exact h.c1
  c2 := by rw [World.cell?_of_block (hk p h.fp)]; exact h.c2
  f0 := by rw [World.frozen?_of_block (hk p h.fp)]; exact h.f0
  f1 := by rw [World.frozen?_of_block (hk p h.fp)]; exact h.f1
  f2 := by rw [World.frozen?_of_block (hk p h.fp)]; exact h.f2
  row := ownsRow_move2 h.row (fun g hg => hk g (h.ff g hg).1)
  each := fun i hi => ⟨ownsRow_move2 (h.each i hi).1 (fun g hg => hk g ((h.each i hi).2 g hg).1), (h.each i hi).2⟩
  apart := h.apart
  ff := h.ff
  fp := h.fp
  lt := fun k hf => Nat.lt_of_lt_of_le (h.lt k hf) hs
theorem RefAt.turn {w w' : World} {p : Nat} {fs : Value} {is : List It} {wr : Nat} {left : Int} {Fp Gp : Nat → Prop} (h : RefAt w p fs is wr left Fp) (ht : Turn Gp w w') (hd : ∀ k, Fp k → ¬ Gp k) : RefAt w' p fs is wr left Fp :=
  h.kept ht.size (fun k hk => ht.block k (h.lt k hk) (hd k hk))
theorem RefAt.below {w w' : World} {p : Nat} {fs : Value} {is : List It} {wr : Nat} {left : Int} {Fp : Nat → Prop} (h : RefAt w p fs is wr left Fp) (hB : Below w.heap.size w w') : RefAt w' p fs is wr left Fp := h.turn (Turn.of_below (fun _ => False) hB) (fun _ _ => id)
theorem RefAt.wide {w : World} {p : Nat} {fs : Value} {is : List It} {wr : Nat} {left : Int} {Fp Gp : Nat → Prop} (h : RefAt w p fs is wr left Fp) (hs : ∀ k, Fp k → Gp k) (hlt : ∀ k, Gp k → k < w.heap.size) : RefAt w p fs is wr left Gp :=
  { h with
    each := fun i hi => ⟨(h.each i hi).1, fun g hg => ⟨hs g ((h.each i hi).2 g hg).1, ((h.each i hi).2 g hg).2⟩⟩
    ff := fun g hg => ⟨hs g (h.ff g hg).1, (h.ff g hg).2⟩
    fp := hs _ h.fp, lt := hlt }
/-- a field of the reference disk other than its files is written -/
theorem RefAt.field {w : World} {p : Nat} {fs : Value} {is : List It} {wr : Nat} {left : Int} {Fp : Nat → Prop} (h : RefAt w p fs is wr left Fp) (o : Nat) (v : Value) (ho : o ≠ 0) (wr' : Nat) (left' : Int)
    (h1 : (w.setCell ⟨p, o, none⟩ v).cell? ⟨p, 1, none⟩ = some (.int .i64 wr')) (h2 : (w.setCell ⟨p, o, none⟩ v).cell? ⟨p, 2, none⟩ = some (.int .i64 left')) : RefAt (w.setCell ⟨p, o, none⟩ v) p fs is wr' left' Fp where
  c0 := by rw [World.cell?_setCell_other _ _ _ _ (by first | (simp; done) | (simp; omega))]; exact h.c0
  c1 := h1
  c2 := h2
  f0 := by rw [World.frozen?_setCell]; exact h.f0
  f1 := by rw [World.frozen?_setCell]; exact h.f1
  f2 := by rw [World.frozen?_setCell]; exact h.f2
  row := ownsRow_move2 h.row (fun g hg => Below.heap_setCell _ _ _ _ (h.ff g hg).2)
  each := fun i hi => ⟨ownsRow_move2 (h.each i hi).1 (fun g hg => Below.heap_setCell _ _ _ _ ((h.each i hi).2 g hg).2.1), (h.each i hi).2⟩
  apart := h.apart
  ff := h.ff
  fp := h.fp
  lt := fun k hk => by have := h.lt k hk; simpa [World.setCell] using this

/-- the files of the reference disk are written anew -/
theorem RefAt.refile {w : World} {p : Nat} {fs fs' : Value} {is is' : List It} {wr : Nat} {left : Int} {Fp Gp : Nat → Prop} (h : RefAt w p fs is wr left Fp) (hFG : ∀ k, Fp k → Gp k) (hlt : ∀ k, Gp k → k < w.heap.size)
    (row : w.ownsRow 0 51 2 fs' is'.length (flat2 is')) (each : ∀ i ∈ is', w.ownsRow 0 5 1 i.v i.bs.length (cellsOf i.bs) ∧ ∀ g, i.v.ownBlock = some g → Gp g ∧ g ≠ p ∧ fs'.ownBlock ≠ some g)
    (apart : is'.Pairwise (fun a b => ∀ g, a.v.ownBlock = some g → b.v.ownBlock ≠ some g)) (ff : ∀ g, fs'.ownBlock = some g → Gp g ∧ g ≠ p) : RefAt (w.setCell ⟨p, 0, none⟩ fs') p fs' is' wr left Gp where
  c0 := World.cell?_setCell_same _ _ _ h.c0
  c1 := by rw [World.cell?_setCell_other _ _ _ _ (by simp)]; exact h.c1
  c2 := by rw [World.cell?_setCell_other _ _ _ _ (by simp)]; exact h.c2
  f0 := by rw [World.frozen?_setCell]; exact h.f0
  f1 := by rw [World.frozen?_setCell]; exact h.f1
  f2 := by rw [World.frozen?_setCell]; exact h.f2
  row := ownsRow_move2 row (fun g hg => Below.heap_setCell _ _ _ _ (ff g hg).2)
  each := fun i hi => ⟨ownsRow_move2 (each i hi).1 (fun g hg => Below.heap_setCell _ _ _ _ ((each i hi).2 g hg).2.1), (each i hi).2⟩
  apart := apart
  ff := ff
  fp := hFG _ h.fp
  lt := fun k hk => by have := hlt k hk; simpa [World.setCell] using this

/-- the place of a file; -1 where there is none -/
def ixTo (is : List It) (s : ByteArray) : Nat → Int
  | 0 => -1
  | k + 1 => if (is[is.length - (k + 1)]?.map (·.name)) = some s then ((is.length - (k + 1) : Nat) : Int) else ixTo is s k
def ix (is : List It) (s : ByteArray) : Int := ixTo is s is.length

theorem slice2 {w : World} {B n : Nat} {v : Value} {is : List It} (h : w.ownsRow B 51 2 v n (flat2 is)) (hn : is.length = n) : ∃ ad c, v = .slice ad n c ∧ n ≤ c ∧ c ≤ maxLen ∧ (ad = none → n = 0 ∧ c = 0) ∧ ∀ k i, is[k]? = some i → ∃ g, ad = some ⟨g, 0, none⟩ ∧ w.cell? ⟨g, k * 2, none⟩ = some (.string i.name) ∧ w.cell? ⟨g, k * 2 + 1, none⟩ = some i.v ∧ ∀ j, w.frozen? ⟨g, j, none⟩ = false := by
  rcases h.2 with ⟨rfl, rfl⟩ | ⟨g, cap, cur, rfl, _, hg, hc, hm, _⟩
  · refine ⟨none, 0, rfl, Nat.le_refl _, Nat.zero_le _, fun _ => ⟨rfl, rfl⟩, fun k i hi => ?_⟩
    have := (List.getElem?_eq_some_iff.1 hi).1
    omega
  · refine ⟨_, _, rfl, hc, hm, (fun h => by cases h), fun k i hi => ⟨g, rfl, ?_, ?_, fun j => ?_⟩⟩
    · have := h.cells (g := g) rfl (k * 2) (.string i.name) (by have := flat2_get is k 0 i (.string i.name) hi rfl; simpa using this)
      rw [Addr.add_lit, Nat.zero_add] at this
      exact this
    · have := h.cells (g := g) rfl (k * 2 + 1) i.v (flat2_get is k 1 i i.v hi rfl)
      rw [Addr.add_lit, Nat.zero_add] at this
      exact this
    · simp [World.frozen?, hg]

end Go.Proofs.YtcbmofapnjdmgaaDoor

/- An operation of the statements' own scripts, as it lies in memory. -/
namespace Go.Proofs.YtcbmofapnjdmgaaDoor
open Go.RowKit Go.Maps

/-- something that is done to a disk -/
structure GOp where
  kind : Int
  name : ByteArray
  to : ByteArray
  n : Int
  ad : Option Addr
  len : Nat
  cap : Nat

def GOp.cells (o : GOp) : Array Value := #[.int .i64 o.kind, .string o.name, .string o.to, .int .i64 o.n, .slice o.ad o.len o.cap]
/-- which of four it is -/
def GOp.four (o : GOp) : Int := (IntKind.u64.wrap o.kind).tmod 4
theorem GOp.four_or (o : GOp) : o.four = 0 ∨ o.four = 1 ∨ o.four = 2 ∨ o.four = 3 := by
  unfold GOp.four
  rw [IntKind.wrap_u64, Int.tmod_eq_emod_of_nonneg (by omega)]
  omega

end Go.Proofs.YtcbmofapnjdmgaaDoor
