import Derived.Test.YtiafhbpklddlnaaC17
import Derived.Test.YtiafhbpklddlnaaC25
import Derived.Test.YtiafhbpklddlnaaC23
/- What Refs of the program are in memory: their journal, their map of names to ids; which blocks they own; and that they stay what they are while others are written. -/
namespace Go.Proofs.Ytiafhbpklddlnaa
open Go.RowKit Go.Maps

/-- an element of the map read as the value that it is -/
def rvR (v : Value) : Option (DataW Value × List MemPlace) := some (.held v, [])
abbrev zeroR : DataW Value := .held (.int .u64 0)
theorem zeroIdV (w : World) : (zeroValue 23).run Try.prog w = .ok (.int .u64 0) w := by kernel_rfl
theorem keyNeS {l l' : List UInt8} (h : l' ≠ l) : (Lit.string l' : Lit) ≠ .string l := fun e => h (by cases e; rfl)
/-- "refs" -/
def refNm : ByteArray := ⟨#[114, 101, 102, 115]⟩

/-- a name set to an id: 0 takes it away -/
def setR (g : List UInt8 → Int) (l : List UInt8) (i : Int) : List UInt8 → Int := fun k => if k = l then i else g k

/-- block r of w is Refs over the disk in block d: its journal's records, where each name leads (0: nowhere), how many names lead somewhere -/
structure RfAt (w : World) (r d j b : Nat) (M : DataW Value) (rs : List (List UInt8)) (g : List UInt8 → Int) (n sz : Nat) (cut : Bool) (FJ F : Nat → Prop) : Prop where
  c0 : w.cell? ⟨r, 0, none⟩ = some (.pointer (some ⟨j, 0, none⟩))
  c1 : w.cell? ⟨r, 1, none⟩ = some (.map (some b))
  jr : JAt w j d refNm rs sz cut FJ
  own : w.ownsMap Try.prog 9 rvR b (size M) M
  msz : size M = n
  has : ∀ l, has M (.string l) = (g l != 0)
  atk : ∀ l, g l ≠ 0 → M.atKey (.string l) zeroR = .held (.int .u64 (g l))
  rng : ∀ l, 0 ≤ g l ∧ g l ≤ 18446744073709551615
  rb : r ≠ b
  ns : ¬ FJ r ∧ ¬ FJ b
  fs : F r ∧ F b
  fj : ∀ k, FJ k → F k
  lt : ∀ k, F k → k < w.heap.size

theorem ownsMap_keptR {w w' : World} {b n : Nat} {M : DataW Value} (h : w.ownsMap Try.prog 9 rvR b n M) (hk : w'.heap[b]? = w.heap[b]?) : w'.ownsMap Try.prog 9 rvR b n M := by
  obtain ⟨es, clock, hb, r⟩ := h
  exact ⟨es, clock, hk.trans hb, r⟩
theorem ownsMap_tightR {w : World} {b n : Nat} {M : DataW Value} (h : w.ownsMap Try.prog 9 rvR b n M) : w.ownsMap Try.prog 9 rvR b (size M) M := by
  obtain ⟨es, clock, h1, h2, h3, rfl⟩ := h
  exact ⟨es, clock, h1, h2, by simp [size, length_sorted], rfl⟩

theorem RfAt.kept {w w' : World} {r d j b : Nat} {M : DataW Value} {rs : List (List UInt8)} {g : List UInt8 → Int} {n sz : Nat} {cut : Bool} {FJ F : Nat → Prop} (h : RfAt w r d j b M rs g n sz cut FJ F) (hs : w.heap.size ≤ w'.heap.size) (hk : ∀ k, F k → w'.heap[k]? = w.heap[k]?) : RfAt w' r d j b M rs g n sz cut FJ F :=
  { h with
    c0 := by rw [World.cell?_of_block (hk r h.fs.1)]; exact h.c0
    c1 := by rw [World.cell?_of_block (hk r h.fs.1)]; exact h.c1
    jr := h.jr.kept hs fun k hf => hk k (h.fj k hf)
    own := ownsMap_keptR h.own (hk b h.fs.2)
    lt := fun k hf => Nat.lt_of_lt_of_le (h.lt k hf) hs }
theorem RfAt.turn {w w' : World} {r d j b : Nat} {M : DataW Value} {rs : List (List UInt8)} {g : List UInt8 → Int} {n sz : Nat} {cut : Bool} {FJ F Gp : Nat → Prop} (h : RfAt w r d j b M rs g n sz cut FJ F) (ht : Turn Gp w w') (hd : ∀ k, F k → ¬ Gp k) : RfAt w' r d j b M rs g n sz cut FJ F :=
  h.kept ht.size (fun k hk => ht.block k (h.lt k hk) (hd k hk))
theorem RfAt.below {w w' : World} {r d j b : Nat} {M : DataW Value} {rs : List (List UInt8)} {g : List UInt8 → Int} {n sz : Nat} {cut : Bool} {FJ F : Nat → Prop} (h : RfAt w r d j b M rs g n sz cut FJ F) (hB : Below w.heap.size w w') : RfAt w' r d j b M rs g n sz cut FJ F :=
  h.turn (Turn.of_below (fun _ => False) hB) (fun _ _ => id)
theorem RfAt.wide {w : World} {r d j b : Nat} {M : DataW Value} {rs : List (List UInt8)} {g : List UInt8 → Int} {n sz : Nat} {cut : Bool} {FJ F F' : Nat → Prop} (h : RfAt w r d j b M rs g n sz cut FJ F) (hs : ∀ k, F k → F' k) (hlt : ∀ k, F' k → k < w.heap.size) : RfAt w r d j b M rs g n sz cut FJ F' :=
  { h with
    fs := ⟨hs _ h.fs.1, hs _ h.fs.2⟩
    fj := fun k hk => hs k (h.fj k hk)
    lt := hlt }

theorem RfAt.atv {w : World} {r d j b : Nat} {M : DataW Value} {rs : List (List UInt8)} {g : List UInt8 → Int} {n sz : Nat} {cut : Bool} {FJ F : Nat → Prop} (h : RfAt w r d j b M rs g n sz cut FJ F) (l : List UInt8) : M.atKey (.string l) zeroR = .held (.int .u64 (g l)) := by
  by_cases e : g l = 0
  · rw [e]
    refine atKey_of_not_has ?_ _
    rw [h.has, e]; simp
  · exact h.atk l e
/-- the map's answers -/
theorem RfAt.look {w : World} {r d j b : Nat} {M : DataW Value} {rs : List (List UInt8)} {g : List UInt8 → Int} {n sz : Nat} {cut : Bool} {FJ F : Nat → Prop} (h : RfAt w r d j b M rs g n sz cut FJ F) (s : ByteArray) (hs : s.size ≤ maxLen) (W : World) (hW : W.heap[b]? = w.heap[b]?) :
    (Instr.lookup 51 (.map (some b)) (.string s) true).run Try.prog W = .ok (.tuple #[.int .u64 (g s.data.toList), .bool (g s.data.toList != 0)]) W := by
  obtain ⟨u', ps, hrun, hu'⟩ := (ownsMap_keptR h.own hW).look_ok keyed Try.underlying51 (zeroIdV W) (show rvR (.int .u64 0) = some (zeroR, []) from rfl) (keyOfS s hs)
  rw [h.atv] at hu'
  simp only [rvR, Option.some.injEq, Prod.mk.injEq] at hu'
  obtain ⟨e, _⟩ := hu'
  cases e
  rw [h.has] at hrun
  exact hrun
theorem RfAt.get {w : World} {r d j b : Nat} {M : DataW Value} {rs : List (List UInt8)} {g : List UInt8 → Int} {n sz : Nat} {cut : Bool} {FJ F : Nat → Prop} (h : RfAt w r d j b M rs g n sz cut FJ F) (s : ByteArray) (hs : s.size ≤ maxLen) (W : World) (hW : W.heap[b]? = w.heap[b]?) :
    (Instr.lookup 51 (.map (some b)) (.string s) false).run Try.prog W = .ok (.int .u64 (g s.data.toList)) W := by
  obtain ⟨u', ps, hrun, hu'⟩ := (ownsMap_keptR h.own hW).lookup keyed Try.underlying51 (zeroIdV W) (show rvR (.int .u64 0) = some (zeroR, []) from rfl) (keyOfS s hs)
  rw [h.atv] at hu'
  simp only [rvR, Option.some.injEq, Prod.mk.injEq] at hu'
  obtain ⟨e, _⟩ := hu'
  cases e
  exact hrun

/-- behind a call of the journal's: it, and its disk, have turned -/
theorem RfAt.moved {w w' : World} {r d j b : Nat} {M : DataW Value} {rs rs' : List (List UInt8)} {g : List UInt8 → Int} {n sz sz' : Nat} {cut cut' : Bool} {FJ FJ' F G : Nat → Prop} (h : RfAt w r d j b M rs g n sz cut FJ F) (ht : Turn (fun k => FJ k ∨ G k) w w') (hG : ∀ k, F k → ¬ G k)
    (hJ : JAt w' j d refNm rs' sz' cut' FJ') (hF : ∀ k, FJ' k → FJ k ∨ w.heap.size ≤ k) : RfAt w' r d j b M rs' g n sz' cut' FJ' (fun k => F k ∨ FJ' k) := by
  have hk : ∀ k, F k → ¬ FJ k → w'.heap[k]? = w.heap[k]? := fun k hf hn => ht.block k (h.lt k hf) (fun e => e.elim hn (hG k hf))
  have hn : ∀ k, F k → ¬ FJ k → ¬ FJ' k := fun k hf hn hj => (hF k hj).elim hn (fun e => by have := h.lt k hf; omega)
  have ks := hk r h.fs.1 h.ns.1
  have kb := hk b h.fs.2 h.ns.2
  exact
  { c0 := by rw [World.cell?_of_block ks]; exact h.c0
    c1 := by rw [World.cell?_of_block ks]; exact h.c1
    jr := hJ
    own := ownsMap_keptR h.own kb
    msz := h.msz
    has := h.has
    atk := h.atk
    rng := h.rng
    rb := h.rb
    ns := ⟨hn r h.fs.1 h.ns.1, hn b h.fs.2 h.ns.2⟩
    fs := ⟨.inl h.fs.1, .inl h.fs.2⟩
    fj := fun k hk => .inr hk
    lt := fun k hk => hk.elim (fun e => Nat.lt_of_lt_of_le (h.lt k e) ht.size) (hJ.lt k) }

/-- the map has turned, and nothing else -/
theorem RfAt.mapped {w w2 : World} {r d j b : Nat} {M M' : DataW Value} {rs : List (List UInt8)} {g g' : List UInt8 → Int} {n n' sz : Nat} {cut : Bool} {FJ F : Nat → Prop} (h : RfAt w r d j b M rs g n sz cut FJ F) (hg2 : w.grownBy w2 (some b)) (own2 : w2.ownsMap Try.prog 9 rvR b (size M') M') (hn : size M' = n')
    (hh : ∀ l, Go.Maps.has M' (.string l) = (g' l != 0)) (ha : ∀ l, g' l ≠ 0 → M'.atKey (.string l) zeroR = .held (.int .u64 (g' l))) (hr : ∀ l, 0 ≤ g' l ∧ g' l ≤ 18446744073709551615) : RfAt w2 r d j b M' rs g' n' sz cut FJ F := by
  have hk : ∀ k, F k → k ≠ b → w2.heap[k]? = w.heap[k]? := fun k hf hb => hg2.block k (h.lt k hf) (by simpa using hb)
  have ks := hk r h.fs.1 h.rb
  exact
  { c0 := by rw [World.cell?_of_block ks]; exact h.c0
    c1 := by rw [World.cell?_of_block ks]; exact h.c1
    jr := h.jr.kept hg2.size fun k hf => hk k (h.fj k hf) (fun e => h.ns.2 (e ▸ hf))
    own := own2
    msz := hn
    has := hh
    atk := ha
    rng := hr
    rb := h.rb
    ns := h.ns
    fs := h.fs
    fj := h.fj
    lt := fun k hk => Nat.lt_of_lt_of_le (h.lt k hk) hg2.size }
end Go.Proofs.Ytiafhbpklddlnaa
