import Derived.Test.YtncagdfbgpdhfaaGreatP16
import Derived.Test.YtncagdfbgpdhfaaGreatP23
import Derived.Test.YtncagdfbgpdhfaaGreatP25
/- What a Store of the program is in memory: its journal, its map of objects, its row of ids; which blocks it owns; and that it stays what it is while others are written. -/
namespace Go.Proofs.YtncagdfbgpdhfaaGreat
open Go.RowKit Go.Maps

/-- an object's id -/
def oid (o : Ob) : Int := idOf (obB o)
def oids (os : List Ob) : List Int := os.map oid
def findO (os : List Ob) (i : Int) : Option Ob := os.find? fun o => oid o == i
theorem findO_snoc (os : List Ob) (o : Ob) (i : Int) (h : findO os (oid o) = none) : findO (os ++ [o]) i = if i = oid o then some o else findO os i := by
  unfold findO at *
  rw [List.find?_append]
  by_cases e : i = oid o
  · subst e
    rw [h, if_pos rfl]
    simp
  · rw [if_neg e]
    have : (oid o == i) = false := by simp; exact fun h => e h.symm
    simp [List.find?, this]
theorem findO_mem {os : List Ob} {i : Int} {o : Ob} (h : findO os i = some o) : o ∈ os ∧ oid o = i := by
  unfold findO at h
  exact ⟨List.mem_of_find?_eq_some h, by have := List.find?_some h; simpa using this⟩
theorem findO_none {os : List Ob} {i : Int} (h : findO os i = none) : i ∉ oids os := by
  unfold findO at h
  rw [List.find?_eq_none] at h
  unfold oids
  intro hm
  obtain ⟨o, ho, e⟩ := List.mem_map.1 hm
  have := h o ho
  simp [e] at this
theorem idOf_bounds (l : List UInt8) : 0 ≤ idOf l ∧ idOf l ≤ 18446744073709551615 := by
  unfold idOf
  have h1 := hashTo_lo l l.length
  have h2 := hashTo_hi l l.length
  split <;> omega
theorem id_wf {i : Int} (h0 : 0 ≤ i) (h1 : i ≤ 18446744073709551615) : (Lit.int .u64 i).wf = true := by
  simp [Lit.wf, IntKind.min, IntKind.max, IntKind.signed, IntKind.bits]
  omega

/-- an element of the map read as the value that it is -/
def rvO (v : Value) : Option (DataW Value × List MemPlace) := some (.held v, [])
abbrev nilO : DataW Value := .held .nilIface
theorem keyedI : Keyed Tryz.prog 31 := int_keyed Tryz.underlying31
theorem zeroObj (w : World) : (zeroValue 107).run Tryz.prog w = .ok .nilIface w := by kernel_rfl
theorem keyOfI (i : Int) (h0 : 0 ≤ i) (h1 : i ≤ 18446744073709551615) : keyOf Tryz.prog 31 (.int .u64 i) = some (.int .u64 i) := keyOf_int_mk Tryz.underlying31 (id_wf h0 h1)
theorem keyLitI (i : Int) : WideAt.IsKeyLit (.int .u64 i) := trivial
theorem key_neI {i i' : Int} (h : i' ≠ i) : (Lit.int .u64 i' : Lit) ≠ .int .u64 i := fun e => h (by cases e; rfl)
/-- "objects" -/
def objNm : ByteArray := ⟨#[111, 98, 106, 101, 99, 116, 115]⟩

/-- block s of w is a Store over the disk in block d: its journal's records, the objects in the order in which they came -/
structure StAt (w : World) (s d j b : Nat) (M : DataW Value) (v : Value) (rs : List (List UInt8)) (os : List Ob) (sz : Nat) (cut : Bool) (FJ O F : Nat → Prop) : Prop where
  c0 : w.cell? ⟨s, 0, none⟩ = some (.pointer (some ⟨j, 0, none⟩))
  c1 : w.cell? ⟨s, 1, none⟩ = some (.map (some b))
  c2 : w.cell? ⟨s, 2, none⟩ = some v
  f2 : w.frozen? ⟨s, 2, none⟩ = false
  jr : JAt w j d objNm rs sz cut FJ
  own : w.ownsMap Tryz.prog 31 rvO b (size M) M
  msz : size M = os.length
  has : ∀ i, has M (.int .u64 i) = (findO os i).isSome
  ob : ∀ i o, findO os i = some o → ∃ u, M.atKey (.int .u64 i) nilO = .held u ∧ Held O o u w
  row : w.ownsRow 0 31 1 v os.length ((oids os).map (Value.int .u64))
  sb : s ≠ b
  vo : ∀ g, v.ownBlock = some g → g ≠ s ∧ g ≠ b ∧ ¬ FJ g ∧ ¬ O g ∧ F g
  ns : ¬ FJ s ∧ ¬ FJ b ∧ ¬ O s ∧ ¬ O b
  oj : ∀ k, O k → ¬ FJ k
  fs : F s ∧ F b
  fj : ∀ k, FJ k → F k
  fo : ∀ k, O k → F k
  lt : ∀ k, F k → k < w.heap.size
  good : ∀ o ∈ os, obErr o = 0

theorem ownsMap_kept {w w' : World} {b n : Nat} {M : DataW Value} (h : w.ownsMap Tryz.prog 31 rvO b n M) (hk : w'.heap[b]? = w.heap[b]?) : w'.ownsMap Tryz.prog 31 rvO b n M := by
  obtain ⟨es, clock, hb, r⟩ := h
  exact ⟨es, clock, hk.trans hb, r⟩
theorem ownsMap_tightI {w : World} {b n : Nat} {M : DataW Value} (h : w.ownsMap Tryz.prog 31 rvO b n M) : w.ownsMap Tryz.prog 31 rvO b (size M) M := by
  obtain ⟨es, clock, h1, h2, h3, rfl⟩ := h
  exact ⟨es, clock, h1, h2, by simp [size, length_sorted], rfl⟩

theorem StAt.kept {w w' : World} {s d j b : Nat} {M : DataW Value} {v : Value} {rs : List (List UInt8)} {os : List Ob} {sz : Nat} {cut : Bool} {FJ O F : Nat → Prop} (h : StAt w s d j b M v rs os sz cut FJ O F) (hs : w.heap.size ≤ w'.heap.size) (hk : ∀ k, F k → w'.heap[k]? = w.heap[k]?) : StAt w' s d j b M v rs os sz cut FJ O F :=
  { h with
    c0 := by rw [World.cell?_of_block (hk s h.fs.1)]; exact h.c0
    c1 := by rw [World.cell?_of_block (hk s h.fs.1)]; exact h.c1
    c2 := by rw [World.cell?_of_block (hk s h.fs.1)]; exact h.c2
    f2 := by rw [World.frozen?_of_block (hk s h.fs.1)]; exact h.f2
    jr := h.jr.kept hs fun k hf => hk k (h.fj k hf)
    own := ownsMap_kept h.own (hk b h.fs.2)
    ob := fun i o hi => by
      obtain ⟨u, h1, h2⟩ := h.ob i o hi
      exact ⟨u, h1, h2.kept fun k ho => hk k (h.fo k ho)⟩
    row := row_moved h.row fun g hg => hk g (h.vo g hg).2.2.2.2
    lt := fun k hf => Nat.lt_of_lt_of_le (h.lt k hf) hs }
theorem StAt.turn {w w' : World} {s d j b : Nat} {M : DataW Value} {v : Value} {rs : List (List UInt8)} {os : List Ob} {sz : Nat} {cut : Bool} {FJ O F Gp : Nat → Prop} (h : StAt w s d j b M v rs os sz cut FJ O F) (ht : Turn Gp w w') (hd : ∀ k, F k → ¬ Gp k) : StAt w' s d j b M v rs os sz cut FJ O F :=
  h.kept ht.size (fun k hk => ht.block k (h.lt k hk) (hd k hk))
theorem StAt.below {w w' : World} {s d j b : Nat} {M : DataW Value} {v : Value} {rs : List (List UInt8)} {os : List Ob} {sz : Nat} {cut : Bool} {FJ O F : Nat → Prop} (h : StAt w s d j b M v rs os sz cut FJ O F) (hB : Below w.heap.size w w') : StAt w' s d j b M v rs os sz cut FJ O F :=
  h.turn (Turn.of_below (fun _ => False) hB) (fun _ _ => id)
/-- block s of w is a Store over the disk in block d, whose records are its objects -/
def IsSt (w : World) (s d : Nat) (os : List Ob) (sz : Nat) (cut : Bool) (F : Nat → Prop) : Prop := ∃ j b M v FJ O, StAt w s d j b M v (os.map obB) os sz cut FJ O F
theorem IsSt.turn {w w' : World} {s d : Nat} {os : List Ob} {sz : Nat} {cut : Bool} {F Gp : Nat → Prop} (h : IsSt w s d os sz cut F) (ht : Turn Gp w w') (hd : ∀ k, F k → ¬ Gp k) : IsSt w' s d os sz cut F := by
  obtain ⟨j, b, M, v, FJ, O, h⟩ := h
  exact ⟨j, b, M, v, FJ, O, h.turn ht hd⟩
theorem IsSt.below {w w' : World} {s d : Nat} {os : List Ob} {sz : Nat} {cut : Bool} {F : Nat → Prop} (h : IsSt w s d os sz cut F) (hB : Below w.heap.size w w') : IsSt w' s d os sz cut F :=
  h.turn (Turn.of_below (fun _ => False) hB) (fun _ _ => id)
theorem IsSt.lt {w : World} {s d : Nat} {os : List Ob} {sz : Nat} {cut : Bool} {F : Nat → Prop} (h : IsSt w s d os sz cut F) (k : Nat) (hk : F k) : k < w.heap.size := by
  obtain ⟨j, b, M, v, FJ, O, h⟩ := h
  exact h.lt k hk

/-- the map's answer -/
theorem StAt.look {w : World} {s d j b : Nat} {M : DataW Value} {v : Value} {rs : List (List UInt8)} {os : List Ob} {sz : Nat} {cut : Bool} {FJ O F : Nat → Prop} (h : StAt w s d j b M v rs os sz cut FJ O F) (i : Int) (h0 : 0 ≤ i) (h1 : i ≤ 18446744073709551615) (u : Value) (hu : M.atKey (.int .u64 i) nilO = .held u) (W : World) (hW : W.heap[b]? = w.heap[b]?) :
    (Instr.lookup 113 (.map (some b)) (.int .u64 i) true).run Tryz.prog W = .ok (.tuple #[u, .bool (findO os i).isSome]) W := by
  obtain ⟨u', ps, hrun, hu'⟩ := (ownsMap_kept h.own hW).look_ok keyedI Tryz.underlying113 (zeroObj W) (show rvO .nilIface = some (nilO, []) from rfl) (keyOfI i h0 h1)
  rw [hu] at hu'
  simp only [rvO, Option.some.injEq, Prod.mk.injEq] at hu'
  obtain ⟨e, _⟩ := hu'
  cases e
  rw [h.has] at hrun
  exact hrun
theorem StAt.there {w : World} {s d j b : Nat} {M : DataW Value} {v : Value} {rs : List (List UInt8)} {os : List Ob} {sz : Nat} {cut : Bool} {FJ O F : Nat → Prop} (h : StAt w s d j b M v rs os sz cut FJ O F) (i : Int) (h0 : 0 ≤ i) (h1 : i ≤ 18446744073709551615) (o : Ob) (hf : findO os i = some o) :
    ∃ u, Held O o u w ∧ ∀ W : World, W.heap[b]? = w.heap[b]? → (Instr.lookup 113 (.map (some b)) (.int .u64 i) true).run Tryz.prog W = .ok (.tuple #[u, .bool true]) W := by
  obtain ⟨u, hu, hh⟩ := h.ob i o hf
  refine ⟨u, hh, fun W hW => ?_⟩
  have := h.look i h0 h1 u hu W hW
  rw [hf] at this
  exact this
theorem StAt.not {w : World} {s d j b : Nat} {M : DataW Value} {v : Value} {rs : List (List UInt8)} {os : List Ob} {sz : Nat} {cut : Bool} {FJ O F : Nat → Prop} (h : StAt w s d j b M v rs os sz cut FJ O F) (i : Int) (h0 : 0 ≤ i) (h1 : i ≤ 18446744073709551615) (hf : findO os i = none) (W : World) (hW : W.heap[b]? = w.heap[b]?) :
    (Instr.lookup 113 (.map (some b)) (.int .u64 i) true).run Tryz.prog W = .ok (.tuple #[.nilIface, .bool false]) W := by
  have hn := h.has i
  rw [hf] at hn
  have := h.look i h0 h1 .nilIface (atKey_of_not_has (by simpa using hn) _) W hW
  rw [hf] at this
  exact this

/-- behind a call of the journal's: it, and its disk, have turned -/
theorem StAt.moved {w w' : World} {s d j b : Nat} {M : DataW Value} {v : Value} {rs rs' : List (List UInt8)} {os : List Ob} {sz sz' : Nat} {cut cut' : Bool} {FJ FJ' O F G : Nat → Prop} (h : StAt w s d j b M v rs os sz cut FJ O F) (ht : Turn (fun k => FJ k ∨ G k) w w') (hG : ∀ k, F k → ¬ G k)
    (hJ : JAt w' j d objNm rs' sz' cut' FJ') (hF : ∀ k, FJ' k → FJ k ∨ w.heap.size ≤ k) : StAt w' s d j b M v rs' os sz' cut' FJ' O (fun k => F k ∨ FJ' k) := by
  have hk : ∀ k, F k → ¬ FJ k → w'.heap[k]? = w.heap[k]? := fun k hf hn => ht.block k (h.lt k hf) (fun e => e.elim hn (hG k hf))
  have hn : ∀ k, F k → ¬ FJ k → ¬ FJ' k := fun k hf hn hj => (hF k hj).elim hn (fun e => by have := h.lt k hf; omega)
  have ks := hk s h.fs.1 h.ns.1
  have kb := hk b h.fs.2 h.ns.2.1
  exact
  { c0 := by rw [World.cell?_of_block ks]; exact h.c0
    c1 := by rw [World.cell?_of_block ks]; exact h.c1
    c2 := by rw [World.cell?_of_block ks]; exact h.c2
    f2 := by rw [World.frozen?_of_block ks]; exact h.f2
    jr := hJ
    own := ownsMap_kept h.own kb
    msz := h.msz
    has := h.has
    ob := fun i o hi => by
      obtain ⟨u, h1, h2⟩ := h.ob i o hi
      exact ⟨u, h1, h2.kept fun k ho => hk k (h.fo k ho) (h.oj k ho)⟩
    row := row_moved h.row fun g hg => hk g (h.vo g hg).2.2.2.2 (h.vo g hg).2.2.1
    sb := h.sb
    vo := fun g hg => by
      have := h.vo g hg
      exact ⟨this.1, this.2.1, hn g this.2.2.2.2 this.2.2.1, this.2.2.2.1, .inl this.2.2.2.2⟩
    ns := ⟨hn s h.fs.1 h.ns.1, hn b h.fs.2 h.ns.2.1, h.ns.2.2⟩
    oj := fun k hk => hn k (h.fo k hk) (h.oj k hk)
    fs := ⟨.inl h.fs.1, .inl h.fs.2⟩
    fj := fun k hk => .inr hk
    fo := fun k hk => .inl (h.fo k hk)
    lt := fun k hk => hk.elim (fun e => Nat.lt_of_lt_of_le (h.lt k e) ht.size) (hJ.lt k)
    good := h.good }

/-- an object more -/
theorem StAt.more {w w2 w3 : World} {s d j b : Nat} {M : DataW Value} {v v' : Value} {rs : List (List UInt8)} {os : List Ob} {sz : Nat} {cut : Bool} {FJ O O' F : Nat → Prop} (h : StAt w s d j b M v rs os sz cut FJ O F) (o : Ob) (u : Value) (hf : findO os (oid o) = none) (hgood : obErr o = 0)
    (hO : Held O' o u w) (hO' : ∀ k, O' k → k < w.heap.size ∧ ¬ F k)
    (h2 : w2.ownsMap Tryz.prog 31 rvO b (size M + 1) (M.put (.int .u64 (oid o)) (.held u))) (hg2 : w.grownBy w2 (some b))
    (hown : w3.ownsRow 0 31 1 v' (os.length + 1) ((oids os).map (Value.int .u64) ++ [.int .u64 (oid o)])) (hg3 : ∀ k, k < w2.heap.size → v.ownBlock ≠ some k → w3.heap[k]? = w2.heap[k]?) (hs3 : w2.heap.size ≤ w3.heap.size) (hv' : ∀ g, v'.ownBlock = some g → v.ownBlock = some g ∨ w2.heap.size ≤ g) :
    StAt (w3.setCell ⟨s, 2, none⟩ v') s d j b (M.put (.int .u64 (oid o)) (.held u)) v' rs (os ++ [o]) sz cut FJ (fun k => O k ∨ O' k) (fun k => (F k ∧ v.ownBlock ≠ some k) ∨ O' k ∨ v'.ownBlock = some k) := by
  have hm := h.own.isMap
  have htidy := h.own.tidy keyedI
  have hlt2 : ∀ k, k < w.heap.size → k ≠ b → w2.heap[k]? = w.heap[k]? := fun k hk hb => hg2.block k hk (by simpa using hb)
  have hlt3 : ∀ k, k < w.heap.size → v.ownBlock ≠ some k → w3.heap[k]? = w2.heap[k]? := fun k hk hn => hg3 k (Nat.lt_of_lt_of_le hk hg2.size) hn
  have hvs : v.ownBlock ≠ some s := fun e => (h.vo s e).1 rfl
  have hvb : v.ownBlock ≠ some b := fun e => (h.vo b e).2.1 rfl
  have hslt := h.lt s h.fs.1
  have hblt := h.lt b h.fs.2
  have ks : w3.heap[s]? = w.heap[s]? := (hlt3 s hslt hvs).trans (hlt2 s hslt h.sb)
  have kk : ∀ k, k < w.heap.size → k ≠ s → k ≠ b → v.ownBlock ≠ some k → (w3.setCell ⟨s, 2, none⟩ v').heap[k]? = w.heap[k]? := fun k hk n1 n2 n3 => by
    rw [Below.heap_setCell _ _ _ _ (by exact n1), hlt3 k hk n3, hlt2 k hk n2]
  have cs : ∀ i, w3.cell? ⟨s, i, none⟩ = w.cell? ⟨s, i, none⟩ := fun i => World.cell?_of_block ks
  have hgv : ∀ g, v'.ownBlock = some g → g ≠ s ∧ g ≠ b := fun g hg => (hv' g hg).elim (fun e => ⟨(h.vo g e).1, (h.vo g e).2.1⟩) (fun e => ⟨by have := hg2.size; omega, by have := hg2.size; omega⟩)
  have hvlt : ∀ g, v'.ownBlock = some g → g < w3.heap.size := fun g hg => (row_block hown g hg).2.1
  exact
  { c0 := by rw [World.cell?_setCell_other _ _ _ _ (by simp), cs]; exact h.c0
    c1 := by rw [World.cell?_setCell_other _ _ _ _ (by simp), cs]; exact h.c1
    c2 := World.cell?_setCell_same _ _ _ ((cs 2).trans h.c2)
    f2 := by rw [World.frozen?_setCell, World.frozen?_of_block ks]; exact h.f2
    jr := h.jr.kept (by rw [World.size_setCell]; exact Nat.le_trans hg2.size hs3) fun k hk => kk k (h.jr.lt k hk) (fun e => h.ns.1 (e ▸ hk)) (fun e => h.ns.2.1 (e ▸ hk)) (fun e => (h.vo k e).2.2.1 hk)
    own := by
      have : w3.ownsMap Tryz.prog 31 rvO b (size M + 1) (M.put (.int .u64 (oid o)) (.held u)) := ownsMap_kept h2 (hlt3 b hblt hvb)
      exact ownsMap_tightI (this.setCell (a := ⟨s, 2, none⟩) (fun e => h.sb e.symm) _)
    msz := by rw [size_put htidy, h.has, hf, h.msz]; simp
    has := fun i => by
      rw [findO_snoc os o i hf]
      by_cases e : i = oid o
      · subst e; rw [has_put_same hm (keyLitI _), if_pos rfl]; rfl
      · rw [has_put_other (key_neI e), h.has, if_neg e]
    ob := fun i p hi => by
      rw [findO_snoc os o i hf] at hi
      by_cases e : i = oid o
      · subst e
        rw [if_pos rfl] at hi
        cases hi
        refine ⟨u, atKey_put_same hm (keyLitI _) _ _, (hO.kept fun k hk => ?_).wide fun k hk => .inr hk⟩
        have := hO' k hk
        exact kk k this.1 (fun e => this.2 (e ▸ h.fs.1)) (fun e => this.2 (e ▸ h.fs.2)) (fun e => this.2 (h.vo k e).2.2.2.2)
      · rw [if_neg e] at hi
        obtain ⟨u', h1, h2'⟩ := h.ob i p hi
        refine ⟨u', by rw [atKey_put_other (key_neI e)]; exact h1, (h2'.kept fun k hk => ?_).wide fun k hk => .inl hk⟩
        exact kk k (h.lt k (h.fo k hk)) (fun e => h.ns.2.2.1 (e ▸ hk)) (fun e => h.ns.2.2.2 (e ▸ hk)) (fun e => (h.vo k e).2.2.2.1 hk)
    row := by
      have e1 : (os ++ [o]).length = os.length + 1 := by simp
      have e2 : (oids (os ++ [o])).map (Value.int .u64) = (oids os).map (Value.int .u64) ++ [.int .u64 (oid o)] := by simp [oids]
      rw [e1, e2]
      exact row_moved hown fun g hg => Below.heap_setCell _ _ _ _ (hgv g hg).1
    sb := h.sb
    vo := fun g hg => by
      refine ⟨(hgv g hg).1, (hgv g hg).2, ?_⟩
      rcases hv' g hg with e | e
      · have hh := h.vo g e
        exact ⟨hh.2.2.1, fun e' => e'.elim hh.2.2.2.1 (fun e' => (hO' g e').2 hh.2.2.2.2), .inr (.inr hg)⟩
      · have h2s := hg2.size
        exact ⟨fun hj => by have := h.jr.lt g hj; omega, fun e' => e'.elim (fun e' => by have := h.lt g (h.fo g e'); omega) (fun e' => by have := (hO' g e').1; omega), .inr (.inr hg)⟩
    ns := ⟨h.ns.1, h.ns.2.1, fun e => e.elim h.ns.2.2.1 (fun e => (hO' s e).2 h.fs.1), fun e => e.elim h.ns.2.2.2 (fun e => (hO' b e).2 h.fs.2)⟩
    oj := fun k hk => hk.elim (h.oj k) (fun e hj => (hO' k e).2 (h.fj k hj))
    fs := ⟨.inl ⟨h.fs.1, hvs⟩, .inl ⟨h.fs.2, hvb⟩⟩
    fj := fun k hk => .inl ⟨h.fj k hk, fun e => (h.vo k e).2.2.1 hk⟩
    fo := fun k hk => hk.elim (fun e => .inl ⟨h.fo k e, fun e' => (h.vo k e').2.2.2.1 e⟩) (fun e => .inr (.inl e))
    lt := fun k hk => by
      rw [World.size_setCell]
      have h1 := hg2.size
      rcases hk with ⟨hk, _⟩ | hk | hk
      · have := h.lt k hk; omega
      · have := (hO' k hk).1; omega
      · exact hvlt k hk
    good := fun p hp => by
      rcases List.mem_append.1 hp with hp | hp
      · exact h.good p hp
      · simp at hp; subst hp; exact hgood }
end Go.Proofs.YtncagdfbgpdhfaaGreat

/- The walks of the store's calls that read. -/
namespace Go.Proofs.YtncagdfbgpdhfaaGreat
open Go.RowKit Go.Maps

attribute [local go_sem] Oper.semAt_some

theorem find_not (w : World) (s d j b : Nat) (M : DataW Value) (v : Value) (rs : List (List UInt8)) (os : List Ob) (sz : Nat) (cut : Bool) (FJ O F : Nat → Prop) (h : StAt w s d j b M v rs os sz cut FJ O F) (i : Int) (h0 : 0 ≤ i) (h1 : i ≤ 18446744073709551615) (hf : findO os i = none) :
    Calls Tryz.prog 85 #[.pointer (some ⟨s, 0, none⟩), .int .u64 i] w fun e w' => e = .returned (.tuple #[.nilIface, .int .i64 4]) ∧ w' = w := by
  have c1 := h.c1
  have hl := h.not i h0 h1 hf w rfl
  clear h
  go_enter Tryz.func85, Tryz.ntmps85
  go_wp2
  go_ret2
  exact ⟨rfl, rfl⟩
theorem find_there (w : World) (s d j b : Nat) (M : DataW Value) (v : Value) (rs : List (List UInt8)) (os : List Ob) (sz : Nat) (cut : Bool) (FJ O F : Nat → Prop) (h : StAt w s d j b M v rs os sz cut FJ O F) (i : Int) (h0 : 0 ≤ i) (h1 : i ≤ 18446744073709551615) (o : Ob) (hf : findO os i = some o) :
    Calls Tryz.prog 85 #[.pointer (some ⟨s, 0, none⟩), .int .u64 i] w fun e w' => ∃ u, e = .returned (.tuple #[u, .int .i64 0]) ∧ Held O o u w ∧ w' = w := by
  have c1 := h.c1
  obtain ⟨u, hu, hl'⟩ := h.there i h0 h1 o hf
  have hl := hl' w rfl
  have HU : Hid (Held O o u w) := hu
  clear h hu hl'
  go_enter Tryz.func85, Tryz.ntmps85
  go_wp2
  go_ret2
  exact ⟨u, rfl, HU.out, rfl⟩

theorem get_not (w : World) (s d : Nat) (os : List Ob) (sz : Nat) (cut : Bool) (F : Nat → Prop) (h : IsSt w s d os sz cut F) (i : Int) (h0 : 0 ≤ i) (h1 : i ≤ 18446744073709551615) (hf : findO os i = none) :
    Calls Tryz.prog 63 #[.pointer (some ⟨s, 0, none⟩), .int .u64 i] w fun e w' => e = .returned (.tuple #[.nilIface, .int .i64 4]) ∧ w' = w := by
  obtain ⟨j, b, M, v, FJ, O, h⟩ := h
  have hx := find_not w s d j b M v _ os sz cut FJ O F h i h0 h1 hf
  clear h
  go_enter Tryz.func63, Tryz.ntmps63
  go_wp2_with (go_at_call 85; refine hx.mono ?_; rintro e w1 ⟨rfl, h1⟩; subst h1)
  go_ret2
  exact ⟨rfl, rfl⟩
theorem get_there (w : World) (s d : Nat) (os : List Ob) (sz : Nat) (cut : Bool) (F : Nat → Prop) (h : IsSt w s d os sz cut F) (i : Int) (h0 : 0 ≤ i) (h1 : i ≤ 18446744073709551615) (o : Ob) (hf : findO os i = some o) :
    Calls Tryz.prog 63 #[.pointer (some ⟨s, 0, none⟩), .int .u64 i] w fun e w' => ∃ u, e = .returned (.tuple #[u, .int .i64 0]) ∧ Held (Fresh w.heap.size w') o u w' ∧ Below w.heap.size w w' := by
  obtain ⟨j, b, M, v, FJ, O, h⟩ := h
  have hx := find_there w s d j b M v _ os sz cut FJ O F h i h0 h1 o hf
  have hg : Hid (obErr o = 0) := h.good o (findO_mem hf).1
  clear h
  go_enter Tryz.func63, Tryz.ntmps63
  go_wp2_with first
    | (go_at_call 85; refine hx.mono ?_; clear hx; rintro e w1 ⟨u, rfl, hu, h1⟩; subst h1; have HU : Hid (Held O o u w1) := hu; clear hu)
    | (go_at_call 58; refine (Copy_ob _ HU.out.get hg.out).mono ?_; rintro e w2 ⟨u2, rfl, hu2, hB2⟩; have H2 : Hid (Held (Fresh w1.heap.size w2) o u2 w2) := hu2; clear hu2)
  go_ret2
  exact ⟨u2, rfl, H2.out, hB2⟩

theorem has_at (w : World) (s d j b : Nat) (M : DataW Value) (v : Value) (rs : List (List UInt8)) (os : List Ob) (sz : Nat) (cut : Bool) (FJ O F : Nat → Prop) (h : StAt w s d j b M v rs os sz cut FJ O F) (i : Int) (h0 : 0 ≤ i) (h1 : i ≤ 18446744073709551615) :
    Calls Tryz.prog 73 #[.pointer (some ⟨s, 0, none⟩), .int .u64 i] w fun e w' => e = .returned (.bool (findO os i).isSome) ∧ w' = w := by
  have c1 := h.c1
  obtain ⟨u, hl⟩ : ∃ u, (Instr.lookup 113 (.map (some b)) (.int .u64 i) true).run Tryz.prog w = .ok (.tuple #[u, .bool (findO os i).isSome]) w := by
    cases hf : findO os i with
    | none => exact ⟨_, h.not i h0 h1 hf w rfl⟩
    | some o =>
      obtain ⟨u, _, hl'⟩ := h.there i h0 h1 o hf
      exact ⟨u, hl' w rfl⟩
  generalize (findO os i).isSome = B at *
  clear h
  go_enter Tryz.func73, Tryz.ntmps73
  go_wp2
  go_ret
  exact ⟨rfl, rfl⟩
theorem kindError_any (ok : Bool) (e0 : Int) (w : World) : Calls Tryz.prog 142 #[.bool ok, .int .i64 e0] w fun e w' => e = .returned (.int .i64 (if e0 = 0 ∧ ok = false then 170 else e0)) ∧ w' = w := by
  by_cases h0 : e0 = 0
  · subst h0
    cases ok
    · go_enter Tryz.func142, Tryz.ntmps142
      go_wp2
      go_ret
      exact ⟨rfl, rfl⟩
    · go_enter Tryz.func142, Tryz.ntmps142
      go_wp2
      go_ret
      exact ⟨rfl, rfl⟩
  · have e1 : (e0 == 0) = false := by simp [h0]
    rw [if_neg (fun h => h0 h.1)]
    go_enter Tryz.func142, Tryz.ntmps142
    go_wp2
    go_ret
    exact ⟨rfl, rfl⟩
end Go.Proofs.YtncagdfbgpdhfaaGreat

/- Plain: a disk that is not cut, with a file that is just a row of records: what Append and Open make of it. -/
namespace Go.Proofs.YtncagdfbgpdhfaaGreat
open Go.RowKit

/-- the disk's file of that name has just these records; no cut is said -/
structure JGd (S : DG) (nm : List UInt8) (rs : List (List UInt8)) : Prop where
  bs : S.f nm = if rs = [] then none else some (fileB rs)
  cut : S.cut = false
  n : S.n ≤ 1
  n0 : rs = [] → S.n = 0
  wr : S.wr ≤ (fileB rs).length
  all : ∀ r ∈ rs, r.length ≤ 262144

theorem JGd.get {S : DG} {nm : List UInt8} {rs : List (List UInt8)} (h : JGd S nm rs) : S.bs nm = fileB rs := by
  unfold DG.bs; rw [h.bs]
  split
  · rename_i e; subst e; rfl
  · rfl

theorem JGd.new (nm : List UInt8) : JGd ⟨fun _ => none, 0, 0, false, 0⟩ nm [] := ⟨rfl, rfl, by simp, by simp, by simp, by simp⟩

theorem JGd.opened {S : DG} {nm : List UInt8} {rs : List (List UInt8)} (h : JGd S nm rs) : S.opened nm = (S, 0) ∧ parseL (S.bs nm) = (rs, (fileB rs).length, false) := by
  have hp : parseL (S.bs nm) = (rs, (fileB rs).length, false) := by rw [h.get]; exact parseL_whole rs h.all
  refine ⟨?_, hp⟩
  unfold DG.opened
  rw [hp, if_neg (by simp), if_neg (by rw [h.get]; simp)]

theorem JGd.app {S : DG} {nm : List UInt8} {rs : List (List UInt8)} (h : JGd S nm rs) (hnm : nameB nm = true) (l : List UInt8) (hl : l.length ≤ 262144) (hfit : (recB l).length + (fileB rs).length ≤ 4194304) :
    ∃ S', S.app nm (recB l) = (S', 0) ∧ JGd S' nm (rs ++ [l]) := by
  have hne := recB_ne l
  have hpos := (recB_pos l).1
  have hp := pieces_free ((recB l).length + 1) S nm (recB l) h.cut (Nat.le_refl _)
  rw [if_neg hne] at hp
  refine ⟨{ S with wr := S.wr + ((recB l).length + 31) / 32 }.add nm (recB l), ?_, ?_⟩
  · unfold DG.app
    rw [if_neg (by rw [hnm]; decide), if_neg ?_, if_neg (by simp [hne]), hp]
    rw [h.get]
    have hn := h.n
    intro e
    rcases e with e | e
    · omega
    · omega
  · have hbs := h.get
    unfold DG.bs at hbs
    refine ⟨?_, h.cut, ?_, by simp, ?_, ?_⟩
    · show (if nm = nm then _ else _) = _
      rw [if_pos rfl, if_neg (by simp), fileB_snoc, ← hbs]
    · show (if (S.f nm).isSome then S.n else S.n + 1) ≤ 1
      by_cases e : rs = []
      · rw [h.n0 e]; split <;> omega
      · rw [h.bs, if_neg e]; simp; exact h.n
    · show S.wr + ((recB l).length + 31) / 32 ≤ _
      have := h.wr
      rw [fileB_snoc, List.length_append]
      omega
    · intro r hr
      rcases List.mem_append.1 hr with hr | hr
      · exact h.all r hr
      · simp at hr; subst hr; exact hl

end Go.Proofs.YtncagdfbgpdhfaaGreat
