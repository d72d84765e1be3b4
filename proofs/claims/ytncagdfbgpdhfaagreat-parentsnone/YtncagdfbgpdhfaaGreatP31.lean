import Derived.Test.YtncagdfbgpdhfaaGreatP30
/- What stands within a round of born: the commit as it was handed in, and the commit that is made of it. -/
namespace Go.Proofs.YtncagdfbgpdhfaaGreat
open Go.RowKit Go.Maps

structure BR (w : World) (hb s d : Nat) (e0 : Int) (st : BS) (S : DG) (F G X : Nat → Prop) (nv iv bv : Value) (ns : List Nd) (B8 B9 : Nat) (ba : Option Addr) (bn bc : Nat) (b : BornD) (wx : World) (tv : Int) (pv : Value) (ps : List Int) : Prop where
  I : BI w wx hb s d e0 st S F G X nv iv bv ns
  b8 : wx.heap[B8]? = some (.cells #[.slice ba bn bc, .int .i64 b.date, .bool b.blob, .bool b.lost, .bool b.bare] 105)
  b9 : wx.heap[B9]? = some (.cells #[.int .u64 tv, pv, .string ⟨#[]⟩, .int .i64 b.date, .string ⟨#[]⟩] 78)
  row : wx.ownsRow w.heap.size 31 1 pv ps.length (ps.map (Value.int .u64))
  n8 : ¬ BOwn hb nv iv bv X F G B8
  n9 : ¬ BOwn hb nv iv bv X F G B9
  n89 : B8 ≠ B9
  pn : ∀ g, pv.ownBlock = some g → ¬ BOwn hb nv iv bv X F G g ∧ g ≠ B8 ∧ g ≠ B9
  g8 : w.heap.size ≤ B8
  g9 : w.heap.size ≤ B9
theorem five_cells {W : World} {n : Nat} {a b c d e : Value} {t : TypeId} (h : W.heap[n]? = some (.cells #[a, b, c, d, e] t)) : W.cell? ⟨n, 0, none⟩ = some a ∧ W.cell? ⟨n, 1, none⟩ = some b ∧ W.cell? ⟨n, 2, none⟩ = some c ∧ W.cell? ⟨n, 3, none⟩ = some d ∧ W.cell? ⟨n, 4, none⟩ = some e := by
  simp [World.cell?, h]
theorem five_frozen {W : World} {n : Nat} {a b c d e : Value} {t : TypeId} (h : W.heap[n]? = some (.cells #[a, b, c, d, e] t)) (j : Nat) : W.frozen? ⟨n, j, none⟩ = false := by
  simp [World.frozen?, h]
theorem lt_of_block {W : World} {n : Nat} {o : Obj} (h : W.heap[n]? = some o) : n < W.heap.size := (Array.getElem?_eq_some_iff.1 h).1
theorem BR.new {w wr : World} {hb s d : Nat} {e0 : Int} {st : BS} {S : DG} {F G X : Nat → Prop} {nv iv bv : Value} {ns : List Nd} (I : BI w wr hb s d e0 st S F G X nv iv bv ns) (ba : Option Addr) (bn bc : Nat) (b : BornD) (tv : Int) :
    BR w hb s d e0 st S F G X nv iv bv ns wr.heap.size (wr.heap.size + 1) ba bn bc b ((wr.alloc (.cells #[.slice ba bn bc, .int .i64 b.date, .bool b.blob, .bool b.lost, .bool b.bare] 105)).alloc (.cells #[.int .u64 tv, .slice none 0 0, .string ⟨#[]⟩, .int .i64 b.date, .string ⟨#[]⟩] 78)) tv (.slice none 0 0) [] := by
  have hB := I.B.size
  exact
  { I := I.below (((Below.refl _ wr).alloc (Nat.le_refl _) _).alloc (by simp) _)
    b8 := by rw [Below.heap_alloc _ _ _ (by simp)]; exact World.alloc_heap_new _ _
    b9 := by
      have := World.alloc_heap_new (wr.alloc (.cells #[.slice ba bn bc, .int .i64 b.date, .bool b.blob, .bool b.lost, .bool b.bare] 105)) (.cells #[.int .u64 tv, .slice none 0 0, .string ⟨#[]⟩, .int .i64 b.date, .string ⟨#[]⟩] 78)
      rw [World.size_alloc] at this
      exact this
    row := World.ownsRow_nil _ _ _ _
    n8 := fun h => by have := (I.olt _ h).1; omega
    n9 := fun h => by have := (I.olt _ h).1; omega
    n89 := by omega
    pn := fun g hg => by cases hg
    g8 := hB
    g9 := by omega }
/-- a parent more -/
theorem BR.app {w : World} {hb s d : Nat} {e0 : Int} {st : BS} {S : DG} {F G X : Nat → Prop} {nv iv bv : Value} {ns : List Nd} {B8 B9 : Nat} {ba : Option Addr} {bn bc : Nat} {b : BornD} {wx : World} {tv : Int} {pv : Value} {ps : List Int} (R : BR w hb s d e0 st S F G X nv iv bv ns B8 B9 ba bn bc b wx tv pv ps) (x : Int) {w3 : World} (v' : Value)
    (hrow : w3.ownsRow w.heap.size 31 1 v' (ps.length + 1) (ps.map (Value.int .u64) ++ [.int .u64 x])) (hT : Turn (fun k => pv.ownBlock = some k) wx w3) (hv : ∀ g, v'.ownBlock = some g → pv.ownBlock = some g ∨ wx.heap.size ≤ g) :
    BR w hb s d e0 st S F G X nv iv bv ns B8 B9 ba bn bc b (w3.setCell ⟨B9, 1, none⟩ v') tv v' (ps ++ [x]) := by
  have h8 := lt_of_block R.b8
  have h9 := lt_of_block R.b9
  have k9 : w3.heap[B9]? = wx.heap[B9]? := hT.block B9 h9 (fun e => (R.pn B9 e).2.2 rfl)
  have hset : ∀ k, k ≠ B9 → (w3.setCell ⟨B9, 1, none⟩ v').heap[k]? = w3.heap[k]? := fun k hk => Below.heap_setCell _ _ _ _ (by exact hk)
  have hTw : Turn (fun k => pv.ownBlock = some k ∨ k = B9) wx (w3.setCell ⟨B9, 1, none⟩ v') := ⟨hT.os, hT.tape, hT.output, by rw [World.size_setCell]; exact hT.size, fun k hk hn => (hset k (fun e => hn (.inr e))).trans (hT.block k hk (fun e => hn (.inl e)))⟩
  have hBw : Below w.heap.size w (w3.setCell ⟨B9, 1, none⟩ v') := R.I.B.trans (hTw.below R.I.B.size (fun k hk => by
    rcases hk with h | h
    · exact (R.row.lt k h).1
    · rw [h]; exact R.g9))
  exact
  { I := R.I.turn hTw (fun k hk h => by
      rcases h with h | h
      · exact (R.pn k h).1 hk
      · rw [h] at hk; exact R.n9 hk) hBw
    b8 := by rw [hset B8 R.n89, hT.block B8 h8 (fun e => (R.pn B8 e).2.1 rfl)]; exact R.b8
    b9 := by
      have h1 := k9.trans R.b9
      exact heap_setCell_same w3 B9 1 #[.int .u64 tv, pv, .string ⟨#[]⟩, .int .i64 b.date, .string ⟨#[]⟩] 78 v' h1
    row := by
      have e : (ps ++ [x]).length = ps.length + 1 := by simp
      rw [e, List.map_append]
      refine row_moved hrow fun g hg => hset g (fun e => ?_)
      rcases hv g hg with h | h
      · exact (R.pn g h).2.2 e
      · omega
    n8 := R.n8
    n9 := R.n9
    n89 := R.n89
    pn := fun g hg => by
      rcases hv g hg with h | h
      · exact R.pn g h
      · exact ⟨fun h' => by have := (R.I.olt g h').1; omega, by omega, by omega⟩
    g8 := R.g8
    g9 := R.g9 }
/-- another tree -/
theorem BR.tree {w : World} {hb s d : Nat} {e0 : Int} {st : BS} {S : DG} {F G X : Nat → Prop} {nv iv bv : Value} {ns : List Nd} {B8 B9 : Nat} {ba : Option Addr} {bn bc : Nat} {b : BornD} {wx : World} {tv : Int} {pv : Value} {ps : List Int} (R : BR w hb s d e0 st S F G X nv iv bv ns B8 B9 ba bn bc b wx tv pv ps) (t : Int) :
    BR w hb s d e0 st S F G X nv iv bv ns B8 B9 ba bn bc b (wx.setCell ⟨B9, 0, none⟩ (.int .u64 t)) t pv ps := by
  have h8 := lt_of_block R.b8
  have hset : ∀ k, k ≠ B9 → (wx.setCell ⟨B9, 0, none⟩ (.int .u64 t)).heap[k]? = wx.heap[k]? := fun k hk => Below.heap_setCell _ _ _ _ (by exact hk)
  have hTw : Turn (fun k => k = B9) wx (wx.setCell ⟨B9, 0, none⟩ (.int .u64 t)) := ⟨rfl, rfl, rfl, by rw [World.size_setCell]; exact Nat.le_refl _, fun k _ hn => hset k hn⟩
  exact
  { R with
    I := R.I.turn hTw (fun k hk h => R.n9 (h ▸ hk)) (R.I.B.trans (hTw.below R.I.B.size (fun k hk => by rw [hk]; exact R.g9)))
    b8 := by rw [hset B8 R.n89]; exact R.b8
    b9 := heap_setCell_same wx B9 0 #[.int .u64 tv, pv, .string ⟨#[]⟩, .int .i64 b.date, .string ⟨#[]⟩] 78 (.int .u64 t) R.b9
    row := row_moved R.row fun g hg => hset g (R.pn g hg).2.2 }
theorem BR.below {w : World} {hb s d : Nat} {e0 : Int} {st : BS} {S : DG} {F G X : Nat → Prop} {nv iv bv : Value} {ns : List Nd} {B8 B9 : Nat} {ba : Option Addr} {bn bc : Nat} {b : BornD} {wx w' : World} {tv : Int} {pv : Value} {ps : List Int} (R : BR w hb s d e0 st S F G X nv iv bv ns B8 B9 ba bn bc b wx tv pv ps) (hB : Below wx.heap.size wx w') :
    BR w hb s d e0 st S F G X nv iv bv ns B8 B9 ba bn bc b w' tv pv ps :=
  { R with
    I := R.I.below hB
    b8 := (hB.block _ (lt_of_block R.b8)).trans R.b8
    b9 := (hB.block _ (lt_of_block R.b9)).trans R.b9
    row := row_moved R.row fun g hg => hB.block g (R.row.lt g hg).2 }
end Go.Proofs.YtncagdfbgpdhfaaGreat

/- The later half of a round of born: an object is put, a node, an id and a mark are appended. -/
namespace Go.Proofs.YtncagdfbgpdhfaaGreat
open Go.RowKit Go.Maps

theorem BR.put {w : World} {hb s d : Nat} {e0 : Int} {st : BS} {S S' : DG} {F G X F' G' : Nat → Prop} {nv iv bv : Value} {ns : List Nd} {B8 B9 : Nat} {ba : Option Addr} {bn bc : Nat} {b : BornD} {wx w' : World} {tv : Int} {pv : Value} {ps : List Int} (R : BR w hb s d e0 st S F G X nv iv bv ns B8 B9 ba bn bc b wx tv pv ps) (os' : List Ob) (hT : Turn (fun k => F k ∨ G k) wx w') (hS : StG w' s d os' S' F' G') (hF : ∀ k, F' k → F k ∨ wx.heap.size ≤ k) (hG : ∀ k, G' k → G k ∨ wx.heap.size ≤ k) (hp : Pure os') (hg : ∀ o ∈ os', obErr o = 0) :
    BR w hb s d e0 ⟨os', st.ids, st.nodes, st.bare⟩ S' F' G' X nv iv bv ns B8 B9 ba bn bc b w' tv pv ps := by
  have I := R.I
  have hFG : ∀ k, F' k ∨ G' k → (F k ∨ G k) ∨ wx.heap.size ≤ k := fun k h => h.elim (fun h => (hF k h).imp .inl id) (fun h => (hG k h).imp .inr id)
  have hown : ∀ k, k < wx.heap.size → BOwn hb nv iv bv X F' G' k → BOwn hb nv iv bv X F G k := fun k hk h => by
    rcases h with h | h | h | h | h | h | h
    · exact .inl h
    · exact .inr (.inl h)
    · exact .inr (.inr (.inl h))
    · exact .inr (.inr (.inr (.inl h)))
    · exact .inr (.inr (.inr (.inr (.inl h))))
    · exact .inr (.inr (.inr (.inr (.inr (.inl ((hF k h).resolve_right (by omega)))))))
    · exact .inr (.inr (.inr (.inr (.inr (.inr ((hG k h).resolve_right (by omega)))))))
  have hnot : ∀ k, k < wx.heap.size → ¬ (F k ∨ G k) → w'.heap[k]? = wx.heap[k]? := fun k hk h => hT.block k hk h
  have h8 := lt_of_block R.b8
  have h9 := lt_of_block R.b9
  have hsz := hT.size
  have kh : w'.heap[hb]? = wx.heap[hb]? := hnot hb (I.olt hb (.inl rfl)).1 (fun h => (I.fg hb h).2.1 rfl)
  have hB : Below w.heap.size w w' := I.B.trans (hT.below I.B.size (fun k hk => (I.fg k hk).1))
  have fo : ∀ {k}, F k ∨ G k → BOwn hb nv iv bv X F G k := fun h => h.elim (fun h => .inr (.inr (.inr (.inr (.inr (.inl h)))))) (fun h => .inr (.inr (.inr (.inr (.inr (.inr h))))))
  exact
  { I :=
      { sg := hS
        c0 := by rw [World.cell?_of_block (by exact kh)]; exact I.c0
        c1 := by rw [World.cell?_of_block (by exact kh)]; exact I.c1
        c2 := by rw [World.cell?_of_block (by exact kh)]; exact I.c2
        c3 := by rw [World.cell?_of_block (by exact kh)]; exact I.c3
        c4 := by rw [World.cell?_of_block (by exact kh)]; exact I.c4
        fz := fun j => by rw [World.frozen?_of_block (by exact kh)]; exact I.fz j
        nr := row_moved I.nr fun g hg => hnot g (I.nr.lt g hg).2 (fun h => (I.fg g h).2.2.1 hg)
        nn := I.nn
        np := fun x hx => ⟨(I.np x hx).1.kept fun k hX => hnot k (I.xa k hX).1 (fun h => (I.fg k h).2.2.2.2.2 hX), (I.np x hx).2⟩
        ir := row_moved I.ir fun g hg => hnot g (I.ir.lt g hg).2 (fun h => (I.fg g h).2.2.2.1 hg)
        br := row_moved I.br fun g hg => hnot g (I.br.lt g hg).2 (fun h => (I.fg g h).2.2.2.2.1 hg)
        an := I.an
        ai := I.ai
        ab := I.ab
        xa := fun k hX => ⟨Nat.lt_of_lt_of_le (I.xa k hX).1 hsz, (I.xa k hX).2⟩
        hg := I.hg
        fg := fun k hk => by
          rcases hFG k hk with h | h
          · exact I.fg k h
          · have hb1 := I.B.size
            refine ⟨by omega, fun e => ?_, fun e => ?_, fun e => ?_, fun e => ?_, fun e => ?_⟩
            · have := (I.olt hb (.inl rfl)).1; omega
            · have := (I.nr.lt k e).2; omega
            · have := (I.ir.lt k e).2; omega
            · have := (I.br.lt k e).2; omega
            · have := (I.xa k e).1; omega
        B := hB
        ok := ⟨hp, hg, I.ok.rng, I.ok.blen, I.ok.npar⟩ }
    b8 := (hnot B8 h8 (fun h => R.n8 (fo h))).trans R.b8
    b9 := (hnot B9 h9 (fun h => R.n9 (fo h))).trans R.b9
    row := row_moved R.row fun g hg => hnot g (R.row.lt g hg).2 (fun h => (R.pn g hg).1 (fo h))
    n8 := fun h => R.n8 (hown _ h8 h)
    n9 := fun h => R.n9 (hown _ h9 h)
    n89 := R.n89
    pn := fun g hg => ⟨fun h => (R.pn g hg).1 (hown _ (R.row.lt g hg).2 h), (R.pn g hg).2⟩
    g8 := R.g8
    g9 := R.g9 }

/-- what is left of a round behind the nodes -/
structure BS8 (w : World) (hb s d : Nat) (e0 : Int) (st : BS) (S : DG) (F G X : Nat → Prop) (nv iv bv : Value) (ns : List Nd) (B8 : Nat) (ba : Option Addr) (bn bc : Nat) (b : BornD) (wx : World) : Prop where
  I : BI w wx hb s d e0 st S F G X nv iv bv ns
  b8 : wx.heap[B8]? = some (.cells #[.slice ba bn bc, .int .i64 b.date, .bool b.blob, .bool b.lost, .bool b.bare] 105)
  n8 : ¬ BOwn hb nv iv bv X F G B8
theorem BR.to8 {w : World} {hb s d : Nat} {e0 : Int} {st : BS} {S : DG} {F G X : Nat → Prop} {nv iv bv : Value} {ns : List Nd} {B8 B9 : Nat} {ba : Option Addr} {bn bc : Nat} {b : BornD} {wx : World} {tv : Int} {pv : Value} {ps : List Int} (R : BR w hb s d e0 st S F G X nv iv bv ns B8 B9 ba bn bc b wx tv pv ps) : BS8 w hb s d e0 st S F G X nv iv bv ns B8 ba bn bc b wx := ⟨R.I, R.b8, R.n8⟩
/-- a node more -/
theorem BR.node {w : World} {hb s d : Nat} {e0 : Int} {st : BS} {S : DG} {F G X : Nat → Prop} {nv iv bv : Value} {ns : List Nd} {B8 B9 : Nat} {ba : Option Addr} {bn bc : Nat} {b : BornD} {wx : World} {tv : Int} {pa : Option Addr} {pc : Nat} {ps : List Int} (R : BR w hb s d e0 st S F G X nv iv bv ns B8 B9 ba bn bc b wx tv (.slice pa ps.length pc) ps) (id : Int) (hid : 0 ≤ id ∧ id ≤ 18446744073709551615) (hpl : ps.length ≤ 8) (hpr : ∀ x ∈ ps, 0 ≤ x ∧ x ≤ 18446744073709551615) {w3 : World} (v' : Value)
    (hrow : w3.ownsRow w.heap.size 85 3 v' (ns.length + 1) (ndCells ns ++ ndCells [⟨id, pa, ps.length, pc, b.blob, ps⟩])) (hT : Turn (fun k => nv.ownBlock = some k) wx w3) (hv : ∀ g, v'.ownBlock = some g → nv.ownBlock = some g ∨ wx.heap.size ≤ g) :
    BS8 w hb s d e0 ⟨st.os, st.ids, st.nodes ++ [(id, ps, b.blob)], st.bare⟩ S F G (fun k => X k ∨ (Value.slice pa ps.length pc).ownBlock = some k) v' iv bv (ns ++ [⟨id, pa, ps.length, pc, b.blob, ps⟩]) B8 ba bn bc b (w3.setCell ⟨hb, 1, none⟩ v') := by
  have I := R.I
  have h8 := lt_of_block R.b8
  have hhl := (I.olt hb (.inl rfl)).1
  have hset : ∀ k, k ≠ hb → (w3.setCell ⟨hb, 1, none⟩ v').heap[k]? = w3.heap[k]? := fun k hk => Below.heap_setCell _ _ _ _ (by exact hk)
  have hold : ∀ k, k < wx.heap.size → k ≠ hb → nv.ownBlock ≠ some k → (w3.setCell ⟨hb, 1, none⟩ v').heap[k]? = wx.heap[k]? := fun k hk h1 h2 => (hset k h1).trans (hT.block k hk h2)
  have hTw : Turn (fun k => nv.ownBlock = some k ∨ k = hb) wx (w3.setCell ⟨hb, 1, none⟩ v') := ⟨hT.os, hT.tape, hT.output, by rw [World.size_setCell]; exact hT.size, fun k hk hn => hold k hk (fun e => hn (.inr e)) (fun e => hn (.inl e))⟩
  have hBw : Below w.heap.size w (w3.setCell ⟨hb, 1, none⟩ v') := I.B.trans (hTw.below I.B.size (fun k hk => by
    rcases hk with h | h
    · exact (I.nr.lt k h).1
    · rw [h]; exact I.hg))
  have k3 : w3.heap[hb]? = wx.heap[hb]? := hT.block hb hhl (fun e => (I.an hb e).1 rfl)
  have cs : ∀ i, w3.cell? ⟨hb, i, none⟩ = wx.cell? ⟨hb, i, none⟩ := fun i => World.cell?_of_block (by exact k3)
  have hpown : ∀ g, (Value.slice pa ps.length pc).ownBlock = some g → g < wx.heap.size ∧ w.heap.size ≤ g ∧ g ≠ hb ∧ nv.ownBlock ≠ some g ∧ iv.ownBlock ≠ some g ∧ bv.ownBlock ≠ some g := fun g hg => by
    have h1 := (R.pn g hg).1
    exact ⟨(R.row.lt g hg).2, (R.row.lt g hg).1, fun e => h1 (.inl e), fun e => h1 (.inr (.inl e)), fun e => h1 (.inr (.inr (.inl e))), fun e => h1 (.inr (.inr (.inr (.inl e))))⟩
  have hnew : ∀ g, v'.ownBlock = some g → g ≠ hb ∧ iv.ownBlock ≠ some g ∧ bv.ownBlock ≠ some g := fun g hg => by
    rcases hv g hg with h | h
    · exact I.an g h
    · exact ⟨by omega, fun e => by have := (I.ir.lt g e).2; omega, fun e => by have := (I.br.lt g e).2; omega⟩
  have hkX : ∀ k, (X k ∨ (Value.slice pa ps.length pc).ownBlock = some k) → k < wx.heap.size ∧ w.heap.size ≤ k ∧ k ≠ hb ∧ nv.ownBlock ≠ some k ∧ iv.ownBlock ≠ some k ∧ bv.ownBlock ≠ some k := fun k hk => hk.elim (fun h => I.xa k h) (hpown k)
  refine ⟨
    { sg := I.sg.turn hTw (fun k hk h => by
        have := I.fg k hk
        rcases h with h | h
        · exact this.2.2.1 h
        · exact this.2.1 h)
      c0 := by rw [World.cell?_setCell_other _ _ _ _ (by simp), cs]; exact I.c0
      c1 := World.cell?_setCell_same _ _ _ ((cs 1).trans I.c1)
      c2 := by rw [World.cell?_setCell_other _ _ _ _ (by simp), cs]; exact I.c2
      c3 := by rw [World.cell?_setCell_other _ _ _ _ (by simp), cs]; exact I.c3
      c4 := by rw [World.cell?_setCell_other _ _ _ _ (by simp), cs]; exact I.c4
      fz := fun j => by rw [World.frozen?_setCell, World.frozen?_of_block (by exact k3)]; exact I.fz j
      nr := by
        have e : (ns ++ [(⟨id, pa, ps.length, pc, b.blob, ps⟩ : Nd)]).length = ns.length + 1 := by simp
        rw [e, ndCells_append]
        exact row_moved hrow fun g hg => hset g (hnew g hg).1
      nn := by rw [List.map_append, I.nn]; rfl
      np := fun x hx => by
        rcases List.mem_append.1 hx with hx | hx
        · exact ⟨((I.np x hx).1.kept fun k hX => hold k (I.xa k hX).1 (I.xa k hX).2.2.1 (I.xa k hX).2.2.2.1).wide fun k hX => .inl hX, (I.np x hx).2⟩
        · simp at hx
          subst hx
          obtain ⟨_, _, e0, hc, _⟩ := row_shapeN R.row
          cases e0
          refine ⟨fun W hW => ?_, hc⟩
          have hr : W.ownsRow w.heap.size 31 1 (.slice pa ps.length pc) ps.length (ps.map (Value.int .u64)) := row_moved R.row fun g hg => (hW g (.inr hg)).trans (hold g (hpown g hg).1 (hpown g hg).2.2.1 (hpown g hg).2.2.2.1)
          obtain ⟨a2, c2, e2, hI⟩ := own_ids hr
          cases e2
          exact hI
      ir := row_moved I.ir fun g hg => hold g (I.ir.lt g hg).2 (I.ai g hg).1 (fun e => (I.an g e).2.1 hg)
      br := row_moved I.br fun g hg => hold g (I.br.lt g hg).2 (I.ab g hg) (fun e => (I.an g e).2.2 hg)
      an := hnew
      ai := I.ai
      ab := I.ab
      xa := fun k hk => by
        have h1 := hkX k hk
        refine ⟨by rw [World.size_setCell]; have := hT.size; omega, h1.2.1, h1.2.2.1, fun e => ?_, h1.2.2.2.2⟩
        rcases hv k e with h | h
        · exact h1.2.2.2.1 h
        · omega
      hg := I.hg
      fg := fun k hk => by
        have h1 := I.fg k hk
        have hkl : k < wx.heap.size := hk.elim (I.sg.st.lt k) (I.sg.dk.lt k)
        refine ⟨h1.1, h1.2.1, fun e => ?_, h1.2.2.2.1, h1.2.2.2.2.1, fun e => ?_⟩
        · rcases hv k e with h | h
          · exact h1.2.2.1 h
          · omega
        · rcases e with e | e
          · exact h1.2.2.2.2.2 e
          · exact (R.pn k e).1 (hk.elim (fun h => .inr (.inr (.inr (.inr (.inr (.inl h)))))) (fun h => .inr (.inr (.inr (.inr (.inr (.inr h)))))))
      B := hBw
      ok := ⟨I.ok.pure, I.ok.good, I.ok.rng, I.ok.blen, fun n hn => by
        rcases List.mem_append.1 hn with hn | hn
        · exact I.ok.npar n hn
        · simp at hn
          subst hn
          exact ⟨hid.1, hid.2, hpl, hpr⟩⟩ }, ?_, ?_⟩
  · rw [hold B8 h8 (fun e => R.n8 (.inl e)) (fun e => R.n8 (.inr (.inl e)))]; exact R.b8
  · intro h
    rcases h with h | h | h | h | h | h | h
    · exact R.n8 (.inl h)
    · exact (hv B8 h).elim (fun h => R.n8 (.inr (.inl h))) (fun h => by omega)
    · exact R.n8 (.inr (.inr (.inl h)))
    · exact R.n8 (.inr (.inr (.inr (.inl h))))
    · rcases h with h | h
      · exact R.n8 (.inr (.inr (.inr (.inr (.inl h)))))
      · exact (R.pn B8 h).2.1 rfl
    · exact R.n8 (.inr (.inr (.inr (.inr (.inr (.inl h))))))
    · exact R.n8 (.inr (.inr (.inr (.inr (.inr (.inr h))))))
/-- an id and a mark more -/
theorem BS8.fin {w : World} {hb s d : Nat} {e0 : Int} {st : BS} {S : DG} {F G X : Nat → Prop} {nv iv bv : Value} {ns : List Nd} {B8 : Nat} {ba : Option Addr} {bn bc : Nat} {b : BornD} {wx : World} (R : BS8 w hb s d e0 st S F G X nv iv bv ns B8 ba bn bc b wx) (id : Int) (mk : Bool) (hid : id ≠ 0 ∧ 0 ≤ id ∧ id ≤ 18446744073709551615) {w4 w5 : World} (iv' bv' : Value)
    (hi : w4.ownsRow w.heap.size 31 1 iv' (st.ids.length + 1) (st.ids.map (Value.int .u64) ++ [.int .u64 id])) (hT4 : Turn (fun k => iv.ownBlock = some k) wx w4) (hvi : ∀ g, iv'.ownBlock = some g → iv.ownBlock = some g ∨ wx.heap.size ≤ g)
    (hb' : w5.ownsRow w.heap.size 4 1 bv' (st.bare.length + 1) (st.bare.map Value.bool ++ [.bool mk])) (hT5 : Turn (fun k => bv.ownBlock = some k) w4 w5) (hvb : ∀ g, bv'.ownBlock = some g → bv.ownBlock = some g ∨ w4.heap.size ≤ g) :
    BI w ((w5.setCell ⟨hb, 2, none⟩ iv').setCell ⟨hb, 3, none⟩ bv') hb s d e0 ⟨st.os, st.ids ++ [id], st.nodes, st.bare ++ [mk]⟩ S F G X nv iv' bv' ns := by
  have I := R.I
  have hhl := (I.olt hb (.inl rfl)).1
  have hs4 := hT4.size
  have hs5 := hT5.size
  have hset : ∀ k, k ≠ hb → ((w5.setCell ⟨hb, 2, none⟩ iv').setCell ⟨hb, 3, none⟩ bv').heap[k]? = w5.heap[k]? := fun k hk => by rw [Below.heap_setCell _ _ _ _ (by exact hk), Below.heap_setCell _ _ _ _ (by exact hk)]
  have h45 : ∀ k, k < wx.heap.size → iv.ownBlock ≠ some k → bv.ownBlock ≠ some k → w5.heap[k]? = wx.heap[k]? := fun k hk h1 h2 => (hT5.block k (by omega) h2).trans (hT4.block k hk h1)
  have hold : ∀ k, k < wx.heap.size → k ≠ hb → iv.ownBlock ≠ some k → bv.ownBlock ≠ some k → ((w5.setCell ⟨hb, 2, none⟩ iv').setCell ⟨hb, 3, none⟩ bv').heap[k]? = wx.heap[k]? := fun k hk h0 h1 h2 => (hset k h0).trans (h45 k hk h1 h2)
  have hTw : Turn (fun k => iv.ownBlock = some k ∨ bv.ownBlock = some k ∨ k = hb) wx ((w5.setCell ⟨hb, 2, none⟩ iv').setCell ⟨hb, 3, none⟩ bv') := ⟨hT5.os.trans hT4.os, hT5.tape.trans hT4.tape, hT5.output.trans hT4.output, by rw [World.size_setCell, World.size_setCell]; omega, fun k hk hn => hold k hk (fun e => hn (.inr (.inr e))) (fun e => hn (.inl e)) (fun e => hn (.inr (.inl e)))⟩
  have hBw : Below w.heap.size w ((w5.setCell ⟨hb, 2, none⟩ iv').setCell ⟨hb, 3, none⟩ bv') := I.B.trans (hTw.below I.B.size (fun k hk => by
    rcases hk with h | h | h
    · exact (I.ir.lt k h).1
    · exact (I.br.lt k h).1
    · rw [h]; exact I.hg))
  have k5 : w5.heap[hb]? = wx.heap[hb]? := h45 hb hhl (fun e => (I.ai hb e).1 rfl) (fun e => I.ab hb e rfl)
  have cs : ∀ i, w5.cell? ⟨hb, i, none⟩ = wx.cell? ⟨hb, i, none⟩ := fun i => World.cell?_of_block (by exact k5)
  have hni : ∀ g, iv'.ownBlock = some g → g ≠ hb ∧ bv'.ownBlock ≠ some g := fun g hg => by
    have h4l := (hi.lt g hg).2
    rcases hvi g hg with h | h
    · refine ⟨(I.ai g h).1, fun e => ?_⟩
      rcases hvb g e with h' | h'
      · exact (I.ai g h).2 h'
      · omega
    · refine ⟨by omega, fun e => ?_⟩
      rcases hvb g e with h' | h'
      · have := (I.br.lt g h').2; omega
      · omega
  have hnb : ∀ g, bv'.ownBlock = some g → g ≠ hb := fun g hg => by
    rcases hvb g hg with h | h
    · exact I.ab g h
    · omega
  have ot : ∀ k, k < wx.heap.size → iv.ownBlock ≠ some k → bv.ownBlock ≠ some k → iv'.ownBlock ≠ some k ∧ bv'.ownBlock ≠ some k := fun k hk h1 h2 => ⟨fun e => (hvi k e).elim h1 (fun h => by omega), fun e => (hvb k e).elim h2 (fun h => by omega)⟩
  exact
  { sg := I.sg.turn hTw (fun k hk h => by
      have := I.fg k hk
      rcases h with h | h | h
      · exact this.2.2.2.1 h
      · exact this.2.2.2.2.1 h
      · exact this.2.1 h)
    c0 := by rw [World.cell?_setCell_other _ _ _ _ (by simp), World.cell?_setCell_other _ _ _ _ (by simp), cs]; exact I.c0
    c1 := by rw [World.cell?_setCell_other _ _ _ _ (by simp), World.cell?_setCell_other _ _ _ _ (by simp), cs]; exact I.c1
    c2 := by rw [World.cell?_setCell_other _ _ _ _ (by simp)]; exact World.cell?_setCell_same _ _ _ ((cs 2).trans I.c2)
    c3 := World.cell?_setCell_same _ _ _ (by rw [World.cell?_setCell_other _ _ _ _ (by simp)]; exact (cs 3).trans I.c3)
    c4 := by rw [World.cell?_setCell_other _ _ _ _ (by simp), World.cell?_setCell_other _ _ _ _ (by simp), cs]; exact I.c4
    fz := fun j => by rw [World.frozen?_setCell, World.frozen?_setCell, World.frozen?_of_block (by exact k5)]; exact I.fz j
    nr := row_moved I.nr fun g hg => hold g (I.nr.lt g hg).2 (I.an g hg).1 (I.an g hg).2.1 (I.an g hg).2.2
    nn := I.nn
    np := fun x hx => ⟨(I.np x hx).1.kept fun k hX => hold k (I.xa k hX).1 (I.xa k hX).2.2.1 (I.xa k hX).2.2.2.2.1 (I.xa k hX).2.2.2.2.2, (I.np x hx).2⟩
    ir := by
      have e : (st.ids ++ [id]).length = st.ids.length + 1 := by simp
      simp only [e, List.map_append]
      refine row_moved hi fun g hg => (hset g (hni g hg).1).trans (hT5.block g (hi.lt g hg).2 (fun e => ?_))
      rcases hvi g hg with h | h
      · exact (I.ai g h).2 e
      · have := (I.br.lt g e).2; omega
    br := by
      have e : (st.bare ++ [mk]).length = st.bare.length + 1 := by simp
      simp only [e, List.map_append]
      exact row_moved hb' fun g hg => hset g (hnb g hg)
    an := fun g hg => ⟨(I.an g hg).1, ot g (I.nr.lt g hg).2 (I.an g hg).2.1 (I.an g hg).2.2⟩
    ai := hni
    ab := hnb
    xa := fun k hk => by
      have h1 := I.xa k hk
      refine ⟨by rw [World.size_setCell, World.size_setCell]; omega, h1.2.1, h1.2.2.1, h1.2.2.2.1, ot k h1.1 h1.2.2.2.2.1 h1.2.2.2.2.2⟩
    hg := I.hg
    fg := fun k hk => by
      have h1 := I.fg k hk
      have hkl : k < wx.heap.size := hk.elim (I.sg.st.lt k) (I.sg.dk.lt k)
      have h2 := ot k hkl h1.2.2.2.1 h1.2.2.2.2.1
      exact ⟨h1.1, h1.2.1, h1.2.2.1, h2.1, h2.2, h1.2.2.2.2.2⟩
    B := hBw
    ok := ⟨I.ok.pure, I.ok.good, fun i hi => by
      rcases List.mem_append.1 hi with hi | hi
      · exact I.ok.rng i hi
      · simp at hi
        subst hi
        exact hid, by simp only [List.length_append, I.ok.blen, List.length_singleton], I.ok.npar⟩ }
end Go.Proofs.YtncagdfbgpdhfaaGreat

/- The objects that born puts in. -/
namespace Go.Proofs.YtncagdfbgpdhfaaGreat
open Go.RowKit Go.Maps

theorem backId_mem {ids : List Int} (h : 0 < ids.length) (x : Int) : backId ids x ∈ ids := by
  unfold backId
  have hl : backI ids.length ids.length x < ids.length := by unfold backI; omega
  rw [List.getElem?_eq_getElem hl, Option.getD_some]
  exact List.getElem_mem hl
theorem parsG_ok {ids : List Int} (hr : ∀ i ∈ ids, i ≠ 0 ∧ 0 ≤ i ∧ i ≤ 18446744073709551615) (b : BornD) : (∀ x ∈ parsG ids b, x ≠ 0 ∧ 0 ≤ x ∧ x ≤ 18446744073709551615) ∧ (parsG ids b).length ≤ 8 := by
  have hb : (∀ x ∈ backs ids b.back, x ≠ 0 ∧ 0 ≤ x ∧ x ≤ 18446744073709551615) ∧ (backs ids b.back).length ≤ 7 := by
    unfold backs
    split
    · exact ⟨by simp, by simp⟩
    · rename_i h
      refine ⟨fun x hx => ?_, by rw [List.length_map, List.length_take]; omega⟩
      obtain ⟨y, _, rfl⟩ := List.mem_map.1 hx
      exact hr _ (backId_mem (by omega) y)
  unfold parsG
  refine ⟨fun x hx => ?_, ?_⟩
  · rcases List.mem_append.1 hx with h | h
    · exact hb.1 x h
    · split at h
      · simp at h; subst h; omega
      · cases h
  · rw [List.length_append]
    have := hb.2
    split <;> simp <;> omega
theorem parL_zero : ∀ (l : List Int), (∀ x ∈ l, x ≠ 0) → parL l = 0
  | [], _ => rfl
  | x :: r, h => by
    simp only [parL]
    rw [if_neg (h x (by simp))]
    exact parL_zero r fun y hy => h y (by simp [hy])
theorem comG_err {t : Int} {ps : List Int} (ht : t ≠ 0) (hp : ∀ x ∈ ps, x ≠ 0) (hl : ps.length ≤ 8) (d : Int) : obErr (.com (t, ps, ⟨#[]⟩, d, ⟨#[]⟩)) = 0 := by
  show comErr t ps ⟨#[]⟩ ⟨#[]⟩ = 0
  have h1 : parErr ps = 0 := by unfold parErr; rw [if_neg (by omega)]; exact parL_zero ps hp
  have h2 : txtErr ⟨#[]⟩ 64 = 0 := by decide
  have h3 : txtErr ⟨#[]⟩ 1024 = 0 := by decide
  unfold comErr
  rw [if_neg ht, h1, h2, h3]
  simp
theorem obG_err {ids : List Int} (hr : ∀ i ∈ ids, i ≠ 0 ∧ 0 ≤ i ∧ i ≤ 18446744073709551615) (e0 : Int) (he : e0 ≠ 0) (b : BornD) : obErr (obG e0 ids b) = 0 := by
  have h := parsG_ok hr b
  unfold obG
  split
  · exact (blob_pure [byteG b.date] (by simp)).1
  · unfold comG
    refine comG_err ?_ (fun x hx => (h.1 x hx).1) h.2 _
    split
    · omega
    · exact he
theorem com_obs {W : World} {B : Nat} {pa : Option Addr} {pc : Nat} {ps : List Int} (hrow : W.ownsRow B 31 1 (.slice pa ps.length pc) ps.length (ps.map (Value.int .u64))) (t : Int) (ht : 0 ≤ t ∧ t ≤ 18446744073709551615) (hp : ∀ x ∈ ps, 0 ≤ x ∧ x ≤ 18446744073709551615) (d : Int) (hd : -9223372036854775808 ≤ d ∧ d ≤ 9223372036854775807) (hl : ps.length ≤ 8) :
    ObS (.com (t, ps, ⟨#[]⟩, d, ⟨#[]⟩)) (.iface 78 (.agg #[.int .u64 t, .slice pa ps.length pc, .string ⟨#[]⟩, .int .i64 d, .string ⟨#[]⟩])) W := by
  obtain ⟨a2, c2, e2, hI⟩ := own_ids hrow
  cases e2
  obtain ⟨a3, c3, e3, h3, h4⟩ := row_shapeN hrow
  cases e3
  have hC : Com W t pa ps.length pc ps ⟨#[]⟩ d ⟨#[]⟩ := ⟨⟨by omega, by omega⟩, hI, fun x hx => by have := hp x hx; omega, ⟨h3, by omega, h4⟩, by decide, ⟨by omega, by omega⟩, by decide⟩
  exact ⟨⟨pa, pc, rfl, hC⟩, trivial⟩
theorem lit_byte (W : World) (d : Int) : Bytes (W.alloc (.cells #[.int .u8 (d % 256)] 5)) (some ⟨W.heap.size, 0, none⟩) 1 [byteG d] := by
  have hb := World.alloc_heap_new W (.cells #[.int .u8 (d % 256)] 5)
  generalize W.alloc (.cells #[.int .u8 (d % 256)] 5) = W' at hb
  have e : ((byteG d).toNat : Int) = d % 256 := by
    unfold byteG
    have h1 : (d % 256).toNat < 256 := by omega
    rw [UInt8.toNat_ofNat', Nat.mod_eq_of_lt (by exact h1)]
    omega
  refine ⟨rfl, fun _ => ⟨W.heap.size, 0, rfl, fun i hi => ?_⟩⟩
  match i, hi with
  | 0, _ => simp [World.cell?, hb, bt, e]
theorem putG_ok {os os' : List Ob} {o : Ob} (h : putG os o = some os') (hp : Pure os) (hg : ∀ p ∈ os, obErr p = 0) (hl : ∀ p ∈ os, (obB p).length ≤ 16384) (h0 : obErr o = 0) (hd : decG (obB o) = some o) (ho : (obB o).length ≤ 16384) : Pure os' ∧ (∀ p ∈ os', obErr p = 0) ∧ (∀ p ∈ os', (obB p).length ≤ 16384) ∧ os'.length ≤ os.length + 1 := by
  unfold putG at h
  cases hf : findO os (oid o) with
  | none =>
    rw [hf] at h
    simp only [Option.some.injEq] at h
    subst h
    refine ⟨hp.snoc hd hf, fun p hp' => ?_, fun p hp' => ?_, by simp⟩
    · rcases List.mem_append.1 hp' with h | h
      · exact hg p h
      · simp at h; subst h; exact h0
    · rcases List.mem_append.1 hp' with h | h
      · exact hl p h
      · simp at h; subst h; exact ho
  | some p =>
    rw [hf] at h
    simp only at h
    split at h
    · cases h
      exact ⟨hp, hg, hl, by omega⟩
    · cases h
theorem oid_rng (o : Ob) : oid o ≠ 0 ∧ 0 ≤ oid o ∧ oid o ≤ 18446744073709551615 := by
  have h := idOf_bounds (obB o)
  refine ⟨?_, h⟩
  show idOf (obB o) ≠ 0
  unfold idOf
  split <;> omega
theorem backsP_end (ids back : List Int) (n : Nat) (h : back.length = n) (P : List Int) (hP : P = if ids.length = 0 then [] else (back.take (min n 7)).map (backId ids)) : P = backs ids back := by
  rw [hP]
  unfold backs
  by_cases hi : ids.length = 0
  · rw [if_pos hi, if_pos hi]
  · rw [if_neg hi, if_neg hi]
    congr 1
    by_cases h7 : n ≤ 7
    · rw [show min n 7 = n by omega, List.take_of_length_le (by omega), List.take_of_length_le (by omega)]
    · rw [show min n 7 = 7 by omega]
end Go.Proofs.YtncagdfbgpdhfaaGreat
