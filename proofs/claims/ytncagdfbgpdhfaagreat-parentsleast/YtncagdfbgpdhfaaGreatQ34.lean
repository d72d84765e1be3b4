import Derived.Test.YtncagdfbgpdhfaaGreatQ33
import Derived.Deep.RegionHeld
/- The later half of a round of born: an object is put, a node, an id and a mark are appended. -/
namespace Go.Proofs.YtncagdfbgpdhfaaGreat
open Go.RowKit Go.Maps

theorem BR.put {w : World} {hb s d : Nat} {e0 : Int} {st : BS} {S S' : DG} {F G X F' G' : Nat → Prop} {nv iv bv : Value} {ns : List Nd} {B8 B9 : Nat} {ba : Option Addr} {bn bc : Nat} {b : BornD} {wx w' : World} {tv : Int} {pv : Value} {ps : List Int} (R : BR w hb s d e0 st S F G X nv iv bv ns B8 B9 ba bn bc b wx tv pv ps) (os' : List Ob) (hT : Turn (fun k => F k ∨ G k) wx w') (hS : StG w' s d os' S' F' G') (hF : ∀ k, F' k → F k ∨ wx.heap.size ≤ k) (hG : ∀ k, G' k → G k ∨ wx.heap.size ≤ k) (hp : Pure os') (hg : ∀ o ∈ os', obErr o = 0) :
    BR w hb s d e0 ⟨os', st.ids, st.nodes, st.bare⟩ S' F' G' X nv iv bv ns B8 B9 ba bn bc b w' tv pv ps := by
  have I := R.I
  have hFG : ∀ k, F' k ∨ G' k → (F k ∨ G k) ∨ wx.heap.size ≤ k := fun k h => h.elim (fun h => (hF k h).imp .inl id) (fun h => (hG k h).imp .inr id)
  have hown : ∀ k, k < wx.heap.size → BOwn hb nv iv bv X F' G' k → BOwn hb nv iv bv X F G k := fun k hk h => by
    rcases h with h | h | h | h | h | h | h
    · exact .inl h
    · exact .inr (.inl h)
    · exact .inr (.inr (.inl h))
    · exact .inr (.inr (.inr (.inl h)))
    · exact .inr (.inr (.inr (.inr (.inl h))))
    · exact .inr (.inr (.inr (.inr (.inr (.inl ((hF k h).resolve_right (by omega)))))))
    · exact .inr (.inr (.inr (.inr (.inr (.inr ((hG k h).resolve_right (by omega)))))))
  have hnot : ∀ k, k < wx.heap.size → ¬ (F k ∨ G k) → w'.heap[k]? = wx.heap[k]? := fun k hk h => hT.block k hk h
  have h8 := lt_of_block R.b8
  have h9 := lt_of_block R.b9
  have hsz := hT.size
  have kh : w'.heap[hb]? = wx.heap[hb]? := hnot hb (I.olt hb (.inl rfl)).1 (fun h => (I.fg hb h).2.1 rfl)
  have hB : Below w.heap.size w w' := I.B.trans (hT.below I.B.size (fun k hk => (I.fg k hk).1))
  have fo : ∀ {k}, F k ∨ G k → BOwn hb nv iv bv X F G k := fun h => h.elim (fun h => .inr (.inr (.inr (.inr (.inr (.inl h)))))) (fun h => .inr (.inr (.inr (.inr (.inr (.inr h))))))
  exact
  { I :=
      { sg := hS
        c0 := by rw [World.cell?_of_block (by exact kh)]; exact I.c0
        c1 := by rw [World.cell?_of_block (by exact kh)]; exact I.c1
        c2 := by rw [World.cell?_of_block (by exact kh)]; exact I.c2
        c3 := by rw [World.cell?_of_block (by exact kh)]; exact I.c3
        c4 := by rw [World.cell?_of_block (by exact kh)]; exact I.c4
        fz := fun j => by rw [World.frozen?_of_block (by exact kh)]; exact I.fz j
        nr := row_moved I.nr fun g hg => hnot g (I.nr.lt g hg).2 (fun h => (I.fg g h).2.2.1 hg)
        nn := I.nn
        np := fun x hx => ⟨(I.np x hx).1.kept fun k hX => hnot k (I.xa k hX).1 (fun h => (I.fg k h).2.2.2.2.2 hX), (I.np x hx).2⟩
        ir := row_moved I.ir fun g hg => hnot g (I.ir.lt g hg).2 (fun h => (I.fg g h).2.2.2.1 hg)
        br := row_moved I.br fun g hg => hnot g (I.br.lt g hg).2 (fun h => (I.fg g h).2.2.2.2.1 hg)
        an := I.an
        ai := I.ai
        ab := I.ab
        xa := fun k hX => ⟨Nat.lt_of_lt_of_le (I.xa k hX).1 hsz, (I.xa k hX).2⟩
        hg := I.hg
        fg := fun k hk => by
          rcases hFG k hk with h | h
          · exact I.fg k h
          · have hb1 := I.B.size
            refine ⟨by omega, fun e => ?_, fun e => ?_, fun e => ?_, fun e => ?_, fun e => ?_⟩
            · have := (I.olt hb (.inl rfl)).1; omega
            · have := (I.nr.lt k e).2; omega
            · have := (I.ir.lt k e).2; omega
            · have := (I.br.lt k e).2; omega
            · have := (I.xa k e).1; omega
        B := hB
        ok := ⟨hp, hg, I.ok.rng, I.ok.blen, I.ok.npar⟩ }
    b8 := (hnot B8 h8 (fun h => R.n8 (fo h))).trans R.b8
    b9 := (hnot B9 h9 (fun h => R.n9 (fo h))).trans R.b9
    row := row_moved R.row fun g hg => hnot g (R.row.lt g hg).2 (fun h => (R.pn g hg).1 (fo h))
    n8 := fun h => R.n8 (hown _ h8 h)
    n9 := fun h => R.n9 (hown _ h9 h)
    n89 := R.n89
    pn := fun g hg => ⟨fun h => (R.pn g hg).1 (hown _ (R.row.lt g hg).2 h), (R.pn g hg).2⟩
    g8 := R.g8
    g9 := R.g9 }

/-- what is left of a round behind the nodes -/
structure BS8 (w : World) (hb s d : Nat) (e0 : Int) (st : BS) (S : DG) (F G X : Nat → Prop) (nv iv bv : Value) (ns : List Nd) (B8 : Nat) (ba : Option Addr) (bn bc : Nat) (b : BornD) (wx : World) : Prop where
  I : BI w wx hb s d e0 st S F G X nv iv bv ns
  b8 : wx.heap[B8]? = some (.cells #[.slice ba bn bc, .int .i64 b.date, .bool b.blob, .bool b.lost, .bool b.bare] 105)
  n8 : ¬ BOwn hb nv iv bv X F G B8
theorem BR.to8 {w : World} {hb s d : Nat} {e0 : Int} {st : BS} {S : DG} {F G X : Nat → Prop} {nv iv bv : Value} {ns : List Nd} {B8 B9 : Nat} {ba : Option Addr} {bn bc : Nat} {b : BornD} {wx : World} {tv : Int} {pv : Value} {ps : List Int} (R : BR w hb s d e0 st S F G X nv iv bv ns B8 B9 ba bn bc b wx tv pv ps) : BS8 w hb s d e0 st S F G X nv iv bv ns B8 ba bn bc b wx := ⟨R.I, R.b8, R.n8⟩
/-- a node more -/
theorem BR.node {w : World} {hb s d : Nat} {e0 : Int} {st : BS} {S : DG} {F G X : Nat → Prop} {nv iv bv : Value} {ns : List Nd} {B8 B9 : Nat} {ba : Option Addr} {bn bc : Nat} {b : BornD} {wx : World} {tv : Int} {pa : Option Addr} {pc : Nat} {ps : List Int} (R : BR w hb s d e0 st S F G X nv iv bv ns B8 B9 ba bn bc b wx tv (.slice pa ps.length pc) ps) (id : Int) (hid : 0 ≤ id ∧ id ≤ 18446744073709551615) (hpl : ps.length ≤ 8) (hpr : ∀ x ∈ ps, 0 ≤ x ∧ x ≤ 18446744073709551615) {w3 : World} (v' : Value)
    (hrow : w3.ownsRow w.heap.size 85 3 v' (ns.length + 1) (ndCells ns ++ ndCells [⟨id, pa, ps.length, pc, b.blob, ps⟩])) (hT : Turn (fun k => nv.ownBlock = some k) wx w3) (hv : ∀ g, v'.ownBlock = some g → nv.ownBlock = some g ∨ wx.heap.size ≤ g) :
    BS8 w hb s d e0 ⟨st.os, st.ids, st.nodes ++ [(id, ps, b.blob)], st.bare⟩ S F G (fun k => X k ∨ (Value.slice pa ps.length pc).ownBlock = some k) v' iv bv (ns ++ [⟨id, pa, ps.length, pc, b.blob, ps⟩]) B8 ba bn bc b (w3.setCell ⟨hb, 1, none⟩ v') := by
  have I := R.I
  have h8 := lt_of_block R.b8
  have hhl := (I.olt hb (.inl rfl)).1
  have hset : ∀ k, k ≠ hb → (w3.setCell ⟨hb, 1, none⟩ v').heap[k]? = w3.heap[k]? := fun k hk => Below.heap_setCell _ _ _ _ (by exact hk)
  have hold : ∀ k, k < wx.heap.size → k ≠ hb → nv.ownBlock ≠ some k → (w3.setCell ⟨hb, 1, none⟩ v').heap[k]? = wx.heap[k]? := fun k hk h1 h2 => (hset k h1).trans (hT.block k hk h2)
  have hTw : Turn (fun k => nv.ownBlock = some k ∨ k = hb) wx (w3.setCell ⟨hb, 1, none⟩ v') := ⟨hT.os, hT.tape, hT.output, by rw [World.size_setCell]; exact hT.size, fun k hk hn => hold k hk (fun e => hn (.inr e)) (fun e => hn (.inl e))⟩
  have hBw : Below w.heap.size w (w3.setCell ⟨hb, 1, none⟩ v') := I.B.trans (hTw.below I.B.size (fun k hk => by
    rcases hk with h | h
    · exact (I.nr.lt k h).1
    · rw [h]; exact I.hg))
  have k3 : w3.heap[hb]? = wx.heap[hb]? := hT.block hb hhl (fun e => (I.an hb e).1 rfl)
  have cs : ∀ i, w3.cell? ⟨hb, i, none⟩ = wx.cell? ⟨hb, i, none⟩ := fun i => World.cell?_of_block (by exact k3)
  have hpown : ∀ g, (Value.slice pa ps.length pc).ownBlock = some g → g < wx.heap.size ∧ w.heap.size ≤ g ∧ g ≠ hb ∧ nv.ownBlock ≠ some g ∧ iv.ownBlock ≠ some g ∧ bv.ownBlock ≠ some g := fun g hg => by
    have h1 := (R.pn g hg).1
    exact ⟨(R.row.lt g hg).2, (R.row.lt g hg).1, fun e => h1 (.inl e), fun e => h1 (.inr (.inl e)), fun e => h1 (.inr (.inr (.inl e))), fun e => h1 (.inr (.inr (.inr (.inl e))))⟩
  have hnew : ∀ g, v'.ownBlock = some g → g ≠ hb ∧ iv.ownBlock ≠ some g ∧ bv.ownBlock ≠ some g := fun g hg => by
    rcases hv g hg with h | h
    · exact I.an g h
    · exact ⟨by omega, fun e => by have := (I.ir.lt g e).2; omega, fun e => by have := (I.br.lt g e).2; omega⟩
  have hkX : ∀ k, (X k ∨ (Value.slice pa ps.length pc).ownBlock = some k) → k < wx.heap.size ∧ w.heap.size ≤ k ∧ k ≠ hb ∧ nv.ownBlock ≠ some k ∧ iv.ownBlock ≠ some k ∧ bv.ownBlock ≠ some k := fun k hk => hk.elim (fun h => I.xa k h) (hpown k)
  refine ⟨
    { sg := I.sg.turn hTw (fun k hk h => by
        have := I.fg k hk
        rcases h with h | h
        · exact this.2.2.1 h
        · exact this.2.1 h)
      c0 := by rw [World.cell?_setCell_other _ _ _ _ (by simp), cs]; exact I.c0
      c1 := World.cell?_setCell_same _ _ _ ((cs 1).trans I.c1)
      c2 := by rw [World.cell?_setCell_other _ _ _ _ (by simp), cs]; exact I.c2
      c3 := by rw [World.cell?_setCell_other _ _ _ _ (by simp), cs]; exact I.c3
      c4 := by rw [World.cell?_setCell_other _ _ _ _ (by simp), cs]; exact I.c4
      fz := fun j => by rw [World.frozen?_setCell, World.frozen?_of_block (by exact k3)]; exact I.fz j
      nr := by
        have e : (ns ++ [(⟨id, pa, ps.length, pc, b.blob, ps⟩ : Nd)]).length = ns.length + 1 := by simp
        rw [e, ndCells_append]
        exact row_moved hrow fun g hg => hset g (hnew g hg).1
      nn := by rw [List.map_append, I.nn]; rfl
      np := fun x hx => by
        rcases List.mem_append.1 hx with hx | hx
        · exact ⟨((I.np x hx).1.kept fun k hX => hold k (I.xa k hX).1 (I.xa k hX).2.2.1 (I.xa k hX).2.2.2.1).wide fun k hX => .inl hX, (I.np x hx).2⟩
        · simp at hx
          subst hx
          obtain ⟨_, _, e0, hc, _⟩ := row_shapeN R.row
          cases e0
          refine ⟨fun W hW => ?_, hc⟩
          have hr : W.ownsRow w.heap.size 31 1 (.slice pa ps.length pc) ps.length (ps.map (Value.int .u64)) := row_moved R.row fun g hg => (hW g (.inr hg)).trans (hold g (hpown g hg).1 (hpown g hg).2.2.1 (hpown g hg).2.2.2.1)
          obtain ⟨a2, c2, e2, hI⟩ := own_ids hr
          cases e2
          exact hI
      ir := row_moved I.ir fun g hg => hold g (I.ir.lt g hg).2 (I.ai g hg).1 (fun e => (I.an g e).2.1 hg)
      br := row_moved I.br fun g hg => hold g (I.br.lt g hg).2 (I.ab g hg) (fun e => (I.an g e).2.2 hg)
      an := hnew
      ai := I.ai
      ab := I.ab
      xa := fun k hk => by
        have h1 := hkX k hk
        refine ⟨by rw [World.size_setCell]; have := hT.size; omega, h1.2.1, h1.2.2.1, fun e => ?_, h1.2.2.2.2⟩
        rcases hv k e with h | h
        · exact h1.2.2.2.1 h
        · omega
      hg := I.hg
      fg := fun k hk => by
        have h1 := I.fg k hk
        have hkl : k < wx.heap.size := hk.elim (I.sg.st.lt k) (I.sg.dk.lt k)
        refine ⟨h1.1, h1.2.1, fun e => ?_, h1.2.2.2.1, h1.2.2.2.2.1, fun e => ?_⟩
        · rcases hv k e with h | h
          · exact h1.2.2.1 h
          · omega
        · rcases e with e | e
          · exact h1.2.2.2.2.2 e
          · exact (R.pn k e).1 (hk.elim (fun h => .inr (.inr (.inr (.inr (.inr (.inl h)))))) (fun h => .inr (.inr (.inr (.inr (.inr (.inr h)))))))
      B := hBw
      ok := ⟨I.ok.pure, I.ok.good, I.ok.rng, I.ok.blen, fun n hn => by
        rcases List.mem_append.1 hn with hn | hn
        · exact I.ok.npar n hn
        · simp at hn
          subst hn
          exact ⟨hid.1, hid.2, hpl, hpr⟩⟩ }, ?_, ?_⟩
  · rw [hold B8 h8 (fun e => R.n8 (.inl e)) (fun e => R.n8 (.inr (.inl e)))]; exact R.b8
  · intro h
    rcases h with h | h | h | h | h | h | h
    · exact R.n8 (.inl h)
    · exact (hv B8 h).elim (fun h => R.n8 (.inr (.inl h))) (fun h => by omega)
    · exact R.n8 (.inr (.inr (.inl h)))
    · exact R.n8 (.inr (.inr (.inr (.inl h))))
    · rcases h with h | h
      · exact R.n8 (.inr (.inr (.inr (.inr (.inl h)))))
      · exact (R.pn B8 h).2.1 rfl
    · exact R.n8 (.inr (.inr (.inr (.inr (.inr (.inl h))))))
    · exact R.n8 (.inr (.inr (.inr (.inr (.inr (.inr h))))))
/-- an id and a mark more -/
theorem BS8.fin {w : World} {hb s d : Nat} {e0 : Int} {st : BS} {S : DG} {F G X : Nat → Prop} {nv iv bv : Value} {ns : List Nd} {B8 : Nat} {ba : Option Addr} {bn bc : Nat} {b : BornD} {wx : World} (R : BS8 w hb s d e0 st S F G X nv iv bv ns B8 ba bn bc b wx) (id : Int) (mk : Bool) (hid : id ≠ 0 ∧ 0 ≤ id ∧ id ≤ 18446744073709551615) {w4 w5 : World} (iv' bv' : Value)
    (hi : w4.ownsRow w.heap.size 31 1 iv' (st.ids.length + 1) (st.ids.map (Value.int .u64) ++ [.int .u64 id])) (hT4 : Turn (fun k => iv.ownBlock = some k) wx w4) (hvi : ∀ g, iv'.ownBlock = some g → iv.ownBlock = some g ∨ wx.heap.size ≤ g)
    (hb' : w5.ownsRow w.heap.size 4 1 bv' (st.bare.length + 1) (st.bare.map Value.bool ++ [.bool mk])) (hT5 : Turn (fun k => bv.ownBlock = some k) w4 w5) (hvb : ∀ g, bv'.ownBlock = some g → bv.ownBlock = some g ∨ w4.heap.size ≤ g) :
    BI w ((w5.setCell ⟨hb, 2, none⟩ iv').setCell ⟨hb, 3, none⟩ bv') hb s d e0 ⟨st.os, st.ids ++ [id], st.nodes, st.bare ++ [mk]⟩ S F G X nv iv' bv' ns := by
  have I := R.I
  have hhl := (I.olt hb (.inl rfl)).1
  have hs4 := hT4.size
  have hs5 := hT5.size
  have hset : ∀ k, k ≠ hb → ((w5.setCell ⟨hb, 2, none⟩ iv').setCell ⟨hb, 3, none⟩ bv').heap[k]? = w5.heap[k]? := fun k hk => by rw [Below.heap_setCell _ _ _ _ (by exact hk), Below.heap_setCell _ _ _ _ (by exact hk)]
  have h45 : ∀ k, k < wx.heap.size → iv.ownBlock ≠ some k → bv.ownBlock ≠ some k → w5.heap[k]? = wx.heap[k]? := fun k hk h1 h2 => (hT5.block k (by omega) h2).trans (hT4.block k hk h1)
  have hold : ∀ k, k < wx.heap.size → k ≠ hb → iv.ownBlock ≠ some k → bv.ownBlock ≠ some k → ((w5.setCell ⟨hb, 2, none⟩ iv').setCell ⟨hb, 3, none⟩ bv').heap[k]? = wx.heap[k]? := fun k hk h0 h1 h2 => (hset k h0).trans (h45 k hk h1 h2)
  have hTw : Turn (fun k => iv.ownBlock = some k ∨ bv.ownBlock = some k ∨ k = hb) wx ((w5.setCell ⟨hb, 2, none⟩ iv').setCell ⟨hb, 3, none⟩ bv') := ⟨hT5.os.trans hT4.os, hT5.tape.trans hT4.tape, hT5.output.trans hT4.output, by rw [World.size_setCell, World.size_setCell]; omega, fun k hk hn => hold k hk (fun e => hn (.inr (.inr e))) (fun e => hn (.inl e)) (fun e => hn (.inr (.inl e)))⟩
  have hBw : Below w.heap.size w ((w5.setCell ⟨hb, 2, none⟩ iv').setCell ⟨hb, 3, none⟩ bv') := I.B.trans (hTw.below I.B.size (fun k hk => by
    rcases hk with h | h | h
    · exact (I.ir.lt k h).1
    · exact (I.br.lt k h).1
    · rw [h]; exact I.hg))
  have k5 : w5.heap[hb]? = wx.heap[hb]? := h45 hb hhl (fun e => (I.ai hb e).1 rfl) (fun e => I.ab hb e rfl)
  have cs : ∀ i, w5.cell? ⟨hb, i, none⟩ = wx.cell? ⟨hb, i, none⟩ := fun i => World.cell?_of_block (by exact k5)
  have hni : ∀ g, iv'.ownBlock = some g → g ≠ hb ∧ bv'.ownBlock ≠ some g := fun g hg => by
    have h4l := (hi.lt g hg).2
    rcases hvi g hg with h | h
    · refine ⟨(I.ai g h).1, fun e => ?_⟩
      rcases hvb g e with h' | h'
      · exact (I.ai g h).2 h'
      · omega
    · refine ⟨by omega, fun e => ?_⟩
      rcases hvb g e with h' | h'
      · have := (I.br.lt g h').2; omega
      · omega
  have hnb : ∀ g, bv'.ownBlock = some g → g ≠ hb := fun g hg => by
    rcases hvb g hg with h | h
    · exact I.ab g h
    · omega
  have ot : ∀ k, k < wx.heap.size → iv.ownBlock ≠ some k → bv.ownBlock ≠ some k → iv'.ownBlock ≠ some k ∧ bv'.ownBlock ≠ some k := fun k hk h1 h2 => ⟨fun e => (hvi k e).elim h1 (fun h => by omega), fun e => (hvb k e).elim h2 (fun h => by omega)⟩
  exact
  { sg := I.sg.turn hTw (fun k hk h => by
      have := I.fg k hk
      rcases h with h | h | h
      · exact this.2.2.2.1 h
      · exact this.2.2.2.2.1 h
      · exact this.2.1 h)
    c0 := by rw [World.cell?_setCell_other _ _ _ _ (by simp), World.cell?_setCell_other _ _ _ _ (by simp), cs]; exact I.c0
    c1 := by rw [World.cell?_setCell_other _ _ _ _ (by simp), World.cell?_setCell_other _ _ _ _ (by simp), cs]; exact I.c1
    c2 := by rw [World.cell?_setCell_other _ _ _ _ (by simp)]; exact World.cell?_setCell_same _ _ _ ((cs 2).trans I.c2)
    c3 := World.cell?_setCell_same _ _ _ (by rw [World.cell?_setCell_other _ _ _ _ (by simp)]; exact (cs 3).trans I.c3)
    c4 := by rw [World.cell?_setCell_other _ _ _ _ (by simp), World.cell?_setCell_other _ _ _ _ (by simp), cs]; exact I.c4
    fz := fun j => by rw [World.frozen?_setCell, World.frozen?_setCell, World.frozen?_of_block (by exact k5)]; exact I.fz j
    nr := row_moved I.nr fun g hg => hold g (I.nr.lt g hg).2 (I.an g hg).1 (I.an g hg).2.1 (I.an g hg).2.2
    nn := I.nn
    np := fun x hx => ⟨(I.np x hx).1.kept fun k hX => hold k (I.xa k hX).1 (I.xa k hX).2.2.1 (I.xa k hX).2.2.2.2.1 (I.xa k hX).2.2.2.2.2, (I.np x hx).2⟩
    ir := by
      have e : (st.ids ++ [id]).length = st.ids.length + 1 := by simp
      simp only [e, List.map_append]
      refine row_moved hi fun g hg => (hset g (hni g hg).1).trans (hT5.block g (hi.lt g hg).2 (fun e => ?_))
      rcases hvi g hg with h | h
      · exact (I.ai g h).2 e
      · have := (I.br.lt g e).2; omega
    br := by
      have e : (st.bare ++ [mk]).length = st.bare.length + 1 := by simp
      simp only [e, List.map_append]
      exact row_moved hb' fun g hg => hset g (hnb g hg)
    an := fun g hg => ⟨(I.an g hg).1, ot g (I.nr.lt g hg).2 (I.an g hg).2.1 (I.an g hg).2.2⟩
    ai := hni
    ab := hnb
    xa := fun k hk => by
      have h1 := I.xa k hk
      refine ⟨by rw [World.size_setCell, World.size_setCell]; omega, h1.2.1, h1.2.2.1, h1.2.2.2.1, ot k h1.1 h1.2.2.2.2.1 h1.2.2.2.2.2⟩
    hg := I.hg
    fg := fun k hk => by
      have h1 := I.fg k hk
      have hkl : k < wx.heap.size := hk.elim (I.sg.st.lt k) (I.sg.dk.lt k)
      have h2 := ot k hkl h1.2.2.2.1 h1.2.2.2.2.1
      exact ⟨h1.1, h1.2.1, h1.2.2.1, h2.1, h2.2, h1.2.2.2.2.2⟩
    B := hBw
    ok := ⟨I.ok.pure, I.ok.good, fun i hi => by
      rcases List.mem_append.1 hi with hi | hi
      · exact I.ok.rng i hi
      · simp at hi
        subst hi
        exact hid, by simp only [List.length_append, I.ok.blen, List.length_singleton], I.ok.npar⟩ }
end Go.Proofs.YtncagdfbgpdhfaaGreat

/- The objects that born puts in. -/
namespace Go.Proofs.YtncagdfbgpdhfaaGreat
open Go.RowKit Go.Maps

theorem backId_mem {ids : List Int} (h : 0 < ids.length) (x : Int) : backId ids x ∈ ids := by
  unfold backId
  have hl : backI ids.length ids.length x < ids.length := by unfold backI; omega
  rw [List.getElem?_eq_getElem hl, Option.getD_some]
  exact List.getElem_mem hl
theorem parsG_ok {ids : List Int} (hr : ∀ i ∈ ids, i ≠ 0 ∧ 0 ≤ i ∧ i ≤ 18446744073709551615) (b : BornD) : (∀ x ∈ parsG ids b, x ≠ 0 ∧ 0 ≤ x ∧ x ≤ 18446744073709551615) ∧ (parsG ids b).length ≤ 8 := by
  have hb : (∀ x ∈ backs ids b.back, x ≠ 0 ∧ 0 ≤ x ∧ x ≤ 18446744073709551615) ∧ (backs ids b.back).length ≤ 7 := by
    unfold backs
    split
    · exact ⟨by simp, by simp⟩
    · rename_i h
      refine ⟨fun x hx => ?_, by rw [List.length_map, List.length_take]; omega⟩
      obtain ⟨y, _, rfl⟩ := List.mem_map.1 hx
      exact hr _ (backId_mem (by omega) y)
  unfold parsG
  refine ⟨fun x hx => ?_, ?_⟩
  · rcases List.mem_append.1 hx with h | h
    · exact hb.1 x h
    · split at h
      · simp at h; subst h; omega
      · cases h
  · rw [List.length_append]
    have := hb.2
    split <;> simp <;> omega
theorem parL_zero : ∀ (l : List Int), (∀ x ∈ l, x ≠ 0) → parL l = 0
  | [], _ => rfl
  | x :: r, h => by
    simp only [parL]
    rw [if_neg (h x (by simp))]
    exact parL_zero r fun y hy => h y (by simp [hy])
theorem comG_err {t : Int} {ps : List Int} (ht : t ≠ 0) (hp : ∀ x ∈ ps, x ≠ 0) (hl : ps.length ≤ 8) (d : Int) : obErr (.com (t, ps, ⟨#[]⟩, d, ⟨#[]⟩)) = 0 := by
  show comErr t ps ⟨#[]⟩ ⟨#[]⟩ = 0
  have h1 : parErr ps = 0 := by unfold parErr; rw [if_neg (by omega)]; exact parL_zero ps hp
  have h2 : txtErr ⟨#[]⟩ 64 = 0 := by decide
  have h3 : txtErr ⟨#[]⟩ 1024 = 0 := by decide
  unfold comErr
  rw [if_neg ht, h1, h2, h3]
  simp
theorem obG_err {ids : List Int} (hr : ∀ i ∈ ids, i ≠ 0 ∧ 0 ≤ i ∧ i ≤ 18446744073709551615) (e0 : Int) (he : e0 ≠ 0) (b : BornD) : obErr (obG e0 ids b) = 0 := by
  have h := parsG_ok hr b
  unfold obG
  split
  · exact (blob_pure [byteG b.date] (by simp)).1
  · unfold comG
    refine comG_err ?_ (fun x hx => (h.1 x hx).1) h.2 _
    split
    · omega
    · exact he
theorem com_obs {W : World} {B : Nat} {pa : Option Addr} {pc : Nat} {ps : List Int} (hrow : W.ownsRow B 31 1 (.slice pa ps.length pc) ps.length (ps.map (Value.int .u64))) (t : Int) (ht : 0 ≤ t ∧ t ≤ 18446744073709551615) (hp : ∀ x ∈ ps, 0 ≤ x ∧ x ≤ 18446744073709551615) (d : Int) (hd : -9223372036854775808 ≤ d ∧ d ≤ 9223372036854775807) (hl : ps.length ≤ 8) :
    ObS (.com (t, ps, ⟨#[]⟩, d, ⟨#[]⟩)) (.iface 78 (.agg #[.int .u64 t, .slice pa ps.length pc, .string ⟨#[]⟩, .int .i64 d, .string ⟨#[]⟩])) W := by
  obtain ⟨a2, c2, e2, hI⟩ := own_ids hrow
  cases e2
  obtain ⟨a3, c3, e3, h3, h4⟩ := row_shapeN hrow
  cases e3
  have hC : Com W t pa ps.length pc ps ⟨#[]⟩ d ⟨#[]⟩ := ⟨⟨by omega, by omega⟩, hI, fun x hx => by have := hp x hx; omega, ⟨h3, by omega, h4⟩, by decide, ⟨by omega, by omega⟩, by decide⟩
  exact ⟨⟨pa, pc, rfl, hC⟩, trivial⟩
theorem lit_byte (W : World) (d : Int) : Bytes (W.alloc (.cells #[.int .u8 (d % 256)] 5)) (some ⟨W.heap.size, 0, none⟩) 1 [byteG d] := by
  have hb := World.alloc_heap_new W (.cells #[.int .u8 (d % 256)] 5)
  generalize W.alloc (.cells #[.int .u8 (d % 256)] 5) = W' at hb
  have e : ((byteG d).toNat : Int) = d % 256 := by
    unfold byteG
    have h1 : (d % 256).toNat < 256 := by omega
    rw [UInt8.toNat_ofNat', Nat.mod_eq_of_lt (by exact h1)]
    omega
  refine ⟨rfl, fun _ => ⟨W.heap.size, 0, rfl, fun i hi => ?_⟩⟩
  match i, hi with
  | 0, _ => simp [World.cell?, hb, bt, e]
theorem putG_ok {os os' : List Ob} {o : Ob} (h : putG os o = some os') (hp : Pure os) (hg : ∀ p ∈ os, obErr p = 0) (hl : ∀ p ∈ os, (obB p).length ≤ 16384) (h0 : obErr o = 0) (hd : decG (obB o) = some o) (ho : (obB o).length ≤ 16384) : Pure os' ∧ (∀ p ∈ os', obErr p = 0) ∧ (∀ p ∈ os', (obB p).length ≤ 16384) ∧ os'.length ≤ os.length + 1 := by
  unfold putG at h
  cases hf : findO os (oid o) with
  | none =>
    rw [hf] at h
    simp only [Option.some.injEq] at h
    subst h
    refine ⟨hp.snoc hd hf, fun p hp' => ?_, fun p hp' => ?_, by simp⟩
    · rcases List.mem_append.1 hp' with h | h
      · exact hg p h
      · simp at h; subst h; exact h0
    · rcases List.mem_append.1 hp' with h | h
      · exact hl p h
      · simp at h; subst h; exact ho
  | some p =>
    rw [hf] at h
    simp only at h
    split at h
    · cases h
      exact ⟨hp, hg, hl, by omega⟩
    · cases h
theorem oid_rng (o : Ob) : oid o ≠ 0 ∧ 0 ≤ oid o ∧ oid o ≤ 18446744073709551615 := by
  have h := idOf_bounds (obB o)
  refine ⟨?_, h⟩
  show idOf (obB o) ≠ 0
  unfold idOf
  split <;> omega
theorem backsP_end (ids back : List Int) (n : Nat) (h : back.length = n) (P : List Int) (hP : P = if ids.length = 0 then [] else (back.take (min n 7)).map (backId ids)) : P = backs ids back := by
  rw [hP]
  unfold backs
  by_cases hi : ids.length = 0
  · rw [if_pos hi, if_pos hi]
  · rw [if_neg hi, if_neg hi]
    congr 1
    by_cases h7 : n ≤ 7
    · rw [show min n 7 = n by omega, List.take_of_length_le (by omega), List.take_of_length_le (by omega)]
    · rw [show min n 7 = 7 by omega]
end Go.Proofs.YtncagdfbgpdhfaaGreat

/- Regions that draw their order: what must hold of the memory may hang on which operations have come up. -/
namespace Go.Proofs.YtncagdfbgpdhfaaGreat

section
variable {P : Program} {ops : Array Oper} {Q : Exit → Act → World → Prop} {md : Region.Mode} {S : Array Bool → World → Prop}

def wpAnyG (P : Program) (md : Region.Mode) (ops : Array Oper) (Q : Exit → Act → World → Prop) (S : Array Bool → World → Prop) : Nat → Array Bool → Act → World → Prop
  | 0, listed, a, w => Region.ready md ops listed = [] ∧ Q .normal a w
  | fuel + 1, listed, a, w =>
    (Region.ready md ops listed = [] → Q .normal a w) ∧
    ∀ i ∈ Region.ready md ops listed, wpOp P ops Q i (fun a' w' => S (listed.setIfInBounds i true) w' ∧ wpAnyG P md ops Q S fuel (listed.setIfInBounds i true) a' w') a w
theorem wpAny_of_G : ∀ (fuel : Nat) (listed : Array Bool) (a : Act) (w : World), wpAnyG P md ops Q S fuel listed a w → wpAny P md ops Q fuel listed a w
  | 0, _, _, _, h => h
  | fuel + 1, _, _, _, h => ⟨h.1, fun i hi => wpOp_mono (fun a' w' h' => wpAny_of_G fuel _ a' w' h'.2) (h.2 i hi)⟩

/-- An operation may be taken first, if it yields its value in every world that meets T; T holds as long as the operation b, which waits for it, has not come up. -/
theorem wpAnyG_first {i b : Nat} {oi ob : Oper} {v : Value} {T : World → Prop} (hi : ops[i]? = some oi) (hsel : ∀ (j : Nat) (o : Oper) cs b, ops[j]? = some o → o.op ≠ .select cs b)
    (hQ : ∀ c a w, Q (.panic c) (a.put oi.dst v) w → Q (.panic c) a w) (hT : ∀ L w, L.getD b true = false → S L w → T w)
    (hSi : ∀ L w, L.getD b true = false → S L w → S (L.setIfInBounds i true) w) (hSu : ∀ L w, L.getD b true = false → S (L.setIfInBounds i true) w → S L w) (hb : ops[b]? = some ob) (hbw : ∃ e ∈ ob.after, Region.binds md e = true ∧ e.on = i) (hbi : b ≠ i) :
    ∀ (fuel : Nat) (listed : Array Bool) (a : Act) (w : World), listed.getD b true = false →
      (∀ j oj, ops[j]? = some oj → j ≠ i → listed.getD j true = false → (∀ e ∈ oj.after, Region.binds md e = true → e.on ≠ i) → oi.apart ops oj = true) →
      i ∈ Region.ready md ops listed → YieldsIf P ops T oi v a → S listed w →
      wpAnyG P md ops Q S fuel (listed.setIfInBounds i true) (a.put oi.dst v) w → wpAnyG P md ops Q S (fuel + 1) listed a w := by
  intro fuel
  induction fuel with
  | zero =>
    intro listed a w hlb _ hr hy hS H
    refine ⟨fun h => (by rw [h] at hr; cases hr), fun j hj => ?_⟩
    by_cases hji : j = i
    · subst hji; exact hy.wpOp hi (hT _ _ hlb hS) ⟨hSi _ _ hlb hS, H⟩
    · have := ready_mono hj hji
      rw [H.1] at this
      cases this
  | succ fuel ih =>
    intro listed a w hlb hfree hr hy hS H
    refine ⟨fun h => (by rw [h] at hr; cases hr), fun j hj => ?_⟩
    by_cases hji : j = i
    · subst hji; exact hy.wpOp hi (hT _ _ hlb hS) ⟨hSi _ _ hlb hS, H⟩
    · have h1 := H.2 j (ready_mono hj hji)
      obtain ⟨hjun, oj, hoj, hall⟩ := mem_ready.1 hj
      have hnot : ∀ e ∈ oj.after, Region.binds md e = true → e.on ≠ i := fun e he hbd heq => by
        have h1 := hall e he hbd
        have h0 := (mem_ready.1 hr).1
        rw [heq] at h1
        rcases Nat.lt_or_ge i listed.size with h' | h'
        · simp [h'] at h0 h1; rw [h0] at h1; cases h1
        · simp [Array.getElem?_eq_none h'] at h1
      have hjb : j ≠ b := fun e => by
        subst e
        obtain ⟨e, he, hbd, heq⟩ := hbw
        rw [hb] at hoj
        cases hoj
        exact hnot e he hbd heq
      have hlb' : (listed.setIfInBounds j true).getD b true = false := by rw [getD_set_ne true hjb]; exact hlb
      have h2 := wpOp_putIf hoj (hfree j oj hoj hji hjun hnot) (fun cs b => hsel i oi cs b hi) (fun cs b => hsel j oj cs b hoj) hQ hy h1
      have hfree' : ∀ k ok, ops[k]? = some ok → k ≠ i → (listed.setIfInBounds j true).getD k true = false →
          (∀ e ∈ ok.after, Region.binds md e = true → e.on ≠ i) → oi.apart ops ok = true := fun k ok hk hki hun hno => by
        refine hfree k ok hk hki ?_ hno
        by_cases hjk : j = k
        · subst hjk; exact hjun
        · rw [getD_set_ne true hjk] at hun; exact hun
      refine wpOp_mono (fun a' w' h3 => ?_) h2
      have hSS : S (listed.setIfInBounds j true) w' := by
        have h4 := h3.2.1
        rw [Array.setIfInBounds_comm _ _ (Ne.symm hji)] at h4
        exact hSu _ _ hlb' h4
      refine ⟨hSS, ih (listed.setIfInBounds j true) a' w' hlb' hfree' (ready_mono hr (Ne.symm hji)) h3.1 hSS ?_⟩
      rw [Array.setIfInBounds_comm _ _ hji]
      exact h3.2.2
theorem wpAnyG_ready {rs : List Nat} {fuel : Nat} {listed : Array Bool} {a : Act} {w : World} (hr : Region.ready md ops listed = rs) (hne : rs ≠ [])
    (h : ∀ i ∈ rs, wpOp P ops Q i (fun a' w' => S (listed.setIfInBounds i true) w' ∧ wpAnyG P md ops Q S fuel (listed.setIfInBounds i true) a' w') a w) : wpAnyG P md ops Q S (fuel + 1) listed a w :=
  ⟨fun h0 => absurd (hr ▸ h0) hne, hr ▸ h⟩
theorem wpAnyG_one {i : Nat} {o : Oper} {fuel : Nat} {listed : Array Bool} {a : Act} {w : World} (hr : Region.ready md ops listed = [i]) (ho : ops[i]? = some o)
    (h : ∀ K' : Act → World → Prop, Shut (∀ a w, S (listed.setIfInBounds i true) w → (S (listed.setIfInBounds i true) w → wpAnyG P md ops Q S fuel (listed.setIfInBounds i true) a w) → K' a w) → if Region.wanted o (yielded ops a.tmps) = true then Oper.wp P o a w K' Q else K' (a.put o.dst undef) w) : wpAnyG P md ops Q S (fuel + 1) listed a w :=
  wpAnyG_ready hr (by simp) fun j hj => by
    simp at hj
    subst hj
    exact wpOp_step ho (fun K' hK => h K' (fun a w hS hW => hK a w ⟨hS, hW hS⟩))
theorem wpAnyG_done {listed : Array Bool} {a : Act} {w : World} (hr : Region.ready md ops listed = []) (h : Q .normal a w) :
    ∀ fuel, wpAnyG P md ops Q S fuel listed a w
  | 0 => ⟨hr, h⟩
  | _ + 1 => ⟨fun _ => h, by rw [hr]; simp⟩
theorem wp_region_G {id : Nat} {a : Act} {w : World} (hm : P.follows .mixedOrders = true)
    (h : wpAnyG P .any ops Q S ops.size (Array.replicate ops.size false) a w.drew) : (Code.region id ops true).wp P Q a w :=
  wp_region_any hm (wpAny_of_G _ _ _ _ h)
/-- memory that holds T0, and T as long as the operation b has not come up -/
def SB (b : Nat) (T T0 : World → Prop) : Array Bool → World → Prop := fun L w => (L.getD b true = false → T w) ∧ T0 w
theorem SB.set {b i : Nat} {T T0 : World → Prop} {L : Array Bool} {w : World} (h : i ≠ b) : SB b T T0 (L.setIfInBounds i true) w ↔ SB b T T0 L w := by
  unfold SB
  rw [getD_set_ne true h]
/-- number i is taken first: it yields its value in every world that meets T and T0, and b waits for it -/
theorem wpAnyG_takeB {i b : Nat} {oi ob : Oper} {v : Value} {T T0 : World → Prop} {fuel : Nat} {listed : Array Bool} {a : Act} {w : World} (hi : ops[i]? = some oi)
    (hs : Region.noSelect ops = true) (hf : Region.free md ops listed i = true) (hr : (Region.ready md ops listed).contains i = true)
    (hQ : ∀ c a w, Q (.panic c) (a.put oi.dst v) w → Q (.panic c) a w) (hb : ops[b]? = some ob) (hbw : (ob.after.any fun e => Region.binds md e && e.on == i) = true) (hne : (i != b) = true) (hl : (listed.getD b true) = false)
    (hy : YieldsIf P ops (fun W => T W ∧ T0 W) oi v a) (hS : SB b T T0 listed w)
    (h : SB b T T0 (listed.setIfInBounds i true) w → wpAnyG P md ops Q (SB b T T0) fuel (listed.setIfInBounds i true) (a.put oi.dst v) w) : wpAnyG P md ops Q (SB b T T0) (fuel + 1) listed a w := by
  have hib : i ≠ b := by simpa using hne
  refine wpAnyG_first (T := fun W => T W ∧ T0 W) (b := b) hi (Region.noSelect_spec hs) hQ (fun L w hL hS => ⟨hS.1 hL, hS.2⟩) (fun L w _ hS => (SB.set hib).2 hS) (fun L w _ hS => (SB.set hib).1 hS) hb ?_ (Ne.symm hib) fuel listed a w hl (Region.free_spec hi hf) (by simpa using hr) hy hS (h ((SB.set hib).2 hS))
  simp only [Array.any_eq_true'] at hbw
  obtain ⟨e, he, h2⟩ := hbw
  simp only [Bool.and_eq_true, beq_iff_eq] at h2
  exact ⟨e, he, h2.1, h2.2⟩
/-- number i is taken first: it yields its value in every world that meets T0 -/
theorem wpAnyG_firstP {i b : Nat} {oi : Oper} {v : Value} {T T0 : World → Prop} (hib : i ≠ b) (hi : ops[i]? = some oi) (hsel : ∀ (j : Nat) (o : Oper) cs b, ops[j]? = some o → o.op ≠ .select cs b)
    (hQ : ∀ c a w, Q (.panic c) (a.put oi.dst v) w → Q (.panic c) a w) :
    ∀ (fuel : Nat) (listed : Array Bool) (a : Act) (w : World),
      (∀ j oj, ops[j]? = some oj → j ≠ i → listed.getD j true = false → (∀ e ∈ oj.after, Region.binds md e = true → e.on ≠ i) → oi.apart ops oj = true) →
      i ∈ Region.ready md ops listed → YieldsIf P ops T0 oi v a → SB b T T0 listed w →
      wpAnyG P md ops Q (SB b T T0) fuel (listed.setIfInBounds i true) (a.put oi.dst v) w → wpAnyG P md ops Q (SB b T T0) (fuel + 1) listed a w := by
  intro fuel
  induction fuel with
  | zero =>
    intro listed a w _ hr hy hS H
    refine ⟨fun h => (by rw [h] at hr; cases hr), fun j hj => ?_⟩
    by_cases hji : j = i
    · subst hji; exact hy.wpOp hi hS.2 ⟨(SB.set hib).2 hS, H⟩
    · have := ready_mono hj hji
      rw [H.1] at this
      cases this
  | succ fuel ih =>
    intro listed a w hfree hr hy hS H
    refine ⟨fun h => (by rw [h] at hr; cases hr), fun j hj => ?_⟩
    by_cases hji : j = i
    · subst hji; exact hy.wpOp hi hS.2 ⟨(SB.set hib).2 hS, H⟩
    · have h1 := H.2 j (ready_mono hj hji)
      obtain ⟨hjun, oj, hoj, hall⟩ := mem_ready.1 hj
      have hnot : ∀ e ∈ oj.after, Region.binds md e = true → e.on ≠ i := fun e he hbd heq => by
        have h1 := hall e he hbd
        have h0 := (mem_ready.1 hr).1
        rw [heq] at h1
        rcases Nat.lt_or_ge i listed.size with h' | h'
        · simp [h'] at h0 h1; rw [h0] at h1; cases h1
        · simp [Array.getElem?_eq_none h'] at h1
      have h2 := wpOp_putIf hoj (hfree j oj hoj hji hjun hnot) (fun cs b => hsel i oi cs b hi) (fun cs b => hsel j oj cs b hoj) hQ hy h1
      have hfree' : ∀ k ok, ops[k]? = some ok → k ≠ i → (listed.setIfInBounds j true).getD k true = false →
          (∀ e ∈ ok.after, Region.binds md e = true → e.on ≠ i) → oi.apart ops ok = true := fun k ok hk hki hun hno => by
        refine hfree k ok hk hki ?_ hno
        by_cases hjk : j = k
        · subst hjk; exact hjun
        · rw [getD_set_ne true hjk] at hun; exact hun
      refine wpOp_mono (fun a' w' h3 => ?_) h2
      have hSS : SB b T T0 (listed.setIfInBounds j true) w' := by
        have h4 := h3.2.1
        rw [Array.setIfInBounds_comm _ _ (Ne.symm hji)] at h4
        exact (SB.set hib).1 h4
      refine ⟨hSS, ih (listed.setIfInBounds j true) a' w' hfree' (ready_mono hr (Ne.symm hji)) h3.1 hSS ?_⟩
      rw [Array.setIfInBounds_comm _ _ hji]
      exact h3.2.2
theorem wpAnyG_takeP {i b : Nat} {oi : Oper} {v : Value} {T T0 : World → Prop} {fuel : Nat} {listed : Array Bool} {a : Act} {w : World} (hi : ops[i]? = some oi)
    (hs : Region.noSelect ops = true) (hf : Region.free md ops listed i = true) (hr : (Region.ready md ops listed).contains i = true)
    (hQ : ∀ c a w, Q (.panic c) (a.put oi.dst v) w → Q (.panic c) a w) (hne : (i != b) = true)
    (hy : YieldsIf P ops T0 oi v a) (hS : SB b T T0 listed w)
    (h : SB b T T0 (listed.setIfInBounds i true) w → wpAnyG P md ops Q (SB b T T0) fuel (listed.setIfInBounds i true) (a.put oi.dst v) w) : wpAnyG P md ops Q (SB b T T0) (fuel + 1) listed a w :=
  wpAnyG_firstP (by simpa using hne) hi (Region.noSelect_spec hs) hQ fuel listed a w (Region.free_spec hi hf) (by simpa using hr) hy hS (h ((SB.set (by simpa using hne)).2 hS))
theorem SB.on {b : Nat} {T T0 : World → Prop} {L : Array Bool} {w : World} (h1 : T w) (h2 : T0 w) : SB b T T0 L w := ⟨fun _ => h1, h2⟩
theorem SB.off {b : Nat} {T T0 : World → Prop} {L : Array Bool} {w : World} (hL : L.getD b true = true) (h : T0 w) : SB b T T0 L w := ⟨(fun h' => by rw [hL] at h'; cases h'), h⟩
end
end Go.Proofs.YtncagdfbgpdhfaaGreat
