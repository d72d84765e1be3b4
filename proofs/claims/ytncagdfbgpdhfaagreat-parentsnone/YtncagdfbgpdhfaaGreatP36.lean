import Derived.Test.YtncagdfbgpdhfaaGreatP34
import Derived.Test.YtncagdfbgpdhfaaGreatP35
/- A history of the laws of layer 12 in memory, while it is made (made by mkcorn.py out of layer 11's). -/
namespace Go.Proofs.YtncagdfbgpdhfaaGreat
open Go.RowKit Go.Maps

/-- what a history of the laws of layer 12 has -/
structure St12 where
  os : List Ob
  ids : List Int
  nodes : List (Int × List Int × Bool)
structure Ok12 (st : St12) : Prop where
  pure : Pure st.os
  good : ∀ o ∈ st.os, obErr o = 0
  rng : ∀ i ∈ st.ids, i ≠ 0 ∧ 0 ≤ i ∧ i ≤ 18446744073709551615
  npar : ∀ n ∈ st.nodes, 0 ≤ n.1 ∧ n.1 ≤ 18446744073709551615 ∧ n.2.1.length ≤ 8 ∧ ∀ x ∈ n.2.1, 0 ≤ x ∧ x ≤ 18446744073709551615
theorem quad_cells {W : World} {n : Nat} {a b c d : Value} {t : TypeId} (h : W.heap[n]? = some (.cells #[a, b, c, d] t)) : W.cell? ⟨n, 0, none⟩ = some a ∧ W.cell? ⟨n, 1, none⟩ = some b ∧ W.cell? ⟨n, 2, none⟩ = some c ∧ W.cell? ⟨n, 3, none⟩ = some d := by
  simp [World.cell?, h]
theorem tri_cells {W : World} {n : Nat} {a b c : Value} {t : TypeId} (h : W.heap[n]? = some (.cells #[a, b, c] t)) : W.cell? ⟨n, 0, none⟩ = some a ∧ W.cell? ⟨n, 1, none⟩ = some b ∧ W.cell? ⟨n, 2, none⟩ = some c := by
  simp [World.cell?, h]
theorem tri_frozen {W : World} {n : Nat} {a b c : Value} {t : TypeId} (h : W.heap[n]? = some (.cells #[a, b, c] t)) (j : Nat) : W.frozen? ⟨n, j, none⟩ = false := by
  simp [World.frozen?, h]
/-- the blocks of a history of the laws -/
def Ow12 (hb : Nat) (nv iv : Value) (X F G : Nat → Prop) : Nat → Prop := fun k => k = hb ∨ nv.ownBlock = some k ∨ iv.ownBlock = some k ∨ False ∨ X k ∨ F k ∨ G k
structure In12 (w wr : World) (hb s d : Nat) (st : St12) (S : DG) (F G X : Nat → Prop) (nv iv : Value) (ns : List Nd) : Prop where
  sg : StG wr s d st.os S F G
  c0 : wr.cell? ⟨hb, 0, none⟩ = some (.pointer (some ⟨s, 0, none⟩))
  c1 : wr.cell? ⟨hb, 1, none⟩ = some nv
  c2 : wr.cell? ⟨hb, 2, none⟩ = some iv
  fz : ∀ j, wr.frozen? ⟨hb, j, none⟩ = false
  nr : wr.ownsRow w.heap.size 85 3 nv ns.length (ndCells ns)
  nn : ns.map Nd.told = st.nodes
  np : ∀ x ∈ ns, HI X wr x.pa x.pn x.ps ∧ x.pn ≤ x.pc
  ir : wr.ownsRow w.heap.size 31 1 iv st.ids.length (st.ids.map (Value.int .u64))
  an : ∀ g, nv.ownBlock = some g → g ≠ hb ∧ iv.ownBlock ≠ some g ∧ True
  ai : ∀ g, iv.ownBlock = some g → g ≠ hb ∧ True
  xa : ∀ k, X k → k < wr.heap.size ∧ w.heap.size ≤ k ∧ k ≠ hb ∧ nv.ownBlock ≠ some k ∧ iv.ownBlock ≠ some k ∧ True
  hg : w.heap.size ≤ hb
  fg : ∀ k, F k ∨ G k → w.heap.size ≤ k ∧ k ≠ hb ∧ nv.ownBlock ≠ some k ∧ iv.ownBlock ≠ some k ∧ True ∧ ¬ X k
  B : Below w.heap.size w wr
  ok : Ok12 st
theorem In12.olt {w wr : World} {hb s d : Nat} {st : St12} {S : DG} {F G X : Nat → Prop} {nv iv : Value} {ns : List Nd} (I : In12 w wr hb s d st S F G X nv iv ns) (k : Nat) (hk : Ow12 hb nv iv X F G k) : k < wr.heap.size ∧ w.heap.size ≤ k := by
  rcases hk with rfl | hk | hk | hk | hk | hk | hk
  · exact ⟨World.block_lt_of_cell? wr _ I.c0, I.hg⟩
  · exact ⟨(I.nr.lt k hk).2, (I.nr.lt k hk).1⟩
  · exact ⟨(I.ir.lt k hk).2, (I.ir.lt k hk).1⟩
  · exact hk.elim
  · exact ⟨(I.xa k hk).1, (I.xa k hk).2.1⟩
  · exact ⟨I.sg.st.lt k hk, (I.fg k (.inl hk)).1⟩
  · exact ⟨I.sg.dk.lt k hk, (I.fg k (.inr hk)).1⟩
theorem In12.turn {w wr wr' : World} {hb s d : Nat} {st : St12} {S : DG} {F G X Q : Nat → Prop} {nv iv : Value} {ns : List Nd} (I : In12 w wr hb s d st S F G X nv iv ns) (hT : Turn Q wr wr') (hQ : ∀ k, Ow12 hb nv iv X F G k → ¬ Q k) (hB : Below w.heap.size w wr') : In12 w wr' hb s d st S F G X nv iv ns := by
  have hk : ∀ k, Ow12 hb nv iv X F G k → wr'.heap[k]? = wr.heap[k]? := fun k hk => hT.block k (I.olt k hk).1 (hQ k hk)
  have kh := hk hb (.inl rfl)
  exact
  { I with
    sg := I.sg.turn hT (fun k h => hQ k (h.elim (fun h => .inr (.inr (.inr (.inr (.inr (.inl h)))))) (fun h => .inr (.inr (.inr (.inr (.inr (.inr h))))))))
    c0 := by rw [World.cell?_of_block (by exact kh)]; exact I.c0
    c1 := by rw [World.cell?_of_block (by exact kh)]; exact I.c1
    c2 := by rw [World.cell?_of_block (by exact kh)]; exact I.c2
    fz := fun j => by rw [World.frozen?_of_block (by exact kh)]; exact I.fz j
    nr := row_moved I.nr fun g hg => hk g (.inr (.inl hg))
    np := fun x hx => ⟨(I.np x hx).1.kept fun k hX => hk k (.inr (.inr (.inr (.inr (.inl hX))))), (I.np x hx).2⟩
    ir := row_moved I.ir fun g hg => hk g (.inr (.inr (.inl hg)))
    xa := fun k hX => ⟨Nat.lt_of_lt_of_le (I.xa k hX).1 hT.size, (I.xa k hX).2⟩
    B := hB }
theorem In12.below {w wr wr' : World} {hb s d : Nat} {st : St12} {S : DG} {F G X : Nat → Prop} {nv iv : Value} {ns : List Nd} (I : In12 w wr hb s d st S F G X nv iv ns) (hB : Below wr.heap.size wr wr') : In12 w wr' hb s d st S F G X nv iv ns :=
  I.turn (Turn.of_below (fun _ => False) hB) (fun _ _ => id) (I.B.trans (hB.mono I.B.size))
structure Rd12 (w : World) (hb s d : Nat) (st : St12) (S : DG) (F G X : Nat → Prop) (nv iv : Value) (ns : List Nd) (B8 B9 : Nat) (ba : Option Addr) (bn bc : Nat) (b : BornD) (wx : World) (tv : Int) (pv : Value) (ps : List Int) : Prop where
  I : In12 w wx hb s d st S F G X nv iv ns
  b8 : wx.heap[B8]? = some (.cells #[.slice ba bn bc, .int .i64 b.date, .bool b.blob, .bool b.lost] 71)
  b9 : wx.heap[B9]? = some (.cells #[.int .u64 tv, pv, .string ⟨#[]⟩, .int .i64 b.date, .string ⟨#[]⟩] 78)
  row : wx.ownsRow w.heap.size 31 1 pv ps.length (ps.map (Value.int .u64))
  n8 : ¬ Ow12 hb nv iv X F G B8
  n9 : ¬ Ow12 hb nv iv X F G B9
  n89 : B8 ≠ B9
  pn : ∀ g, pv.ownBlock = some g → ¬ Ow12 hb nv iv X F G g ∧ g ≠ B8 ∧ g ≠ B9
  g8 : w.heap.size ≤ B8
  g9 : w.heap.size ≤ B9
theorem Rd12.new {w wr : World} {hb s d : Nat} {st : St12} {S : DG} {F G X : Nat → Prop} {nv iv : Value} {ns : List Nd} (I : In12 w wr hb s d st S F G X nv iv ns) (ba : Option Addr) (bn bc : Nat) (b : BornD) (tv : Int) :
    Rd12 w hb s d st S F G X nv iv ns wr.heap.size (wr.heap.size + 1) ba bn bc b ((wr.alloc (.cells #[.slice ba bn bc, .int .i64 b.date, .bool b.blob, .bool b.lost] 71)).alloc (.cells #[.int .u64 tv, .slice none 0 0, .string ⟨#[]⟩, .int .i64 b.date, .string ⟨#[]⟩] 78)) tv (.slice none 0 0) [] := by
  have hB := I.B.size
  exact
  { I := I.below (((Below.refl _ wr).alloc (Nat.le_refl _) _).alloc (by simp) _)
    b8 := by rw [Below.heap_alloc _ _ _ (by simp)]; exact World.alloc_heap_new _ _
    b9 := by
      have := World.alloc_heap_new (wr.alloc (.cells #[.slice ba bn bc, .int .i64 b.date, .bool b.blob, .bool b.lost] 71)) (.cells #[.int .u64 tv, .slice none 0 0, .string ⟨#[]⟩, .int .i64 b.date, .string ⟨#[]⟩] 78)
      rw [World.size_alloc] at this
      exact this
    row := World.ownsRow_nil _ _ _ _
    n8 := fun h => by have := (I.olt _ h).1; omega
    n9 := fun h => by have := (I.olt _ h).1; omega
    n89 := by omega
    pn := fun g hg => by cases hg
    g8 := hB
    g9 := by omega }
/-- a parent more -/
theorem Rd12.app {w : World} {hb s d : Nat} {st : St12} {S : DG} {F G X : Nat → Prop} {nv iv : Value} {ns : List Nd} {B8 B9 : Nat} {ba : Option Addr} {bn bc : Nat} {b : BornD} {wx : World} {tv : Int} {pv : Value} {ps : List Int} (R : Rd12 w hb s d st S F G X nv iv ns B8 B9 ba bn bc b wx tv pv ps) (x : Int) {w3 : World} (v' : Value)
    (hrow : w3.ownsRow w.heap.size 31 1 v' (ps.length + 1) (ps.map (Value.int .u64) ++ [.int .u64 x])) (hT : Turn (fun k => pv.ownBlock = some k) wx w3) (hv : ∀ g, v'.ownBlock = some g → pv.ownBlock = some g ∨ wx.heap.size ≤ g) :
    Rd12 w hb s d st S F G X nv iv ns B8 B9 ba bn bc b (w3.setCell ⟨B9, 1, none⟩ v') tv v' (ps ++ [x]) := by
  have h8 := lt_of_block R.b8
  have h9 := lt_of_block R.b9
  have k9 : w3.heap[B9]? = wx.heap[B9]? := hT.block B9 h9 (fun e => (R.pn B9 e).2.2 rfl)
  have hset : ∀ k, k ≠ B9 → (w3.setCell ⟨B9, 1, none⟩ v').heap[k]? = w3.heap[k]? := fun k hk => Below.heap_setCell _ _ _ _ (by exact hk)
  have hTw : Turn (fun k => pv.ownBlock = some k ∨ k = B9) wx (w3.setCell ⟨B9, 1, none⟩ v') := ⟨hT.os, hT.tape, hT.output, by rw [World.size_setCell]; exact hT.size, fun k hk hn => (hset k (fun e => hn (.inr e))).trans (hT.block k hk (fun e => hn (.inl e)))⟩
  have hBw : Below w.heap.size w (w3.setCell ⟨B9, 1, none⟩ v') := R.I.B.trans (hTw.below R.I.B.size (fun k hk => by
    rcases hk with h | h
    · exact (R.row.lt k h).1
    · rw [h]; exact R.g9))
  exact
  { I := R.I.turn hTw (fun k hk h => by
      rcases h with h | h
      · exact (R.pn k h).1 hk
      · rw [h] at hk; exact R.n9 hk) hBw
    b8 := by rw [hset B8 R.n89, hT.block B8 h8 (fun e => (R.pn B8 e).2.1 rfl)]; exact R.b8
    b9 := by
      have h1 := k9.trans R.b9
      exact heap_setCell_same w3 B9 1 #[.int .u64 tv, pv, .string ⟨#[]⟩, .int .i64 b.date, .string ⟨#[]⟩] 78 v' h1
    row := by
      have e : (ps ++ [x]).length = ps.length + 1 := by simp
      rw [e, List.map_append]
      refine row_moved hrow fun g hg => hset g (fun e => ?_)
      rcases hv g hg with h | h
      · exact (R.pn g h).2.2 e
      · omega
    n8 := R.n8
    n9 := R.n9
    n89 := R.n89
    pn := fun g hg => by
      rcases hv g hg with h | h
      · exact R.pn g h
      · exact ⟨fun h' => by have := (R.I.olt g h').1; omega, by omega, by omega⟩
    g8 := R.g8
    g9 := R.g9 }
theorem Rd12.below {w : World} {hb s d : Nat} {st : St12} {S : DG} {F G X : Nat → Prop} {nv iv : Value} {ns : List Nd} {B8 B9 : Nat} {ba : Option Addr} {bn bc : Nat} {b : BornD} {wx w' : World} {tv : Int} {pv : Value} {ps : List Int} (R : Rd12 w hb s d st S F G X nv iv ns B8 B9 ba bn bc b wx tv pv ps) (hB : Below wx.heap.size wx w') :
    Rd12 w hb s d st S F G X nv iv ns B8 B9 ba bn bc b w' tv pv ps :=
  { R with
    I := R.I.below hB
    b8 := (hB.block _ (lt_of_block R.b8)).trans R.b8
    b9 := (hB.block _ (lt_of_block R.b9)).trans R.b9
    row := row_moved R.row fun g hg => hB.block g (R.row.lt g hg).2 }
theorem Rd12.put {w : World} {hb s d : Nat} {st : St12} {S S' : DG} {F G X F' G' : Nat → Prop} {nv iv : Value} {ns : List Nd} {B8 B9 : Nat} {ba : Option Addr} {bn bc : Nat} {b : BornD} {wx w' : World} {tv : Int} {pv : Value} {ps : List Int} (R : Rd12 w hb s d st S F G X nv iv ns B8 B9 ba bn bc b wx tv pv ps) (os' : List Ob) (hT : Turn (fun k => F k ∨ G k) wx w') (hS : StG w' s d os' S' F' G') (hF : ∀ k, F' k → F k ∨ wx.heap.size ≤ k) (hG : ∀ k, G' k → G k ∨ wx.heap.size ≤ k) (hp : Pure os') (hg : ∀ o ∈ os', obErr o = 0) :
    Rd12 w hb s d ⟨os', st.ids, st.nodes⟩ S' F' G' X nv iv ns B8 B9 ba bn bc b w' tv pv ps := by
  have I := R.I
  have hFG : ∀ k, F' k ∨ G' k → (F k ∨ G k) ∨ wx.heap.size ≤ k := fun k h => h.elim (fun h => (hF k h).imp .inl id) (fun h => (hG k h).imp .inr id)
  have hown : ∀ k, k < wx.heap.size → Ow12 hb nv iv X F' G' k → Ow12 hb nv iv X F G k := fun k hk h => by
    rcases h with h | h | h | h | h | h | h
    · exact .inl h
    · exact .inr (.inl h)
    · exact .inr (.inr (.inl h))
    · exact .inr (.inr (.inr (.inl h)))
    · exact .inr (.inr (.inr (.inr (.inl h))))
    · exact .inr (.inr (.inr (.inr (.inr (.inl ((hF k h).resolve_right (by omega)))))))
    · exact .inr (.inr (.inr (.inr (.inr (.inr ((hG k h).resolve_right (by omega)))))))
  have hnot : ∀ k, k < wx.heap.size → ¬ (F k ∨ G k) → w'.heap[k]? = wx.heap[k]? := fun k hk h => hT.block k hk h
  have h8 := lt_of_block R.b8
  have h9 := lt_of_block R.b9
  have hsz := hT.size
  have kh : w'.heap[hb]? = wx.heap[hb]? := hnot hb (I.olt hb (.inl rfl)).1 (fun h => (I.fg hb h).2.1 rfl)
  have hB : Below w.heap.size w w' := I.B.trans (hT.below I.B.size (fun k hk => (I.fg k hk).1))
  have fo : ∀ {k}, F k ∨ G k → Ow12 hb nv iv X F G k := fun h => h.elim (fun h => .inr (.inr (.inr (.inr (.inr (.inl h)))))) (fun h => .inr (.inr (.inr (.inr (.inr (.inr h))))))
  exact
  { I :=
      { sg := hS
        c0 := by rw [World.cell?_of_block (by exact kh)]; exact I.c0
        c1 := by rw [World.cell?_of_block (by exact kh)]; exact I.c1
        c2 := by rw [World.cell?_of_block (by exact kh)]; exact I.c2
        fz := fun j => by rw [World.frozen?_of_block (by exact kh)]; exact I.fz j
        nr := row_moved I.nr fun g hg => hnot g (I.nr.lt g hg).2 (fun h => (I.fg g h).2.2.1 hg)
        nn := I.nn
        np := fun x hx => ⟨(I.np x hx).1.kept fun k hX => hnot k (I.xa k hX).1 (fun h => (I.fg k h).2.2.2.2.2 hX), (I.np x hx).2⟩
        ir := row_moved I.ir fun g hg => hnot g (I.ir.lt g hg).2 (fun h => (I.fg g h).2.2.2.1 hg)
        an := I.an
        ai := I.ai
        xa := fun k hX => ⟨Nat.lt_of_lt_of_le (I.xa k hX).1 hsz, (I.xa k hX).2⟩
        hg := I.hg
        fg := fun k hk => by
          rcases hFG k hk with h | h
          · exact I.fg k h
          · have hb1 := I.B.size
            refine ⟨by omega, fun e => ?_, fun e => ?_, fun e => ?_, trivial, fun e => ?_⟩
            · have := (I.olt hb (.inl rfl)).1; omega
            · have := (I.nr.lt k e).2; omega
            · have := (I.ir.lt k e).2; omega
            · have := (I.xa k e).1; omega
        B := hB
        ok := ⟨hp, hg, I.ok.rng, I.ok.npar⟩ }
    b8 := (hnot B8 h8 (fun h => R.n8 (fo h))).trans R.b8
    b9 := (hnot B9 h9 (fun h => R.n9 (fo h))).trans R.b9
    row := row_moved R.row fun g hg => hnot g (R.row.lt g hg).2 (fun h => (R.pn g hg).1 (fo h))
    n8 := fun h => R.n8 (hown _ h8 h)
    n9 := fun h => R.n9 (hown _ h9 h)
    n89 := R.n89
    pn := fun g hg => ⟨fun h => (R.pn g hg).1 (hown _ (R.row.lt g hg).2 h), (R.pn g hg).2⟩
    g8 := R.g8
    g9 := R.g9 }

/-- what is left of a round behind the nodes -/
structure Bk12 (w : World) (hb s d : Nat) (st : St12) (S : DG) (F G X : Nat → Prop) (nv iv : Value) (ns : List Nd) (B8 : Nat) (ba : Option Addr) (bn bc : Nat) (b : BornD) (wx : World) : Prop where
  I : In12 w wx hb s d st S F G X nv iv ns
  b8 : wx.heap[B8]? = some (.cells #[.slice ba bn bc, .int .i64 b.date, .bool b.blob, .bool b.lost] 71)
  n8 : ¬ Ow12 hb nv iv X F G B8
theorem Rd12.to8 {w : World} {hb s d : Nat} {st : St12} {S : DG} {F G X : Nat → Prop} {nv iv : Value} {ns : List Nd} {B8 B9 : Nat} {ba : Option Addr} {bn bc : Nat} {b : BornD} {wx : World} {tv : Int} {pv : Value} {ps : List Int} (R : Rd12 w hb s d st S F G X nv iv ns B8 B9 ba bn bc b wx tv pv ps) : Bk12 w hb s d st S F G X nv iv ns B8 ba bn bc b wx := ⟨R.I, R.b8, R.n8⟩
/-- a node more -/
theorem Rd12.node {w : World} {hb s d : Nat} {st : St12} {S : DG} {F G X : Nat → Prop} {nv iv : Value} {ns : List Nd} {B8 B9 : Nat} {ba : Option Addr} {bn bc : Nat} {b : BornD} {wx : World} {tv : Int} {pa : Option Addr} {pc : Nat} {ps : List Int} (R : Rd12 w hb s d st S F G X nv iv ns B8 B9 ba bn bc b wx tv (.slice pa ps.length pc) ps) (id : Int) (hid : 0 ≤ id ∧ id ≤ 18446744073709551615) (hpl : ps.length ≤ 8) (hpr : ∀ x ∈ ps, 0 ≤ x ∧ x ≤ 18446744073709551615) {w3 : World} (v' : Value)
    (hrow : w3.ownsRow w.heap.size 85 3 v' (ns.length + 1) (ndCells ns ++ ndCells [⟨id, pa, ps.length, pc, b.blob, ps⟩])) (hT : Turn (fun k => nv.ownBlock = some k) wx w3) (hv : ∀ g, v'.ownBlock = some g → nv.ownBlock = some g ∨ wx.heap.size ≤ g) :
    Bk12 w hb s d ⟨st.os, st.ids, st.nodes ++ [(id, ps, b.blob)]⟩ S F G (fun k => X k ∨ (Value.slice pa ps.length pc).ownBlock = some k) v' iv (ns ++ [⟨id, pa, ps.length, pc, b.blob, ps⟩]) B8 ba bn bc b (w3.setCell ⟨hb, 1, none⟩ v') := by
  have I := R.I
  have h8 := lt_of_block R.b8
  have hhl := (I.olt hb (.inl rfl)).1
  have hset : ∀ k, k ≠ hb → (w3.setCell ⟨hb, 1, none⟩ v').heap[k]? = w3.heap[k]? := fun k hk => Below.heap_setCell _ _ _ _ (by exact hk)
  have hold : ∀ k, k < wx.heap.size → k ≠ hb → nv.ownBlock ≠ some k → (w3.setCell ⟨hb, 1, none⟩ v').heap[k]? = wx.heap[k]? := fun k hk h1 h2 => (hset k h1).trans (hT.block k hk h2)
  have hTw : Turn (fun k => nv.ownBlock = some k ∨ k = hb) wx (w3.setCell ⟨hb, 1, none⟩ v') := ⟨hT.os, hT.tape, hT.output, by rw [World.size_setCell]; exact hT.size, fun k hk hn => hold k hk (fun e => hn (.inr e)) (fun e => hn (.inl e))⟩
  have hBw : Below w.heap.size w (w3.setCell ⟨hb, 1, none⟩ v') := I.B.trans (hTw.below I.B.size (fun k hk => by
    rcases hk with h | h
    · exact (I.nr.lt k h).1
    · rw [h]; exact I.hg))
  have k3 : w3.heap[hb]? = wx.heap[hb]? := hT.block hb hhl (fun e => (I.an hb e).1 rfl)
  have cs : ∀ i, w3.cell? ⟨hb, i, none⟩ = wx.cell? ⟨hb, i, none⟩ := fun i => World.cell?_of_block (by exact k3)
  have hpown : ∀ g, (Value.slice pa ps.length pc).ownBlock = some g → g < wx.heap.size ∧ w.heap.size ≤ g ∧ g ≠ hb ∧ nv.ownBlock ≠ some g ∧ iv.ownBlock ≠ some g ∧ True := fun g hg => by
    have h1 := (R.pn g hg).1
    exact ⟨(R.row.lt g hg).2, (R.row.lt g hg).1, fun e => h1 (.inl e), fun e => h1 (.inr (.inl e)), fun e => h1 (.inr (.inr (.inl e))), trivial⟩
  have hnew : ∀ g, v'.ownBlock = some g → g ≠ hb ∧ iv.ownBlock ≠ some g ∧ True := fun g hg => by
    rcases hv g hg with h | h
    · exact I.an g h
    · exact ⟨by omega, fun e => by have := (I.ir.lt g e).2; omega, trivial⟩
  have hkX : ∀ k, (X k ∨ (Value.slice pa ps.length pc).ownBlock = some k) → k < wx.heap.size ∧ w.heap.size ≤ k ∧ k ≠ hb ∧ nv.ownBlock ≠ some k ∧ iv.ownBlock ≠ some k ∧ True := fun k hk => hk.elim (fun h => I.xa k h) (hpown k)
  refine ⟨
    { sg := I.sg.turn hTw (fun k hk h => by
        have := I.fg k hk
        rcases h with h | h
        · exact this.2.2.1 h
        · exact this.2.1 h)
      c0 := by rw [World.cell?_setCell_other _ _ _ _ (by simp), cs]; exact I.c0
      c1 := World.cell?_setCell_same _ _ _ ((cs 1).trans I.c1)
      c2 := by rw [World.cell?_setCell_other _ _ _ _ (by simp), cs]; exact I.c2
      fz := fun j => by rw [World.frozen?_setCell, World.frozen?_of_block (by exact k3)]; exact I.fz j
      nr := by
        have e : (ns ++ [(⟨id, pa, ps.length, pc, b.blob, ps⟩ : Nd)]).length = ns.length + 1 := by simp
        rw [e, ndCells_append]
        exact row_moved hrow fun g hg => hset g (hnew g hg).1
      nn := by rw [List.map_append, I.nn]; rfl
      np := fun x hx => by
        rcases List.mem_append.1 hx with hx | hx
        · exact ⟨((I.np x hx).1.kept fun k hX => hold k (I.xa k hX).1 (I.xa k hX).2.2.1 (I.xa k hX).2.2.2.1).wide fun k hX => .inl hX, (I.np x hx).2⟩
        · simp at hx
          subst hx
          obtain ⟨_, _, e0, hc, _⟩ := row_shapeN R.row
          cases e0
          refine ⟨fun W hW => ?_, hc⟩
          have hr : W.ownsRow w.heap.size 31 1 (.slice pa ps.length pc) ps.length (ps.map (Value.int .u64)) := row_moved R.row fun g hg => (hW g (.inr hg)).trans (hold g (hpown g hg).1 (hpown g hg).2.2.1 (hpown g hg).2.2.2.1)
          obtain ⟨a2, c2, e2, hI⟩ := own_ids hr
          cases e2
          exact hI
      ir := row_moved I.ir fun g hg => hold g (I.ir.lt g hg).2 (I.ai g hg).1 (fun e => (I.an g e).2.1 hg)
      an := hnew
      ai := I.ai
      xa := fun k hk => by
        have h1 := hkX k hk
        refine ⟨by rw [World.size_setCell]; have := hT.size; omega, h1.2.1, h1.2.2.1, fun e => ?_, h1.2.2.2.2⟩
        rcases hv k e with h | h
        · exact h1.2.2.2.1 h
        · omega
      hg := I.hg
      fg := fun k hk => by
        have h1 := I.fg k hk
        have hkl : k < wx.heap.size := hk.elim (I.sg.st.lt k) (I.sg.dk.lt k)
        refine ⟨h1.1, h1.2.1, fun e => ?_, h1.2.2.2.1, h1.2.2.2.2.1, fun e => ?_⟩
        · rcases hv k e with h | h
          · exact h1.2.2.1 h
          · omega
        · rcases e with e | e
          · exact h1.2.2.2.2.2 e
          · exact (R.pn k e).1 (hk.elim (fun h => .inr (.inr (.inr (.inr (.inr (.inl h)))))) (fun h => .inr (.inr (.inr (.inr (.inr (.inr h)))))))
      B := hBw
      ok := ⟨I.ok.pure, I.ok.good, I.ok.rng, fun n hn => by
        rcases List.mem_append.1 hn with hn | hn
        · exact I.ok.npar n hn
        · simp at hn
          subst hn
          exact ⟨hid.1, hid.2, hpl, hpr⟩⟩ }, ?_, ?_⟩
  · rw [hold B8 h8 (fun e => R.n8 (.inl e)) (fun e => R.n8 (.inr (.inl e)))]; exact R.b8
  · intro h
    rcases h with h | h | h | h | h | h | h
    · exact R.n8 (.inl h)
    · exact (hv B8 h).elim (fun h => R.n8 (.inr (.inl h))) (fun h => by omega)
    · exact R.n8 (.inr (.inr (.inl h)))
    · exact R.n8 (.inr (.inr (.inr (.inl h))))
    · rcases h with h | h
      · exact R.n8 (.inr (.inr (.inr (.inr (.inl h)))))
      · exact (R.pn B8 h).2.1 rfl
    · exact R.n8 (.inr (.inr (.inr (.inr (.inr (.inl h))))))
    · exact R.n8 (.inr (.inr (.inr (.inr (.inr (.inr h))))))
/-- an id more -/
theorem Bk12.fin {w : World} {hb s d : Nat} {st : St12} {S : DG} {F G X : Nat → Prop} {nv iv : Value} {ns : List Nd} {B8 : Nat} {ba : Option Addr} {bn bc : Nat} {b : BornD} {wx : World} (R : Bk12 w hb s d st S F G X nv iv ns B8 ba bn bc b wx) (id : Int) (hid : id ≠ 0 ∧ 0 ≤ id ∧ id ≤ 18446744073709551615) {w4 : World} (iv' : Value)
    (hi : w4.ownsRow w.heap.size 31 1 iv' (st.ids.length + 1) (st.ids.map (Value.int .u64) ++ [.int .u64 id])) (hT4 : Turn (fun k => iv.ownBlock = some k) wx w4) (hvi : ∀ g, iv'.ownBlock = some g → iv.ownBlock = some g ∨ wx.heap.size ≤ g) :
    In12 w (w4.setCell ⟨hb, 2, none⟩ iv') hb s d ⟨st.os, st.ids ++ [id], st.nodes⟩ S F G X nv iv' ns := by
  have I := R.I
  have hhl := (I.olt hb (.inl rfl)).1
  have hs4 := hT4.size
  have hset : ∀ k, k ≠ hb → (w4.setCell ⟨hb, 2, none⟩ iv').heap[k]? = w4.heap[k]? := fun k hk => Below.heap_setCell _ _ _ _ (by exact hk)
  have hold : ∀ k, k < wx.heap.size → k ≠ hb → iv.ownBlock ≠ some k → (w4.setCell ⟨hb, 2, none⟩ iv').heap[k]? = wx.heap[k]? := fun k hk h0 h1 => (hset k h0).trans (hT4.block k hk h1)
  have hTw : Turn (fun k => iv.ownBlock = some k ∨ k = hb) wx (w4.setCell ⟨hb, 2, none⟩ iv') := ⟨hT4.os, hT4.tape, hT4.output, by rw [World.size_setCell]; exact hs4, fun k hk hn => hold k hk (fun e => hn (.inr e)) (fun e => hn (.inl e))⟩
  have hBw : Below w.heap.size w (w4.setCell ⟨hb, 2, none⟩ iv') := I.B.trans (hTw.below I.B.size (fun k hk => by
    rcases hk with h | h
    · exact (I.ir.lt k h).1
    · rw [h]; exact I.hg))
  have k4 : w4.heap[hb]? = wx.heap[hb]? := hT4.block hb hhl (fun e => (I.ai hb e).1 rfl)
  have cs : ∀ i, w4.cell? ⟨hb, i, none⟩ = wx.cell? ⟨hb, i, none⟩ := fun i => World.cell?_of_block (by exact k4)
  have hni : ∀ g, iv'.ownBlock = some g → g ≠ hb := fun g hg => by
    rcases hvi g hg with h | h
    · exact (I.ai g h).1
    · omega
  have ot : ∀ k, k < wx.heap.size → iv.ownBlock ≠ some k → iv'.ownBlock ≠ some k := fun k hk h1 e => (hvi k e).elim h1 (fun h => by omega)
  exact
  { sg := I.sg.turn hTw (fun k hk h => by
      have := I.fg k hk
      rcases h with h | h
      · exact this.2.2.2.1 h
      · exact this.2.1 h)
    c0 := by rw [World.cell?_setCell_other _ _ _ _ (by simp), cs]; exact I.c0
    c1 := by rw [World.cell?_setCell_other _ _ _ _ (by simp), cs]; exact I.c1
    c2 := World.cell?_setCell_same _ _ _ ((cs 2).trans I.c2)
    fz := fun j => by rw [World.frozen?_setCell, World.frozen?_of_block (by exact k4)]; exact I.fz j
    nr := row_moved I.nr fun g hg => hold g (I.nr.lt g hg).2 (I.an g hg).1 (I.an g hg).2.1
    nn := I.nn
    np := fun x hx => ⟨(I.np x hx).1.kept fun k hX => hold k (I.xa k hX).1 (I.xa k hX).2.2.1 (I.xa k hX).2.2.2.2.1, (I.np x hx).2⟩
    ir := by
      have e : (st.ids ++ [id]).length = st.ids.length + 1 := by simp
      simp only [e, List.map_append]
      exact row_moved hi fun g hg => hset g (hni g hg)
    an := fun g hg => ⟨(I.an g hg).1, ot g (I.nr.lt g hg).2 (I.an g hg).2.1, trivial⟩
    ai := fun g hg => ⟨hni g hg, trivial⟩
    xa := fun k hk => by
      have h1 := I.xa k hk
      exact ⟨by rw [World.size_setCell]; omega, h1.2.1, h1.2.2.1, h1.2.2.2.1, ot k h1.1 h1.2.2.2.2.1, trivial⟩
    hg := I.hg
    fg := fun k hk => by
      have h1 := I.fg k hk
      have hkl : k < wx.heap.size := hk.elim (I.sg.st.lt k) (I.sg.dk.lt k)
      exact ⟨h1.1, h1.2.1, h1.2.2.1, ot k hkl h1.2.2.2.1, trivial, h1.2.2.2.2.2⟩
    B := hBw
    ok := ⟨I.ok.pure, I.ok.good, fun i hi => by
      rcases List.mem_append.1 hi with hi | hi
      · exact I.ok.rng i hi
      · simp at hi
        subst hi
        exact hid, I.ok.npar⟩ }
end Go.Proofs.YtncagdfbgpdhfaaGreat
