import Derived.Test.YtggnglgehobglaaGreatDoorP41
import Derived.Test.YtggnglgehobglaaGreatDoorP43
import Derived.Test.YtggnglgehobglaaGreatDoorP45
/- Read: what stands between two lines. -/
namespace Go.Proofs.YtggnglgehobglaaGreatDoor
open Go.RowKit Go.Shelf Go.Maps

attribute [local go_sem] Oper.semAt_some

/-- the next line -/
theorem next_lineU {s : ByteArray} {pre : List (Ln s)} {x : Ln s} (h : ∃ rest, (pre ++ [x]).map Ln.at ++ rest = nums 0 (linesL (bs s))) : (linesL (bs s))[pre.length]? = some (bs x.1.2) := by
  obtain ⟨rest, h⟩ := h
  have e : (nums 0 (linesL (bs s)))[pre.length]? = some x.at := by
    rw [← h, List.map_append, List.append_assoc, List.getElem?_append_right (by simp)]
    simp
  rw [nums_get, Nat.zero_add] at e
  cases hl : (linesL (bs s))[pre.length]? with
  | none => rw [hl] at e; cases e
  | some l =>
    rw [hl] at e
    have e2 := Option.some.inj e
    unfold Ln.at at e2
    rw [show l = bs x.1.2 from congrArg Prod.snd e2]
theorem all_lines {s : ByteArray} {xs : List (Ln s)} (h : xs.map Ln.at = nums 0 (linesL (bs s))) : (linesL (bs s)).length = xs.length := by
  have := congrArg List.length h
  rw [List.length_map, nums_len] at this
  exact this.symm

/-- how far the reading has come -/
structure Gh (s : ByteArray) (k : Nat) (rs : List Ru) (b : Nat) : Prop where
  eq : readG (linesL (bs s)) [] 0 = readG ((linesL (bs s)).drop k) rs b
  len : rs.length ≤ 64
  place : b = (backL ((linesL (bs s)).take k)).length
theorem Gh.start (s : ByteArray) : Gh s 0 [] 0 := ⟨rfl, by simp, rfl⟩
theorem backL_take (ls : List (List UInt8)) (k : Nat) : (backL (ls.take k)).length ≤ (backL ls).length := by
  conv => rhs; rw [← List.take_append_drop k ls]
  unfold backL
  rw [List.flatMap_append, List.length_append]; omega
theorem Gh.small {s : ByteArray} {k : Nat} {rs : List Ru} {b : Nat} (h : Gh s k rs b) : b ≤ s.size + 1 := by
  have h1 := backL_take (linesL (bs s)) k
  have h2 := back_len (bs s)
  rw [bs_len] at h2
  rw [h.place]; omega
theorem drop_next {ls : List (List UInt8)} {k : Nat} {l : List UInt8} (h : ls[k]? = some l) : ls.drop k = l :: ls.drop (k + 1) := by
  obtain ⟨hk, e⟩ := List.getElem?_eq_some_iff.1 h
  rw [← e]; exact List.drop_eq_getElem_cons hk
theorem back_next {ls : List (List UInt8)} {k : Nat} {l : List UInt8} (h : ls[k]? = some l) : (backL (ls.take (k + 1))).length = (backL (ls.take k)).length + l.length + 1 := by
  obtain ⟨hk, e⟩ := List.getElem?_eq_some_iff.1 h
  rw [List.take_succ_eq_append_getElem hk, backL_snoc, e]
  simp; omega
theorem Gh.quiet {s : ByteArray} {k : Nat} {rs : List Ru} {b : Nat} {l : List UInt8} (h : Gh s k rs b) (hl : (linesL (bs s))[k]? = some l) (hg : lineG l = .ok none) : Gh s (k + 1) rs (b + l.length + 1) := by
  refine ⟨?_, h.len, by rw [back_next hl, ← h.place]⟩
  rw [h.eq, drop_next hl, readG, hg]
theorem Gh.rule {s : ByteArray} {k : Nat} {rs : List Ru} {b : Nat} {l : List UInt8} {r : Ru} (h : Gh s k rs b) (hl : (linesL (bs s))[k]? = some l) (hg : lineG l = .ok (some r)) (hn : rs.length ≠ 64) : Gh s (k + 1) (rs ++ [r]) (b + l.length + 1) := by
  have := h.len
  refine ⟨?_, by rw [List.length_append, List.length_singleton]; omega, by rw [back_next hl, ← h.place]⟩
  rw [h.eq, drop_next hl, readG, hg]
  show (if rs.length = 64 then _ else _) = _
  rw [if_neg hn]
theorem Gh.wrong {s : ByteArray} {k : Nat} {rs : List Ru} {b e p : Nat} {l : List UInt8} (h : Gh s k rs b) (hl : (linesL (bs s))[k]? = some l) (hg : lineG l = .error (e, p)) : readG (linesL (bs s)) [] 0 = .error (e, b + p) := by
  rw [h.eq, drop_next hl, readG, hg]
theorem Gh.full {s : ByteArray} {k : Nat} {rs : List Ru} {b : Nat} {l : List UInt8} {r : Ru} (h : Gh s k rs b) (hl : (linesL (bs s))[k]? = some l) (hg : lineG l = .ok (some r)) (hn : rs.length = 64) : readG (linesL (bs s)) [] 0 = .error (3, b) := by
  rw [h.eq, drop_next hl, readG, hg]
  show (if rs.length = 64 then _ else _) = _
  rw [if_pos hn]
theorem Gh.done {s : ByteArray} {k : Nat} {rs : List Ru} {b : Nat} (h : Gh s k rs b) (hk : (linesL (bs s)).length = k) : readG (linesL (bs s)) [] 0 = .ok rs := by
  rw [h.eq, List.drop_eq_nil_of_le (by omega)]; rfl

/-- what lies in memory -/
structure RdM (w : World) (s : ByteArray) (rs : List Ru) (b : Nat) (v : Value) (W : World) : Prop where
  res : Boxed W w.heap.size 34 (.slice none 0 0)
  spot : Box2 W (w.heap.size + 1) (.int .i64 0) (.int .i64 0)
  rul : Boxed W (w.heap.size + 2) 34 v
  beg : Boxed W (w.heap.size + 3) 3 (.int .i64 (b : Int))
  txt : Boxed W (w.heap.size + 4) 9 (.string s)
  row : W.ownsRow (w.heap.size + 5) 31 3 v rs.length (ruCells rs)
  bel : Below w.heap.size w W
theorem RdM.lt {w : World} {s : ByteArray} {rs : List Ru} {b : Nat} {v : Value} {W : World} (h : RdM w s rs b v W) : w.heap.size + 5 ≤ W.heap.size := by have := h.txt.lt; omega
theorem RdM.below {w : World} {s : ByteArray} {rs : List Ru} {b : Nat} {v : Value} {W W' : World} (h : RdM w s rs b v W) (hB : Below W.heap.size W W') : RdM w s rs b v W' := by
  have hlt := h.lt
  refine ⟨(hB.block _ (by omega)).trans h.res, (hB.block _ (by omega)).trans h.spot, (hB.block _ (by omega)).trans h.rul, (hB.block _ (by omega)).trans h.beg, (hB.block _ (by omega)).trans h.txt, row_movedR h.row (fun r hr => hB.block r (row_blockR h.row r hr).2.1), h.bel.trans (hB.mono (by omega))⟩
theorem RdM.alloc {w : World} {s : ByteArray} {rs : List Ru} {b : Nat} {v : Value} {W : World} (h : RdM w s rs b v W) (o : Obj) : RdM w s rs b v (W.alloc o) := h.below ((Below.refl _ W).alloc (Nat.le_refl _) o)
theorem RdM.keep {w : World} {s : ByteArray} {rs : List Ru} {b : Nat} {v : Value} {W Y : World} {row : Option Nat} {b0 : Nat} (h : RdM w s rs b v W) (hb0 : w.heap.size ≤ b0) (hg : W.grownBy Y row) (hr : ∀ r, row = some r → b0 ≤ r ∧ ∃ o : Obj, W.heap[r]? = some o ∧ o.isCells = false) : RdM w s rs b v Y := by
  refine ⟨boxed_keep h.res hg hr, box2_keep h.spot hg hr, boxed_keep h.rul hg hr, boxed_keep h.beg hg hr, boxed_keep h.txt hg hr, row_movedR h.row (fun r hr' => hg.block r (row_blockR h.row r hr').2.1 (fun e => ?_)), below_keep h.bel (Nat.le_refl _) hb0 hg hr⟩
  obtain ⟨_, o, ho, hc⟩ := hr r e.symm
  obtain ⟨_, _, cur, hcur⟩ := row_blockR h.row r hr'
  rw [hcur] at ho
  cases ho; cases hc
/-- between two rounds -/
def RdI (w : World) (s : ByteArray) (pre : List (Ln s)) (W : World) : Prop := ∃ rs b v, RdM w s rs b v W ∧ Gh s pre.length rs b
theorem rdI_own (w : World) (s : ByteArray) (b0 : Nat) (h0 : w.heap.size ≤ b0) : OwnFrom b0 (RdI w s) := fun _ _ _ _ ⟨rs, b, v, h, hG⟩ hg hr => ⟨rs, b, v, h.keep h0 hg hr, hG⟩
/-- left in a round -/
structure RdX (w : World) (s : ByteArray) (c : Code) (e p : Nat) (W : World) : Prop where
  c : c = .ret
  res : Boxed W w.heap.size 34 (.slice none 0 0)
  spot : Box2 W (w.heap.size + 1) (.int .i64 (e : Int)) (.int .i64 (p : Int))
  said : readG (linesL (bs s)) [] 0 = .error (e, p)
  bel : Below w.heap.size w W
def RdXI (w : World) (s : ByteArray) (c : Code) (_ : List (Ln s)) (W : World) : Prop := ∃ e p, RdX w s c e p W
theorem rdX_own (w : World) (s : ByteArray) (b0 : Nat) (h0 : w.heap.size ≤ b0) (c : Code) : OwnFrom b0 (RdXI w s c) := fun _ _ _ _ ⟨e, p, h⟩ hg hr => ⟨e, p, h.c, boxed_keep h.res hg hr, box2_keep h.spot hg hr, h.said, below_keep h.bel (Nat.le_refl _) h0 hg hr⟩

theorem RdM.step {w : World} {s : ByteArray} {rs : List Ru} {b : Nat} {v : Value} {W : World} (h : RdM w s rs b v W) (b' : Nat) (u : Int) (hu : u = (b' : Int)) : RdM w s rs b' v (W.setCell ⟨w.heap.size + 3, 0, none⟩ (.int .i64 u)) := by
  subst hu
  refine ⟨h.res.other (by omega) _, h.spot.other (by omega) _, h.rul.other (by omega) _, h.beg.set _, h.txt.other (by omega) _, row_movedR h.row (fun r hr => Below.heap_setCell _ _ _ _ (fun e => ?_)), h.bel.setCell (p := ⟨w.heap.size + 3, 0, none⟩) (by show w.heap.size ≤ w.heap.size + 3; omega) _⟩
  have := (row_blockR h.row r hr).1
  simp only at e; omega
/-- one rule more -/
theorem RdM.push {w : World} {s : ByteArray} {rs : List Ru} {b : Nat} {v v' : Value} {W W' : World} {r : Ru} (h : RdM w s rs b v W) (hg : W.grownBy W' v.ownBlock) (hrow : W'.ownsRow (w.heap.size + 5) 31 3 v' (rs.length + 1) (ruCells rs ++ ruCells [r])) :
    Boxed W' (w.heap.size + 2) 34 v ∧ Boxed W' (w.heap.size + 3) 3 (.int .i64 (b : Int)) ∧ RdM w s (rs ++ [r]) b v' (W'.setCell ⟨w.heap.size + 2, 0, none⟩ v') := by
  have hlt := h.lt
  have hB : Below (w.heap.size + 5) W W' := below_grR h.row hlt hg
  have hr2 : Boxed W' (w.heap.size + 2) 34 v := (hB.block _ (by omega)).trans h.rul
  refine ⟨hr2, (hB.block _ (by omega)).trans h.beg, Boxed.other ((hB.block _ (by omega)).trans h.res) (by omega) _, Box2.other ((hB.block _ (by omega)).trans h.spot) (by omega) _, hr2.set _, Boxed.other ((hB.block _ (by omega)).trans h.beg) (by omega) _, Boxed.other ((hB.block _ (by omega)).trans h.txt) (by omega) _, ?_, (h.bel.trans (hB.mono (by omega))).setCell (p := ⟨w.heap.size + 2, 0, none⟩) (by show w.heap.size ≤ w.heap.size + 2; omega) _⟩
  rw [List.length_append, List.length_singleton, ruCells_append]
  refine row_movedR hrow (fun k hk => Below.heap_setCell _ _ _ _ (fun e => ?_))
  have := (row_blockR hrow k hk).1
  simp only at e; omega
theorem rd_on {w : World} {s : ByteArray} {rs rs' : List Ru} {b b' : Nat} {v v' : Value} {W W' : World} {pre : List (Ln s)} {x : Ln s} {a : Act} (h : RdM w s rs b v W) (h' : RdM w s rs' b' v' W') (hK : KeepsOthers W W') (hG : Gh s (pre.length + 1) rs' b') :
    walkPost (w.heap.size + 4) (RdI w s) (RdXI w s) (pre ++ [x]) W Exit.normal a W' :=
  ⟨hK, h'.txt.trans h.txt.symm, rs', b', v', h', by rw [List.length_append, List.length_singleton]; exact hG⟩
theorem rdx_of {w : World} {s : ByteArray} {W Y : World} (e p : Nat) (b1 : Boxed Y w.heap.size 34 (.slice none 0 0)) (b2 : Box2 Y (w.heap.size + 1) (.int .i64 0) (.int .i64 0)) (b3 : Below w.heap.size w Y) (b4 : KeepsOthers W Y) (hr : readG (linesL (bs s)) [] 0 = .error (e, p)) :
    KeepsOthers W ((Y.setCell ⟨w.heap.size + 1, 0, none⟩ (.int .i64 (e : Int))).setCell ⟨w.heap.size + 1, 1, none⟩ (.int .i64 (p : Int))) ∧ RdX w s .ret e p ((Y.setCell ⟨w.heap.size + 1, 0, none⟩ (.int .i64 (e : Int))).setCell ⟨w.heap.size + 1, 1, none⟩ (.int .i64 (p : Int))) := by
  refine ⟨(b4.trans (KeepsOthers.setCell _ _ _)).trans (KeepsOthers.setCell _ _ _), rfl, (Below.heap_setCell _ _ _ _ (by show w.heap.size ≠ w.heap.size + 1; omega)).trans (b1.other (by omega) _), b2.all _ _, hr, ?_⟩
  exact (b3.setCell (p := ⟨w.heap.size + 1, 0, none⟩) (by show w.heap.size ≤ w.heap.size + 1; omega) _).setCell (p := ⟨w.heap.size + 1, 1, none⟩) (by show w.heap.size ≤ w.heap.size + 1; omega) _
theorem rd_off {w : World} {s : ByteArray} {rs : List Ru} {b : Nat} {v : Value} {W W2 : World} {pre : List (Ln s)} {a : Act} (h : RdM w s rs b v W2) (hK : KeepsOthers W W2) (e p : Nat) (hr : readG (linesL (bs s)) [] 0 = .error (e, p)) :
    walkPost (w.heap.size + 4) (RdI w s) (RdXI w s) pre W Exit.ret a (((W2.setCell ⟨w.heap.size, 0, none⟩ (.slice none 0 0)).setCell ⟨w.heap.size + 1, 0, none⟩ (.int .i64 (e : Int))).setCell ⟨w.heap.size + 1, 1, none⟩ (.int .i64 (p : Int))) := by
  obtain ⟨h1, h2⟩ := rdx_of (s := s) e p (h.res.set (.slice none 0 0)) (h.spot.other (k := w.heap.size) (by omega) _) (h.bel.setCell (p := ⟨w.heap.size, 0, none⟩) (Nat.le_refl _) _) (hK.trans (KeepsOthers.setCell _ _ _)) hr
  exact ⟨h1, e, p, h2⟩
theorem rdx_drew {w : World} {s : ByteArray} {W Y : World} {e p : Nat} {pre : List (Ln s)} {a : Act} (h1 : KeepsOthers W Y) (h2 : RdX w s .ret e p Y) : walkPost (w.heap.size + 4) (RdI w s) (RdXI w s) pre W Exit.ret a Y.drew :=
  ⟨⟨h1.size, h1.same⟩, e, p, h2.c, h2.res, h2.spot, h2.said, below_drewR h2.bel⟩
theorem rd_off_drew {w : World} {s : ByteArray} {rs : List Ru} {b : Nat} {v : Value} {W W2 : World} {pre : List (Ln s)} {a : Act} (h : RdM w s rs b v W2) (hK : KeepsOthers W W2) (e p : Nat) (hr : readG (linesL (bs s)) [] 0 = .error (e, p)) :
    walkPost (w.heap.size + 4) (RdI w s) (RdXI w s) pre W Exit.ret a (((W2.setCell ⟨w.heap.size, 0, none⟩ (.slice none 0 0)).setCell ⟨w.heap.size + 1, 0, none⟩ (.int .i64 (e : Int))).setCell ⟨w.heap.size + 1, 1, none⟩ (.int .i64 (p : Int))).drew := by
  obtain ⟨h1, h2⟩ := rdx_of (s := s) e p (h.res.set (.slice none 0 0)) (h.spot.other (k := w.heap.size) (by omega) _) (h.bel.setCell (p := ⟨w.heap.size, 0, none⟩) (Nat.le_refl _) _) (hK.trans (KeepsOthers.setCell _ _ _)) hr
  exact rdx_drew h1 h2
theorem cell_far {W : World} {b o b' o' : Nat} {v u : Value} (h : W.cell? ⟨b, o, none⟩ = some v) (hn : b ≠ b') : (W.setCell ⟨b', o', none⟩ u).cell? ⟨b, o, none⟩ = some v := by
  rw [World.cell?_setCell_other _ _ _ _ (fun e => by cases e; exact hn rfl)]; exact h
theorem cells_ru_at (W : World) (k : Int) (f t : List UInt8) (g : Nat) (hg : g = W.heap.size) : ∀ (j : Nat) u, (ruCells [(k, f, t)])[j]? = some u → (W.alloc (.cells #[.int .i64 k, .string (mk f), .string (mk t)] 31)).cell? (Addr.add ⟨g, 0, none⟩ j) = some u := by
  subst hg
  exact cells_ru_new W (k, f, t)
/-- what Read answers -/
def RPost (s : ByteArray) (w : World) (e : Ending) (w' : World) : Prop :=
  ((∃ rs v, readT (bs s) = .ok rs ∧ e = .returned (.tuple #[v, .agg #[.int .i64 0, .int .i64 0]]) ∧ w'.ownsRow w.heap.size 31 3 v rs.length (ruCells rs)) ∨
   (∃ er p : Nat, readT (bs s) = .error (er, p) ∧ e = .returned (.tuple #[.slice none 0 0, .agg #[.int .i64 (er : Int), .int .i64 (p : Int)]]))) ∧ Below w.heap.size w w'

theorem rr_ret_d {n : Nat} {f : Func} {W : World} {p q D : Nat} {u v0 v1 : Value} {tmps : Array Value} {P : Ending → World → Prop} (hf : f.results = #[ResultVar.cell 2 34, ResultVar.cell 3 48]) (hb : Boxed W p 34 u) (hs : Box2 W q v0 v1) (ha : tmps[2]?.getD undef = .pointer (some ⟨p, 0, none⟩)) (hc : tmps[3]?.getD undef = .pointer (some ⟨q, 0, none⟩)) (hK : W.heap[D]? = some (.deferred (some []))) (hP : P (.returned (.tuple #[u, .agg #[v0, v1]])) (W.putObj D (.deferred none))) :
    bodyPostM Fence.wide n Tryz.prog f P Exit.ret { tmps := tmps, defers := [{ target := .collected D, args := #[] }] } W := by
  have hs' : Box2 (W.putObj D (.deferred none)) q v0 v1 := box2_own (β := Unit) q (fun _ => v0) (fun _ => v1) () W _ (some D) hs (grownBy_putObj' _ D (.deferred none)) (fun r e => by cases e; exact ⟨_, hK, rfl⟩)
  have hb' : Boxed (W.putObj D (.deferred none)) p 34 u := boxed_own (β := Unit) p 34 (fun _ => u) () W _ (some D) hb (grownBy_putObj' _ D (.deferred none)) (fun r e => by cases e; exact ⟨_, hK, rfl⟩)
  obtain ⟨c0, c1⟩ := hs'.cell
  have d0 := hb'.cell
  refine ⟨by simp, .inl ⟨_, _, rfl, run_takeDeferred hK, ?_⟩⟩
  exact ⟨.tuple #[u, .agg #[v0, v1]], by simp [results, hf, go_sem, ha, hc, c0, c1, d0], hP⟩
theorem rr_ret {W : World} {p q : Nat} {u v0 v1 : Value} {a : Act} {P : Ending → World → Prop} (hb : Boxed W p 34 u) (hs : Box2 W q v0 v1) (ha : a.tmps[2]?.getD undef = .pointer (some ⟨p, 0, none⟩)) (hc : a.tmps[3]?.getD undef = .pointer (some ⟨q, 0, none⟩)) (hd : a.defers = []) (hP : P (.returned (.tuple #[u, .agg #[v0, v1]])) W) : bodyPost Tryz.prog Tryz.f21 P Exit.ret a W := by
  obtain ⟨c0, c1⟩ := hs.cell
  have d0 := hb.cell
  exact bodyPost_ret (v := .tuple #[u, .agg #[v0, v1]]) (by simp [results, Tryz.results21, go_sem, ha, hc, c0, c1, d0]) hd hP
/-- a deferred block that is closed at the end changes nothing else -/
theorem below_closed {w W : World} {D : Nat} (h : Below w.heap.size w W) (hD : w.heap.size ≤ D) (o : Obj) : Below w.heap.size w (W.putObj D o) :=
  h.trans ⟨rfl, rfl, rfl, by simp, fun k hk => World.putObj_heap_other (by omega)⟩
theorem rd_done {w : World} {s : ByteArray} {rs : List Ru} {b cp D : Nat} {ad : Option Addr} {W : World} {tmps : Array Value} {n : Nat} (h : RdM w s rs b (.slice ad rs.length cp) W) (hK : W.heap[D]? = some (.deferred (some []))) (hD : w.heap.size + 5 ≤ D) (hR : readT (bs s) = .ok rs) (ha : tmps[2]?.getD undef = .pointer (some ⟨w.heap.size, 0, none⟩)) (hc : tmps[3]?.getD undef = .pointer (some ⟨w.heap.size + 1, 0, none⟩)) :
    bodyPostM Fence.wide n Tryz.prog Tryz.f21 (RPost s w) Exit.ret { tmps := tmps, defers := [{ target := .collected D, args := #[] }] } (((W.setCell ⟨w.heap.size, 0, none⟩ (.slice ad rs.length cp)).setCell ⟨w.heap.size + 1, 0, none⟩ (.int .i64 0)).setCell ⟨w.heap.size + 1, 1, none⟩ (.int .i64 0)) := by
  have b1 : Boxed (W.setCell ⟨w.heap.size, 0, none⟩ (.slice ad rs.length cp)) w.heap.size 34 (.slice ad rs.length cp) := h.res.set _
  have b2 : Box2 (W.setCell ⟨w.heap.size, 0, none⟩ (.slice ad rs.length cp)) (w.heap.size + 1) (.int .i64 0) (.int .i64 0) := h.spot.other (by omega) _
  have b3 : Below w.heap.size w (W.setCell ⟨w.heap.size, 0, none⟩ (.slice ad rs.length cp)) := h.bel.setCell (p := ⟨w.heap.size, 0, none⟩) (Nat.le_refl _) _
  have b4 : (W.setCell ⟨w.heap.size, 0, none⟩ (.slice ad rs.length cp)).heap[D]? = some (.deferred (some [])) := (Below.heap_setCell _ _ _ _ (by show D ≠ w.heap.size; omega)).trans hK
  have b5 : (W.setCell ⟨w.heap.size, 0, none⟩ (.slice ad rs.length cp)).ownsRow (w.heap.size + 5) 31 3 (.slice ad rs.length cp) rs.length (ruCells rs) := row_movedR h.row (fun k hk => Below.heap_setCell _ _ _ _ (fun e => by have := (row_blockR h.row k hk).1; simp only at e; omega))
  generalize W.setCell ⟨w.heap.size, 0, none⟩ (.slice ad rs.length cp) = Y at *
  have c1 : Boxed ((Y.setCell ⟨w.heap.size + 1, 0, none⟩ (.int .i64 0)).setCell ⟨w.heap.size + 1, 1, none⟩ (.int .i64 0)) w.heap.size 34 (.slice ad rs.length cp) := (Below.heap_setCell _ _ _ _ (by show w.heap.size ≠ w.heap.size + 1; omega)).trans (b1.other (by omega) _)
  have c3 : Below w.heap.size w ((Y.setCell ⟨w.heap.size + 1, 0, none⟩ (.int .i64 0)).setCell ⟨w.heap.size + 1, 1, none⟩ (.int .i64 0)) := (b3.setCell (p := ⟨w.heap.size + 1, 0, none⟩) (by show w.heap.size ≤ w.heap.size + 1; omega) _).setCell (p := ⟨w.heap.size + 1, 1, none⟩) (by show w.heap.size ≤ w.heap.size + 1; omega) _
  have c4 : ((Y.setCell ⟨w.heap.size + 1, 0, none⟩ (.int .i64 0)).setCell ⟨w.heap.size + 1, 1, none⟩ (.int .i64 0)).heap[D]? = some (.deferred (some [])) := (Below.heap_setCell _ _ _ _ (by show D ≠ w.heap.size + 1; omega)).trans ((Below.heap_setCell _ _ _ _ (by show D ≠ w.heap.size + 1; omega)).trans b4)
  have c5 : ((Y.setCell ⟨w.heap.size + 1, 0, none⟩ (.int .i64 0)).setCell ⟨w.heap.size + 1, 1, none⟩ (.int .i64 0)).ownsRow (w.heap.size + 5) 31 3 (.slice ad rs.length cp) rs.length (ruCells rs) := row_movedR (row_movedR b5 (fun k hk => Below.heap_setCell _ _ _ _ (fun e => by have := (row_blockR b5 k hk).1; simp only at e; omega))) (fun k hk => Below.heap_setCell _ _ _ _ (fun e => by have := (row_blockR b5 k hk).1; simp only at e; omega))
  have c2 := b2.all (.int .i64 0) (.int .i64 0)
  generalize (Y.setCell ⟨w.heap.size + 1, 0, none⟩ (.int .i64 0)).setCell ⟨w.heap.size + 1, 1, none⟩ (.int .i64 0) = Z at *
  refine rr_ret_d rfl c1 c2 ha hc c4 ⟨.inl ⟨rs, _, hR, rfl, ?_⟩, below_closed c3 (by omega) _⟩
  refine row_movedR (row_baseR c5 (by omega)) (fun k hk => World.putObj_heap_other (fun e => ?_))
  obtain ⟨_, _, cur, hcur⟩ := row_blockR c5 k hk
  rw [e, c4] at hcur
  cases hcur
theorem rd_stop {w : World} {s : ByteArray} {e p D : Nat} {W : World} {tmps : Array Value} {n : Nat} (h : RdX w s .ret e p W) (hK : W.heap[D]? = some (.deferred (some []))) (hD : w.heap.size + 5 ≤ D) (hR : readT (bs s) = .error (e, p)) (ha : tmps[2]?.getD undef = .pointer (some ⟨w.heap.size, 0, none⟩)) (hc : tmps[3]?.getD undef = .pointer (some ⟨w.heap.size + 1, 0, none⟩)) :
    bodyPostM Fence.wide n Tryz.prog Tryz.f21 (RPost s w) Exit.ret { tmps := tmps, defers := [{ target := .collected D, args := #[] }] } W :=
  rr_ret_d rfl h.res h.spot ha hc hK ⟨.inr ⟨e, p, hR, rfl⟩, below_closed h.bel (by omega) _⟩
end Go.Proofs.YtggnglgehobglaaGreatDoor
