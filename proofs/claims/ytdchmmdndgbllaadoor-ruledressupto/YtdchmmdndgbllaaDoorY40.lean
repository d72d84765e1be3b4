import Derived.Test.YtdchmmdndgbllaaDoorY10
import Derived.Test.YtdchmmdndgbllaaDoorY39
import Derived.Test.YtdchmmdndgbllaaDoorY35
/- Dressing lines: what lies in memory between two of them. -/
namespace Go.Proofs.YtdchmmdndgbllaaDoor
open Go.RowKit Go.Shelf Go.Maps

attribute [local go_sem] Oper.semAt_some

/-- all blocks but one stand as they stood -/
structure Tn (b : Nat) (w w' : World) : Prop where
  os : w'.os = w.os
  tape : w'.tape = w.tape
  output : w'.output = w.output
  size : w.heap.size ≤ w'.heap.size
  block : ∀ k, k < w.heap.size → k ≠ b → w'.heap[k]? = w.heap[k]?
theorem Tn.refl (b : Nat) (w : World) : Tn b w w := ⟨rfl, rfl, rfl, Nat.le_refl _, fun _ _ _ => rfl⟩
theorem Tn.trans {b : Nat} {x y z : World} (h : Tn b x y) (k : Tn b y z) : Tn b x z := ⟨k.os.trans h.os, k.tape.trans h.tape, k.output.trans h.output, Nat.le_trans h.size k.size, fun i hi hn => (k.block i (Nat.lt_of_lt_of_le hi h.size) hn).trans (h.block i hi hn)⟩
theorem Tn.of_below {b : Nat} {w w' : World} (h : Below w.heap.size w w') : Tn b w w' := ⟨h.os, h.tape, h.output, h.size, fun k hk _ => h.block k hk⟩
theorem Tn.set (b : Nat) (w : World) (o : Nat) (v : Value) : Tn b w (w.setCell ⟨b, o, none⟩ v) := ⟨rfl, rfl, rfl, by simp, fun k _ hn => Below.heap_setCell _ _ _ _ hn⟩
theorem Tn.below {b B : Nat} {w w' : World} (h : Tn b w w') (hB : B ≤ w.heap.size) (hb : B ≤ b) : Below B w w' := ⟨h.os, h.tape, h.output, h.size, fun k hk => h.block k (by omega) (by omega)⟩
theorem Tn.cell {b : Nat} {w w' : World} (h : Tn b w w') {p : Addr} {v : Value} (hc : w.cell? p = some v) (hn : p.block ≠ b) : w'.cell? p = some v := by
  rw [World.cell?_of_block (h.block p.block (World.block_lt_of_cell? w _ hc) hn)]
  exact hc
theorem Tn.box {b B : Nat} {w w' : World} {t : TypeId} {v : Value} (h : Tn b w w') (hb : Boxed w B t v) (hn : B ≠ b) : Boxed w' B t v := (h.block B hb.lt hn).trans hb
theorem Tn.others {b : Nat} {w w' : World} (h : Tn b w w') {t : TypeId} {v : Value} (hb : Boxed w b t v) : KeepsOthers w w' := ⟨h.size, fun k o hk ho => by
  by_cases e : k = b
  · subst e
    rw [show w.heap[k]? = _ from hb] at hk
    cases hk; cases ho
  · exact (h.block k (Array.getElem?_eq_some_iff.1 hk).1 e).trans hk⟩

/-- what lies in memory: the remark, how many blanks, the text that is put together, the text that was read -/
structure DrM (bR bN bD bT : Nat) (rk : ByteArray) (bl : Int) (tx : ByteArray) (w3 : World) (d : ByteArray) (W : World) : Prop where
  rem : Boxed W bR 9 (.string rk)
  num : Boxed W bN 3 (.int .i64 bl)
  dre : Boxed W bD 9 (.string d)
  txt : Boxed W bT 9 (.string tx)
  turn : Tn bD w3 W
  ne : bR ≠ bD ∧ bN ≠ bD ∧ bT ≠ bD
section
variable {bR bN bD bT : Nat} {rk : ByteArray} {bl : Int} {tx : ByteArray} {w3 : World} {d : ByteArray} {W W' : World}
theorem DrM.below (h : DrM bR bN bD bT rk bl tx w3 d W) (hB : Below W.heap.size W W') : DrM bR bN bD bT rk bl tx w3 d W' :=
  ⟨(hB.block _ h.rem.lt).trans h.rem, (hB.block _ h.num.lt).trans h.num, (hB.block _ h.dre.lt).trans h.dre, (hB.block _ h.txt.lt).trans h.txt, h.turn.trans (Tn.of_below hB), h.ne⟩
theorem DrM.set (h : DrM bR bN bD bT rk bl tx w3 d W) (d' : ByteArray) : DrM bR bN bD bT rk bl tx w3 d' (W.setCell ⟨bD, 0, none⟩ (.string d')) :=
  ⟨h.rem.other h.ne.1 _, h.num.other h.ne.2.1 _, h.dre.set _, h.txt.other h.ne.2.2 _, h.turn.trans (Tn.set bD W 0 _), h.ne⟩
theorem DrM.keep {row : Option Nat} {b0 : Nat} (hw3 : w3.heap.size ≤ b0) (h : DrM bR bN bD bT rk bl tx w3 d W) (hg : W.grownBy W' row) (hr : ∀ r, row = some r → b0 ≤ r ∧ ∃ o : Obj, W.heap[r]? = some o ∧ o.isCells = false) : DrM bR bN bD bT rk bl tx w3 d W' :=
  ⟨boxed_keep h.rem hg hr, boxed_keep h.num hg hr, boxed_keep h.dre hg hr, boxed_keep h.txt hg hr, ⟨hg.os.trans h.turn.os, hg.tape.trans h.turn.tape, hg.output.trans h.turn.output, Nat.le_trans h.turn.size hg.size, fun k hk hn => (hg.block k (Nat.lt_of_lt_of_le hk h.turn.size) (fun e => by have := (hr k e.symm).1; omega)).trans (h.turn.block k hk hn)⟩, h.ne⟩
end
/-- between two lines -/
def DrI (bR bN bD bT : Nat) (rk : ByteArray) (bl : Int) (tx : ByteArray) (w3 : World) (pre : List (Ln tx)) (W : World) : Prop := ∃ d, DrM bR bN bD bT rk bl tx w3 d W ∧ bs d = drT (blJ bl) (noteL (bs rk)) ((linesL (bs tx)).take pre.length)
theorem drI_own (bR bN bD bT : Nat) (rk : ByteArray) (bl : Int) (tx : ByteArray) (w3 : World) : OwnFrom w3.heap.size (DrI bR bN bD bT rk bl tx w3) := fun _ _ _ _ ⟨d, h, hd⟩ hg hr => ⟨d, h.keep (Nat.le_refl _) hg hr, hd⟩
theorem dfin_m {n D : Nat} {f : Func} {W : World} {v : Value} {tmps : Array Value} {P : Ending → World → Prop} (hK : W.heap[D]? = some (.deferred (some []))) (hr : (results f tmps).run Tryd.prog (W.putObj D (.deferred none)) = .ok v (W.putObj D (.deferred none))) (hP : P (.returned v) (W.putObj D (.deferred none))) :
    bodyPostM Fence.wide n Tryd.prog f P Exit.ret { tmps := tmps, defers := [{ target := .collected D, args := #[] }] } W := ⟨by simp, .inl ⟨_, _, rfl, run_takeDeferred hK, ⟨v, hr, hP⟩⟩⟩
theorem dret_m {n : Nat} {f : Func} {W : World} {v : Value} {tmps : Array Value} {P : Ending → World → Prop} (hr : (results f tmps).run Tryd.prog W = .ok v W) (hP : P (.returned v) W) :
    bodyPostM Fence.wide n Tryd.prog f P Exit.ret { tmps := tmps, defers := [] } W := ⟨v, hr, hP⟩
theorem step_quote {o : Oper} {a : Act} {K : Act → World → Prop} {Q : Exit → Act → World → Prop} {w : World} {R : World → Prop} (x : Nat) (s : ByteArray) (v : Value) (ho : o.op = .call { callee := .value (.func 19), args := #[.tmp x], argTypes := #[9] }) (hx : a.tmps[x]?.getD undef = .string s)
    (hc : Calls Tryd.prog 19 #[.string s] w fun e w' => e = .returned v ∧ R w')
    (h : ∀ w', R w' → K (a.put o.dst v) w') : Oper.wp Tryd.prog o a w K Q := by
  unfold Oper.wp execOp
  simp [ho, resolve, invoke, go_sem, hx]
  refine hc.mono ?_
  rintro e w' ⟨rfl, hB⟩
  have := h w' hB
  simpa [go_sem] using this
theorem note_snoc (rk : List UInt8) (k : Nat) (x : UInt8) (h : rk[k]? = some x) : noteL (rk.take (k + 1)) = noteL (rk.take k) ++ (if x = 10 then [] else [x]) := by
  obtain ⟨hk, rfl⟩ := List.getElem?_eq_some_iff.1 h
  unfold noteL
  rw [List.take_succ_eq_append_getElem hk, List.filter_append]
  by_cases e : rk[k] = 10
  · rw [if_pos e]; simp [e]
  · rw [if_neg e]; simp [e]
theorem note_len (rk : List UInt8) : (noteL rk).length ≤ rk.length := List.length_filter_le _ _
end Go.Proofs.YtdchmmdndgbllaaDoor
