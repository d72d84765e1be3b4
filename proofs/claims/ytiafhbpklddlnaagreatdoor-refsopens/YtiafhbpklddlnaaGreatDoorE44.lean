import Derived.Test.YtiafhbpklddlnaaGreatDoorE36
import Derived.Test.YtiafhbpklddlnaaGreatDoorE37
import Derived.Test.YtiafhbpklddlnaaGreatDoorE41
import Derived.Test.YtiafhbpklddlnaaGreatDoorE43
import Derived.Test.YtiafhbpklddlnaaGreatDoorE38
import Derived.Test.YtiafhbpklddlnaaGreatDoorE29
/- What stands in the law RefsDoes from round to round. -/
namespace Go.Proofs.YtiafhbpklddlnaaGreatDoor
open Go.RowKit Go.Shelf Go.Maps

/-- changes appended to a row of one's own -/
theorem wpList_app2 (w : World) (B : Nat) (hB : B ≤ w.heap.size) {ops : Array Oper} {rest : List Oper} {o : Oper} {a : Act} {Q : Exit → Act → World → Prop} (hgd : o.guard = none) (s x : Operand)
    (ho : o.op = .call { callee := .builtin .append, args := #[s, x], argTypes := #[30, 30] })
    (v : Value) (n : Nat) (k : List Ch) (hs : a.eval s = v) (hown : w.ownsRow B 38 2 v n (chCells k)) (ad : Option Addr) (m c : Nat) (l : List Ch) (hx : a.eval x = .slice ad m c) (hb : Chs w ad m l) (hnil : ad = none → m = 0 ∧ c = 0) (hm : n + m ≤ 1099511627776)
    (h : ∀ v' w', w'.ownsRow B 38 2 v' (n + m) (chCells (k ++ l)) → w.grownBy w' v.ownBlock → wpList Tryz.prog ops Q rest (a.put o.dst v') w') : wpList Tryz.prog ops Q (o :: rest) a w := by
  obtain ⟨i0, hi, hz0, hz1, hz2⟩ := info_parts infoRef
  cases ad with
  | none =>
    obtain ⟨rfl, rfl⟩ := hnil rfl
    have hl : l = [] := List.eq_nil_of_length_eq_zero hb.1
    subst hl
    refine wpList_plain hgd fun K hK => ?_
    have hr := run_append_owned_none (P := Tryz.prog) (w := w) B 30 o.type 38 i0 2 Tryz.underlying30 hi v n _ hown
    unfold Oper.wp execOp
    simp only [ho, resolve, invoke, builtin, Sem.run_bind, Sem.run_pure, Result.andThen_ok, List.map_toArray, List.map_cons, List.map_nil, hs, hx, hr]
    exact hK _ _ (h v w (by rw [List.append_nil]; exact hown) ⟨rfl, rfl, rfl, Nat.le_refl _, fun _ _ _ => rfl⟩)
  | some q =>
    refine wpList_append_own w hgd s x 30 ho B 38 i0 _ 2 24 Tryz.underlying30 hi hz0 hz1 hz2 rfl (by decide) v n _ hs hown q m c (chCells l) hx (by rw [chCells_len, hb.1]) ?_ (chCells_one l) (by unfold maxLen; omega) (by omega) hB fun v' w' h1 h2 _ => h v' w' (by rw [chCells_append]; exact h1) h2
    intro j u hj
    have hl := hb.1
    have hlt := (List.getElem?_eq_some_iff.1 hj).1
    rw [chCells_len] at hlt
    obtain ⟨b, off, e, hc⟩ := hb.2 (by omega)
    cases e
    rw [Addr.add_lit]
    obtain ⟨x, hx⟩ : ∃ x, l[j / 2]? = some x := ⟨_, List.getElem?_eq_getElem (by omega)⟩
    obtain ⟨c1, c2⟩ := hc _ x hx
    obtain ⟨d1, d2⟩ := chCells_get l _ x hx
    rcases Nat.mod_two_eq_zero_or_one j with e | e
    · have ej : j = j / 2 * 2 := by omega
      rw [ej, d1] at hj
      rw [← hj, ej]
      have : j / 2 * 2 / 2 * 2 = j / 2 * 2 := by omega
      rw [this] at *
      exact c1
    · have ej : j = j / 2 * 2 + 1 := by omega
      rw [ej, d2] at hj
      rw [← hj, ej]
      exact c2

structure DInv (w W : World) (r d : Nat) (g : List UInt8 → Int) (n : Nat) (rs : List (List UInt8)) (S : DG) (F G : Nat → Prop) (B : Nat) (wa : Option Addr) (wn wc : Nat) (L : List Ch) (rv : Value) (RB : List UInt8) : Prop where
  rf : RfG W r d g n rs S F G
  nm : NamesR g n
  bel : Below w.heap.size w W
  q : ∀ x, F x ∨ G x → w.heap.size ≤ x
  box : Boxed W B 32 (.slice wa wn wc)
  bq : w.heap.size ≤ B ∧ ¬ (F B ∨ G B) ∧ rv.ownBlock ≠ some B
  want : Chs W wa wn L
  wq : ∀ y, wa = some y → ¬ (F y.block ∨ G y.block) ∧ rv.ownBlock ≠ some y.block ∧ y.block < W.heap.size ∧ y.block ≠ B
  row : W.ownsRow w.heap.size 5 1 rv RB.length (cellsOf RB)
  rq : ∀ y, rv.ownBlock = some y → ¬ (F y ∨ G y)
section
variable {w W W' : World} {r d : Nat} {g : List UInt8 → Int} {n : Nat} {rs : List (List UInt8)} {S : DG} {F G : Nat → Prop} {B : Nat} {wa : Option Addr} {wn wc : Nat} {L : List Ch} {rv : Value} {RB : List UInt8}
theorem DInv.lt (h : DInv w W r d g n rs S F G B wa wn wc L rv RB) (x : Nat) (hx : F x ∨ G x) : x < W.heap.size := by
  obtain ⟨j, b, M, FJ, hr⟩ := h.rf.rf
  exact hx.elim (hr.lt x) (h.rf.dk.lt x)
theorem DInv.below (h : DInv w W r d g n rs S F G B wa wn wc L rv RB) (hB : Below W.heap.size W W') : DInv w W' r d g n rs S F G B wa wn wc L rv RB :=
  { h with
    rf := h.rf.below hB
    bel := h.bel.trans (hB.mono h.bel.size)
    box := (hB.block _ h.box.lt).trans h.box
    want := h.want.kept hB
    wq := fun y hy => ⟨(h.wq y hy).1, (h.wq y hy).2.1, Nat.lt_of_lt_of_le (h.wq y hy).2.2.1 hB.size, (h.wq y hy).2.2.2⟩
    row := ownsRow_move' h.row (fun g hg => hB.block g (h.row.lt g hg).2) }
theorem DInv.set {g' : List UInt8 → Int} {n' : Nat} {rs' : List (List UInt8)} {S' : DG} {F' G' : Nat → Prop} {l : List Ch} {m : Nat} (h : DInv w W r d g n rs S F G B wa wn wc L rv RB) (P : SetG W W' r d g g' n n' rs rs' S S' F G F' G' l m) : DInv w W' r d g' n' rs' S' F' G' B wa wn wc L rv RB := by
  have hsz := P.tn.size
  have hq' : ∀ x, F' x ∨ G' x → (F x ∨ G x) ∨ W.heap.size ≤ x := fun x hx => hx.elim (fun e => (P.hF x e).imp .inl (fun e => e)) (fun e => (P.hG x e).imp .inr (fun e => e))
  have hbs := h.bel.size
  have no : ∀ x, x < W.heap.size → ¬ (F x ∨ G x) → ¬ (F' x ∨ G' x) := fun x h1 h2 e => (hq' x e).elim h2 (fun e => by omega)
  refine ⟨P.rf, P.nm, h.bel.trans (P.tn.below h.bel.size h.q), fun x hx => ?_, (P.tn.block _ h.box.lt h.bq.2.1).trans h.box, ⟨h.bq.1, no _ h.box.lt h.bq.2.1, h.bq.2.2⟩, h.want.turn P.tn (fun y hy => (h.wq y hy).1), fun y hy => ⟨no _ (h.wq y hy).2.2.1 (h.wq y hy).1, (h.wq y hy).2.1, Nat.lt_of_lt_of_le (h.wq y hy).2.2.1 hsz, (h.wq y hy).2.2.2⟩, ownsRow_move' h.row (fun g hg => P.tn.block g (h.row.lt g hg).2 (h.rq g hg)), fun y hy => no _ (h.row.lt y hy).2 (h.rq y hy)⟩
  rcases hq' x hx with e | e
  · exact h.q x e
  · omega
/-- refs of the document that may be stored as those that are wanted -/
def Nxt (F G : Nat → Prop) (B : Nat) (rv : Value) (W : World) (oa : Option Addr) (O : List Ch) : Prop := Chs W oa O.length O ∧ ∀ y, oa = some y → ¬ (F y.block ∨ G y.block) ∧ rv.ownBlock ≠ some y.block ∧ y.block < W.heap.size ∧ y.block ≠ B
theorem DInv.next {oa : Option Addr} {O : List Ch} (h : DInv w W r d g n rs S F G B wa wn wc L rv RB) (hB : Below W.heap.size W W') (hO : Chs W' oa O.length O) (ha : ∀ y, oa = some y → wa = some y ∨ (W.heap.size ≤ y.block ∧ y.block < W'.heap.size)) : Nxt F G B rv W' oa O := by
  refine ⟨hO, fun y hy => ?_⟩
  rcases ha y hy with e | ⟨e1, e2⟩
  · exact (h.below hB).wq y e
  · exact ⟨fun e => by have := h.lt _ e; omega, fun e => by have := (h.row.lt _ e).2; omega, e2, fun e => by have := h.box.lt; omega⟩
theorem Nxt.below {oa : Option Addr} {O : List Ch} (h : Nxt F G B rv W oa O) (hB : Below W.heap.size W W') : Nxt F G B rv W' oa O :=
  ⟨h.1.kept hB, fun y hy => ⟨(h.2 y hy).1, (h.2 y hy).2.1, Nat.lt_of_lt_of_le (h.2 y hy).2.2.1 hB.size, (h.2 y hy).2.2.2⟩⟩
theorem DInv.store {oa : Option Addr} {oc : Nat} {O : List Ch} (h : DInv w W r d g n rs S F G B wa wn wc L rv RB) (hN : Nxt F G B rv W oa O) : DInv w (W.setCell ⟨B, 0, none⟩ (.slice oa O.length oc)) r d g n rs S F G B oa O.length oc O rv RB := by
  have hT : Turn (fun k => k = B) W (W.setCell ⟨B, 0, none⟩ (.slice oa O.length oc)) := turn_setCell W _ 0 _
  exact ⟨h.rf.turn hT (fun k hk e => h.bq.2.1 (e ▸ hk)), h.nm, h.bel.trans (hT.below h.bel.size (fun k hk => hk ▸ h.bq.1)), h.q, h.box.set _, h.bq, hN.1.turn hT (fun y hy => (hN.2 y hy).2.2.2), fun y hy => ⟨(hN.2 y hy).1, (hN.2 y hy).2.1, Nat.lt_of_lt_of_le (hN.2 y hy).2.2.1 hT.size, (hN.2 y hy).2.2.2⟩, ownsRow_move' h.row (fun g hg => hT.block g (h.row.lt g hg).2 (fun e => h.bq.2.2 (e ▸ hg))), h.rq⟩
theorem DInv.push {rv' : Value} {k : Nat} {x : List UInt8} (h : DInv w W r d g n rs S F G B wa wn wc L rv RB) (ho : W'.ownsRow w.heap.size 5 1 rv' k (cellsOf (RB ++ x))) (hk : k = (RB ++ x).length) (hg : W.grownBy W' rv.ownBlock) (hat : rv'.ownBlock = rv.ownBlock ∨ rv'.ownBlock = some W.heap.size) : DInv w W' r d g n rs S F G B wa wn wc L rv' (RB ++ x) := by
  subst hk
  have hT : Turn (fun k => rv.ownBlock = some k) W W' := Turn.of_grownBy hg (fun k e => .inl e)
  have no : ∀ z, z < W.heap.size → rv.ownBlock ≠ some z → rv'.ownBlock ≠ some z := fun z h1 h2 e => by
    rcases hat with e' | e'
    · exact h2 (e'.symm.trans e)
    · rw [e'] at e
      simp at e; omega
  refine ⟨h.rf.turn hT (fun k hk e => h.rq k e hk), h.nm, h.bel.trans (hT.below h.bel.size (fun k hk => (h.row.lt k hk).1)), h.q, (hT.block _ h.box.lt h.bq.2.2).trans h.box, ⟨h.bq.1, h.bq.2.1, no _ h.box.lt h.bq.2.2⟩, h.want.turn hT (fun y hy => (h.wq y hy).2.1), fun y hy => ⟨(h.wq y hy).1, no _ (h.wq y hy).2.2.1 (h.wq y hy).2.1, Nat.lt_of_lt_of_le (h.wq y hy).2.2.1 hT.size, (h.wq y hy).2.2.2⟩, ho, fun y hy e => ?_⟩
  rcases hat with e' | e'
  · exact h.rq y (e'.symm.trans hy) e
  · rw [e'] at hy
    have := h.lt y e
    simp at hy; omega
theorem DInv.open_ {r2 : Nat} {F2 G2 : Nat → Prop} (h : DInv w W r d g n rs S F G B wa wn wc L rv RB) (hR : RfG W' r2 d g n rs S F2 G2) (hT : Turn G W W') (hF : ∀ k, F2 k → W.heap.size ≤ k) (hG : ∀ k, G2 k → G k ∨ W.heap.size ≤ k) : DInv w W' r2 d g n rs S F2 G2 B wa wn wc L rv RB := by
  have hq' : ∀ x, F2 x ∨ G2 x → G x ∨ W.heap.size ≤ x := fun x hx => hx.elim (fun e => .inr (hF x e)) (hG x)
  have no : ∀ x, x < W.heap.size → ¬ (F x ∨ G x) → ¬ (F2 x ∨ G2 x) := fun x h1 h2 e => (hq' x e).elim (fun e => h2 (.inr e)) (fun e => by omega)
  have hbs := h.bel.size
  refine ⟨hR, h.nm, h.bel.trans (hT.below h.bel.size (fun k hk => h.q k (.inr hk))), fun x hx => ?_, (hT.block _ h.box.lt (fun e => h.bq.2.1 (.inr e))).trans h.box, ⟨h.bq.1, no _ h.box.lt h.bq.2.1, h.bq.2.2⟩, h.want.turn hT (fun y hy e => (h.wq y hy).1 (.inr e)), fun y hy => ⟨no _ (h.wq y hy).2.2.1 (h.wq y hy).1, (h.wq y hy).2.1, Nat.lt_of_lt_of_le (h.wq y hy).2.2.1 hT.size, (h.wq y hy).2.2.2⟩, ownsRow_move' h.row (fun g hg => hT.block g (h.row.lt g hg).2 (fun e => h.rq g hg (.inr e))), fun y hy => no _ (h.row.lt y hy).2 (h.rq y hy)⟩
  rcases hq' x hx with e | e
  · exact h.q x (.inr e)
  · omega
end
/-- what a round has laid: the changes, and the same with one more behind them -/
structure Rnd (W0 W : World) (la : Option Addr) (N : Nat) (l : List Ch) (fg : Nat) : Prop where
  lch : Chs W la N l
  fch : Chs W (some ⟨fg, 0, none⟩) (N + 1) (l ++ [(⟨#[126]⟩, 0)])
  lq : ∀ y, la = some y → W0.heap.size ≤ y.block ∧ y.block < W.heap.size
  fq : W0.heap.size ≤ fg ∧ fg < W.heap.size
  sz : W0.heap.size ≤ W.heap.size
theorem Rnd.turn {W0 W W' : World} {la : Option Addr} {N : Nat} {l : List Ch} {fg : Nat} {X : Nat → Prop} (h : Rnd W0 W la N l fg) (hT : Turn X W W') (hX : ∀ k, X k → k < W0.heap.size) : Rnd W0 W' la N l fg :=
  ⟨h.lch.turn hT (fun y hy e => by have := hX _ e; have := (h.lq y hy).1; omega), h.fch.turn hT (fun y hy e => by cases hy; have := hX _ e; have := h.fq.1; simp at *; omega), fun y hy => ⟨(h.lq y hy).1, Nat.lt_of_lt_of_le (h.lq y hy).2 hT.size⟩, ⟨h.fq.1, Nat.lt_of_lt_of_le h.fq.2 hT.size⟩, Nat.le_trans h.sz hT.size⟩
theorem Rnd.below {W0 W W' : World} {la : Option Addr} {N : Nat} {l : List Ch} {fg : Nat} (h : Rnd W0 W la N l fg) (hB : Below W.heap.size W W') : Rnd W0 W' la N l fg := h.turn (Turn.of_below (fun _ => False) hB) (fun _ h => h.elim)
/-- the first of a slice of changes -/
theorem Chs.pre {W : World} {a : Option Addr} {N : Nat} {l k : List Ch} (h : Chs W a (N + 1) (l ++ k)) (hl : l.length = N) : Chs W a N l := by
  refine ⟨hl, fun _ => ?_⟩
  obtain ⟨b, off, e, hc⟩ := h.2 (by omega)
  exact ⟨b, off, e, fun j x hx => hc j x (by rw [List.getElem?_append_left (List.getElem?_eq_some_iff.1 hx).1]; exact hx)⟩
theorem chs_lit (w : World) (x : Ch) : Chs (w.alloc (.cells #[.string x.1, .int .u64 x.2] 38)) (some ⟨w.heap.size, 0, none⟩) 1 [x] := by
  refine ⟨rfl, fun _ => ⟨w.heap.size, 0, rfl, fun j y hy => ?_⟩⟩
  match j, hy with
  | 0, hy =>
    simp at hy; subst hy
    exact ⟨cells_two_new w x 0 _ rfl, cells_two_new w x 1 _ rfl⟩
  | j + 1, hy => simp at hy
theorem row_at {W : World} {B n c : Nat} {ad : Option Addr} {xs : List Value} (h : W.ownsRow B 38 2 (.slice ad n c) n xs) (h0 : 0 < n) : ∃ fg, ad = some ⟨fg, 0, none⟩ ∧ B ≤ fg ∧ fg < W.heap.size := by
  rcases h.2 with ⟨_, e⟩ | ⟨g', cap', cur, e, hb, hg, _⟩
  · omega
  · exact ⟨g', (Value.slice.inj e).1, hb, (Array.getElem?_eq_some_iff.1 hg).1⟩
theorem row_strsR {w : World} {base n c : Nat} {a : Option Addr} {l : List ByteArray} (h : w.ownsRow base 9 1 (.slice a n c) n (l.map Value.string)) : StrsR w a n l := by
  have hl : l.length = n := by have := h.1; simpa using this
  rcases h.2 with ⟨e, rfl⟩ | ⟨g, cap, cur, e, _, hg, hc, _, _, ht⟩
  · exact ⟨hl, fun h0 => absurd h0 (Nat.lt_irrefl _)⟩
  · cases e
    refine ⟨hl, fun _ => ⟨g, 0, rfl, fun j x hx => ?_⟩⟩
    have hj : j < n := by rw [← hl]; exact (List.getElem?_eq_some_iff.1 hx).1
    have e : (cur.toList.take (n * 1))[j]? = some (.string x) := by rw [ht, List.getElem?_map, hx]; rfl
    rw [List.getElem?_take_of_lt (by omega)] at e
    simp only [World.cell?, hg]
    show cur[0 + j]? = _
    rw [Nat.zero_add, ← Array.getElem?_toList]; exact e
theorem row_shapeS {w : World} {B n : Nat} {v : Value} {xs : List Value} (h : w.ownsRow B 9 1 v n xs) : ∃ ad c, v = .slice ad n c := by
  rcases h.2 with ⟨rfl, rfl⟩ | ⟨g, cap, cur, rfl, _⟩
  · exact ⟨none, 0, rfl⟩
  · exact ⟨_, _, rfl⟩
theorem below_grS {W W' : World} {B n : Nat} {v : Value} {xs : List Value} (h : W.ownsRow B 9 1 v n xs) (hB : B ≤ W.heap.size) (hg : W.grownBy W' v.ownBlock) : Below B W W' :=
  ⟨hg.os, hg.tape, hg.output, hg.size, fun k hk => hg.block k (by omega) (fun e => by have := (h.lt k e.symm).1; omega)⟩
theorem cells_oneS (W : World) (t : TypeId) (a : Value) : ∀ (j : Nat) u, [a][j]? = some u → (W.alloc (.cells #[a] t)).cell? (Addr.add ⟨W.heap.size, 0, none⟩ j) = some u := by
  intro j u hj
  match j, hj with
  | 0, hj => simp at hj; subst hj; simp [Addr.add]
/-- what the file of refs tells -/
theorem file_tells {S : DG} {rs : List (List UInt8)} (h : JGd S refNm.data.toList rs) : S.bs refNm.data.toList = fileB rs ∧ S.err refNm.data.toList = if (fileB rs).length = 0 then 4 else 0 := by
  refine ⟨h.get, ?_⟩
  unfold DG.err
  rw [h.bs]
  cases rs with
  | nil => simp [fileB]
  | cons x r =>
    have h2 := (recB_pos x).1
    have e : (fileB (x :: r)).length = (recB x).length + (fileB r).length := by simp [fileB]
    have e1 : (if x :: r = [] then none else some (fileB (x :: r))) = some (fileB (x :: r)) := if_neg (by simp)
    rw [e1, if_neg (show ¬ (fileB (x :: r)).length = 0 by omega)]
    rfl
end Go.Proofs.YtiafhbpklddlnaaGreatDoor

/- Plain: what the document reads of a record is what the program reads. -/
namespace Go.Proofs.YtiafhbpklddlnaaGreatDoor
open Go.RowKit Go.Maps

theorem cnt_all (g : List UInt8 → Int) : ∀ (l : List Ch) (A : List UInt8 → Bool) (c : Int) (q : (List UInt8 → Int) × Nat), errFrom g A l = 0 → CntR q.1 q.2 → (∀ k, A k = false → q.1 k = g k) → (q.2 : Int) = c → ((applyR q l).2 : Int) = cntFrom g c l
  | [], A, c, q, _, _, _, hq => hq
  | x :: r, A, c, q, h, hc, hA, hq => by
    unfold errFrom at h
    by_cases e : chgErr g A x.1 x.2 = 0
    · rw [if_neg (by simpa using e)] at h
      obtain ⟨h1, h2, h3, h4⟩ := chgErr_zero e
      have hg := hA _ h3
      unfold cntFrom
      have := cnt_all g r (addA A (bs x.1)) (c + growR g x.1 x.2) (stepR q x) h (hc.step x) (fun k hk' => by
        simp only [addA, Bool.or_eq_false_iff, beq_eq_false_iff_ne] at hk'
        simp only [stepR, setR, if_neg hk'.1]
        exact hA k hk'.2) (by
        simp only [stepR, growR, hg]
        by_cases h0 : x.2 = 0
        · have := hc.pos (k := bs x.1) (by rw [hg]; exact h4 h0)
          rw [if_pos h0, if_pos h0, if_neg (h4 h0)]
          omega
        · rw [if_neg h0, if_neg h0]
          by_cases hz : g (bs x.1) = 0
          · rw [if_pos hz, if_pos hz]; omega
          · rw [if_neg hz, if_neg hz]; omega)
      simpa [applyR] using this
    · rw [if_pos e] at h; exact absurd h e
/-- changes that are all right but for their number -/
theorem chk_num {g : List UInt8 → Int} {n : Nat} {L : List Ch} (h : AllR g n L) {l : List Ch} (e : errFrom g (fun _ => false) l = 0) : chkR g n l = if 64 < (l.foldl withR L).length then 3 else 0 := by
  unfold chkR
  rw [chkFrom_cnt g l _ _ e]
  have h1 := cnt_all g l _ (n : Int) (g, n) e h.cntr (fun _ _ => rfl) rfl
  have h2 := (fold_all l (g, n) L h).len
  rw [h2]
  by_cases e2 : 64 < (applyR (g, n) l).2
  · rw [if_pos e2, if_pos (by omega)]
  · rw [if_neg e2, if_neg (by omega)]
theorem errFrom_pre (g : List UInt8 → Int) (M : List Ch) : ∀ (l : List Ch) (A : List UInt8 → Bool), errFrom g A l ≠ 0 → errFrom g A (l ++ M) ≠ 0
  | [], A, h => absurd rfl h
  | x :: r, A, h => by
    rw [List.cons_append]
    unfold errFrom at h ⊢
    by_cases e : chgErr g A x.1 x.2 = 0
    · rw [if_neg (not_not_intro e)] at h ⊢
      exact errFrom_pre g M r _ h
    · rw [if_pos e]; exact e
/-- one more change -/
theorem errFrom_snoc (g : List UInt8 → Int) (x : Ch) : ∀ (l : List Ch) (A : List UInt8 → Bool), errFrom g A l = 0 → errFrom g A (l ++ [x]) = chgErr g (fun k => A k || l.any (fun y => k == bs y.1)) x.1 x.2
  | [], A, _ => by
    show (if chgErr g A x.1 x.2 ≠ 0 then _ else _) = _
    have e : (fun k => A k || ([] : List Ch).any (fun y => k == bs y.1)) = A := by funext k; simp
    rw [e]
    by_cases h : chgErr g A x.1 x.2 = 0
    · rw [if_neg (not_not_intro h), h]; rfl
    · rw [if_pos h]
  | y :: r, A, h => by
    rw [List.cons_append]
    unfold errFrom at h ⊢
    by_cases e : chgErr g A y.1 y.2 = 0
    · rw [if_neg (not_not_intro e)] at h ⊢
      rw [errFrom_snoc g x r _ h]
      congr 1
      funext k
      simp only [addA, List.any_cons]
      cases (k == bs y.1) <;> cases A k <;> simp
    · rw [if_pos e] at h; exact absurd h e
/-- one change, as it is read at p -/
def chg1 (l : List UInt8) (p : Nat) : Option (Ch × Nat) := if (wordR l (textR l p 0 200).2.1 (textR l p 0 200).2.2).2.2 = 0 then some (((textR l p 0 200).1, (wordR l (textR l p 0 200).2.1 (textR l p 0 200).2.2).1), (wordR l (textR l p 0 200).2.1 (textR l p 0 200).2.2).2.1) else none
theorem chgsR_some {n : Nat} {l : List UInt8} {p p' : Nat} {acc : List Ch} {x : Ch} (h : chg1 l p = some (x, p')) : chgsR (n + 1) l p 0 acc = chgsR n l p' 0 (acc ++ [x]) := by
  unfold chg1 at h
  split at h
  · rename_i e
    obtain ⟨rfl, rfl⟩ := Prod.mk.inj (Option.some.inj h)
    show (if _ then _ else _) = _
    rw [if_pos e]
  · cases h
theorem chgsR_none {n : Nat} {l : List UInt8} {p : Nat} {acc : List Ch} (h : chg1 l p = none) : (chgsR (n + 1) l p 0 acc).2.2 ≠ 0 := by
  unfold chg1 at h
  split at h
  · cases h
  · rename_i e
    show (if _ then _ else _ : List Ch × Nat × Int).2.2 ≠ 0
    rw [if_neg e]
    exact e
theorem chgsR_pre : ∀ (n : Nat) (l : List UInt8) (p : Nat) (e : Int) (acc : List Ch), ∃ M, (chgsR n l p e acc).1 = acc ++ M
  | 0, _, _, _, acc => ⟨[], (List.append_nil acc).symm⟩
  | n + 1, l, p, e, acc => by
    unfold chgsR
    split
    · obtain ⟨M, h⟩ := chgsR_pre n l _ 0 (acc ++ [((textR l p e 200).1, (wordR l (textR l p e 200).2.1 (textR l p e 200).2.2).1)])
      exact ⟨[((textR l p e 200).1, (wordR l (textR l p e 200).2.1 (textR l p e 200).2.2).1)] ++ M, by rw [h, List.append_assoc]⟩
    · exact ⟨[], (List.append_nil acc).symm⟩
theorem chg1_le {l : List UInt8} {p p' : Nat} {x : Ch} (h : chg1 l p = some (x, p')) : p + 8 ≤ p' ∧ p' ≤ l.length := by
  unfold chg1 at h
  split at h
  · rename_i e
    obtain ⟨_, rfl⟩ := Prod.mk.inj (Option.some.inj h)
    have h1 := textR_le l p 0 200
    obtain ⟨h2, h3⟩ := wordR_le l (textR l p 0 200).2.1 (textR l p 0 200).2.2
    refine ⟨by have := h3 e; omega, ?_⟩
    unfold wordR at e ⊢
    split at e
    · rename_i he; exact absurd e he
    · rename_i he
      split at e
      · simp at e
      · rename_i h8
        rw [if_neg he, if_neg h8]
        simp only
        omega
  · cases h
theorem chgsR_len : ∀ (n : Nat) (l : List UInt8) (p : Nat) (acc : List Ch), p ≤ l.length → (chgsR n l p 0 acc).2.2 = 0 → (chgsR n l p 0 acc).1.length = acc.length + n ∧ p + n ≤ (chgsR n l p 0 acc).2.1 ∧ (chgsR n l p 0 acc).2.1 ≤ l.length
  | 0, l, p, acc, hp, _ => ⟨rfl, Nat.le_refl _, hp⟩
  | n + 1, l, p, acc, hp, h => by
    cases hc : chg1 l p with
    | none => exact absurd h (chgsR_none hc)
    | some y =>
      obtain ⟨x, p'⟩ := y
      obtain ⟨h1, h2⟩ := chg1_le hc
      rw [chgsR_some hc] at h ⊢
      obtain ⟨q1, q2, q3⟩ := chgsR_len n l p' (acc ++ [x]) h2 h
      rw [List.length_append] at q1
      simp at q1
      exact ⟨by omega, by omega, q3⟩
/-- what the document takes of a record -/
def docR (g : List UInt8 → Int) (n : Nat) (b : List UInt8) : Option (List Ch) := match decRf b with
  | none => none
  | some l => if chkR g n l = 0 then some l else none
theorem docR_err {g : List UInt8 → Int} {n : Nat} {b : List UInt8} {acc : List Ch} (hp : ∃ M, (decP b).1 = acc ++ M) (he : errFrom g (fun _ => false) acc ≠ 0) : docR g n b = none := by
  unfold docR decRf
  split
  · rfl
  · rename_i l hl
    split at hl
    · obtain rfl := Option.some.inj hl
      obtain ⟨M, hM⟩ := hp
      have h1 := errFrom_pre g M acc _ he
      rw [← hM] at h1
      rw [if_neg (by rw [set_err h1]; exact h1)]
    · cases hl
theorem docR_none {g : List UInt8 → Int} {n : Nat} {b : List UInt8} (h : decRf b = none) : docR g n b = none := by unfold docR; rw [h]
theorem docR_end {g : List UInt8 → Int} {n : Nat} {b : List UInt8} {acc L : List Ch} {p : Nat} (hA : AllR g n L) (hd : decP b = (acc, p, 0)) (h0 : acc ≠ []) (he : errFrom g (fun _ => false) acc = 0) : docR g n b = if p = b.length ∧ (acc.foldl withR L).length ≤ 64 then some acc else none := by
  unfold docR decRf
  rw [hd]
  simp only [true_and, h0, ne_eq, not_false_eq_true, and_true]
  by_cases hp : p = b.length
  · rw [if_pos hp]
    simp only
    rw [chk_num hA he]
    by_cases h6 : (acc.foldl withR L).length ≤ 64
    · have e1 : (if 64 < (acc.foldl withR L).length then (3 : Int) else 0) = 0 := if_neg (by omega)
      rw [e1, if_pos rfl, if_pos ⟨hp, h6⟩]
    · have e1 : (if 64 < (acc.foldl withR L).length then (3 : Int) else 0) = 3 := if_pos (by omega)
      rw [e1, if_neg (by decide), if_neg (fun h => h6 h.2)]
  · rw [if_neg hp, if_neg (fun h => hp h.1)]
theorem chg1_txt {l : List UInt8} {p : Nat} (ht : (txt (l.drop p) 200).2.2 ≠ 0) : chg1 l p = none := by
  have hx : textR l p 0 200 = (⟨#[]⟩, p, (txt (l.drop p) 200).2.2) := by
    unfold textR
    rw [if_neg (by simp), if_neg ht]
  unfold chg1
  rw [hx]
  simp only
  refine if_neg ?_
  unfold wordR
  rw [if_pos ht]
  exact ht
theorem chg1_bad {l : List UInt8} {p : Nat} (h : (num (l.drop p)).2.2 ≠ 0) : chg1 l p = none := by
  refine chg1_txt ?_
  unfold txt
  rw [if_neg (by decide), if_pos h]
  exact h
theorem chg1_of {l : List UInt8} {p X k : Nat} (hn : num (l.drop p) = ((X : Int), k, 0)) (hk : k ≤ l.length - p) : chg1 l p = if X ≤ 200 ∧ k + X + 8 ≤ l.length - p then some ((⟨((l.drop (p + k)).take X).toArray⟩, wideVal ((l.drop (p + k + X)).take 8) 8), p + k + X + 8) else none := by
  have hl : (l.drop p).length = l.length - p := List.length_drop ..
  by_cases h1 : X ≤ 200
  · by_cases h2 : X ≤ l.length - p - k
    · have ht : txt (l.drop p) 200 = (k, k + X, 0) := by
        unfold txt
        rw [hn]
        simp only [hl]
        rw [if_neg (by decide), if_neg (by simp), if_neg (by omega), if_neg (by omega)]
        simp
      have e : ((l.drop p).take (k + X)).drop k = (l.drop (p + k)).take X := by rw [List.drop_take, List.drop_drop, Nat.add_sub_cancel_left]
      have hx : textR l p 0 200 = (⟨((l.drop (p + k)).take X).toArray⟩, p + (k + X), 0) := by
        unfold textR cutT
        rw [ht]
        simp only [ne_eq, not_true, if_false, if_true, e]
      unfold chg1
      rw [hx]
      simp only
      unfold wordR
      simp only [ne_eq, not_true, if_false]
      by_cases h3 : l.length < p + (k + X) + 8
      · rw [if_pos h3, if_neg (by simp), if_neg (by omega)]
      · rw [if_neg h3, if_pos rfl, if_pos ⟨h1, by omega⟩]
        simp only [Nat.add_assoc]
    · have ht : (txt (l.drop p) 200).2.2 ≠ 0 := by
        unfold txt
        rw [hn]
        simp only [hl]
        rw [if_neg (by decide), if_neg (by simp), if_neg (by omega), if_pos (by omega)]
        simp
      rw [if_neg (by omega), chg1_txt ht]
  · have ht : (txt (l.drop p) 200).2.2 ≠ 0 := by
      unfold txt
      rw [hn]
      simp only [hl]
      rw [if_neg (by decide), if_neg (by simp), if_pos (by omega)]
      simp
    rw [if_neg (by omega), chg1_txt ht]
end Go.Proofs.YtiafhbpklddlnaaGreatDoor
