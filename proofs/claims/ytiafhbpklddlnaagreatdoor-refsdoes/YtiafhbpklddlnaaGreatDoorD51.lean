import Derived.Test.YtiafhbpklddlnaaGreatDoorD41
import Derived.Test.YtiafhbpklddlnaaGreatDoorD43
import Derived.Test.YtiafhbpklddlnaaGreatDoorD48
import Derived.Test.YtiafhbpklddlnaaGreatDoorD50
import Derived.Test.YtiafhbpklddlnaaGreatDoorD38
/- What stands in the law RefsDoes from round to round. -/
namespace Go.Proofs.YtiafhbpklddlnaaGreatDoor
open Go.RowKit Go.Shelf Go.Maps

/-- changes appended to a row of one's own -/
theorem wpList_app2 (w : World) (B : Nat) (hB : B ≤ w.heap.size) {ops : Array Oper} {rest : List Oper} {o : Oper} {a : Act} {Q : Exit → Act → World → Prop} (hgd : o.guard = none) (s x : Operand)
    (ho : o.op = .call { callee := .builtin .append, args := #[s, x], argTypes := #[30, 30] })
    (v : Value) (n : Nat) (k : List Ch) (hs : a.eval s = v) (hown : w.ownsRow B 38 2 v n (chCells k)) (ad : Option Addr) (m c : Nat) (l : List Ch) (hx : a.eval x = .slice ad m c) (hb : Chs w ad m l) (hnil : ad = none → m = 0 ∧ c = 0) (hm : n + m ≤ 1099511627776)
    (h : ∀ v' w', w'.ownsRow B 38 2 v' (n + m) (chCells (k ++ l)) → w.grownBy w' v.ownBlock → wpList Tryz.prog ops Q rest (a.put o.dst v') w') : wpList Tryz.prog ops Q (o :: rest) a w := by
  obtain ⟨i0, hi, hz0, hz1, hz2⟩ := info_parts infoRef
  cases ad with
  | none =>
    obtain ⟨rfl, rfl⟩ := hnil rfl
    have hl : l = [] := List.eq_nil_of_length_eq_zero hb.1
    subst hl
    refine wpList_plain hgd fun K hK => ?_
    have hr := run_append_owned_none (P := Tryz.prog) (w := w) B 30 o.type 38 i0 2 Tryz.underlying30 hi v n _ hown
    unfold Oper.wp execOp
    simp only [ho, resolve, invoke, builtin, Sem.run_bind, Sem.run_pure, Result.andThen_ok, List.map_toArray, List.map_cons, List.map_nil, hs, hx, hr]
    exact hK _ _ (h v w (by rw [List.append_nil]; exact hown) ⟨rfl, rfl, rfl, Nat.le_refl _, fun _ _ _ => rfl⟩)
  | some q =>
    refine wpList_append_own w hgd s x 30 ho B 38 i0 _ 2 24 Tryz.underlying30 hi hz0 hz1 hz2 rfl (by decide) v n _ hs hown q m c (chCells l) hx (by rw [chCells_len, hb.1]) ?_ (chCells_one l) (by unfold maxLen; omega) (by omega) hB fun v' w' h1 h2 _ => h v' w' (by rw [chCells_append]; exact h1) h2
    intro j u hj
    have hl := hb.1
    have hlt := (List.getElem?_eq_some_iff.1 hj).1
    rw [chCells_len] at hlt
    obtain ⟨b, off, e, hc⟩ := hb.2 (by omega)
    cases e
    rw [Addr.add_lit]
    obtain ⟨x, hx⟩ : ∃ x, l[j / 2]? = some x := ⟨_, List.getElem?_eq_getElem (by omega)⟩
    obtain ⟨c1, c2⟩ := hc _ x hx
    obtain ⟨d1, d2⟩ := chCells_get l _ x hx
    rcases Nat.mod_two_eq_zero_or_one j with e | e
    · have ej : j = j / 2 * 2 := by omega
      rw [ej, d1] at hj
      rw [← hj, ej]
      have : j / 2 * 2 / 2 * 2 = j / 2 * 2 := by omega
      rw [this] at *
      exact c1
    · have ej : j = j / 2 * 2 + 1 := by omega
      rw [ej, d2] at hj
      rw [← hj, ej]
      exact c2

structure DInv (w W : World) (r d : Nat) (g : List UInt8 → Int) (n : Nat) (rs : List (List UInt8)) (S : DG) (F G : Nat → Prop) (B : Nat) (wa : Option Addr) (wn wc : Nat) (L : List Ch) (rv : Value) (RB : List UInt8) : Prop where
  rf : RfG W r d g n rs S F G
  nm : NamesR g n
  bel : Below w.heap.size w W
  q : ∀ x, F x ∨ G x → w.heap.size ≤ x
  box : Boxed W B 32 (.slice wa wn wc)
  bq : w.heap.size ≤ B ∧ ¬ (F B ∨ G B) ∧ rv.ownBlock ≠ some B
  want : Chs W wa wn L
  wq : ∀ y, wa = some y → ¬ (F y.block ∨ G y.block) ∧ rv.ownBlock ≠ some y.block ∧ y.block < W.heap.size ∧ y.block ≠ B
  row : W.ownsRow w.heap.size 5 1 rv RB.length (cellsOf RB)
  rq : ∀ y, rv.ownBlock = some y → ¬ (F y ∨ G y)
section
variable {w W W' : World} {r d : Nat} {g : List UInt8 → Int} {n : Nat} {rs : List (List UInt8)} {S : DG} {F G : Nat → Prop} {B : Nat} {wa : Option Addr} {wn wc : Nat} {L : List Ch} {rv : Value} {RB : List UInt8}
theorem DInv.lt (h : DInv w W r d g n rs S F G B wa wn wc L rv RB) (x : Nat) (hx : F x ∨ G x) : x < W.heap.size := by
  obtain ⟨j, b, M, FJ, hr⟩ := h.rf.rf
  exact hx.elim (hr.lt x) (h.rf.dk.lt x)
theorem DInv.below (h : DInv w W r d g n rs S F G B wa wn wc L rv RB) (hB : Below W.heap.size W W') : DInv w W' r d g n rs S F G B wa wn wc L rv RB :=
  { h with
    rf := h.rf.below hB
    bel := h.bel.trans (hB.mono h.bel.size)
    box := (hB.block _ h.box.lt).trans h.box
    want := h.want.kept hB
    wq := fun y hy => ⟨(h.wq y hy).1, (h.wq y hy).2.1, Nat.lt_of_lt_of_le (h.wq y hy).2.2.1 hB.size, (h.wq y hy).2.2.2⟩
    row := ownsRow_move' h.row (fun g hg => hB.block g (h.row.lt g hg).2) }
theorem DInv.set {g' : List UInt8 → Int} {n' : Nat} {rs' : List (List UInt8)} {S' : DG} {F' G' : Nat → Prop} {l : List Ch} {m : Nat} (h : DInv w W r d g n rs S F G B wa wn wc L rv RB) (P : SetG W W' r d g g' n n' rs rs' S S' F G F' G' l m) : DInv w W' r d g' n' rs' S' F' G' B wa wn wc L rv RB := by
  have hsz := P.tn.size
  have hq' : ∀ x, F' x ∨ G' x → (F x ∨ G x) ∨ W.heap.size ≤ x := fun x hx => hx.elim (fun e => (P.hF x e).imp .inl (fun e => e)) (fun e => (P.hG x e).imp .inr (fun e => e))
  have hbs := h.bel.size
  have no : ∀ x, x < W.heap.size → ¬ (F x ∨ G x) → ¬ (F' x ∨ G' x) := fun x h1 h2 e => (hq' x e).elim h2 (fun e => by omega)
  refine ⟨P.rf, P.nm, h.bel.trans (P.tn.below h.bel.size h.q), fun x hx => ?_, (P.tn.block _ h.box.lt h.bq.2.1).trans h.box, ⟨h.bq.1, no _ h.box.lt h.bq.2.1, h.bq.2.2⟩, h.want.turn P.tn (fun y hy => (h.wq y hy).1), fun y hy => ⟨no _ (h.wq y hy).2.2.1 (h.wq y hy).1, (h.wq y hy).2.1, Nat.lt_of_lt_of_le (h.wq y hy).2.2.1 hsz, (h.wq y hy).2.2.2⟩, ownsRow_move' h.row (fun g hg => P.tn.block g (h.row.lt g hg).2 (h.rq g hg)), fun y hy => no _ (h.row.lt y hy).2 (h.rq y hy)⟩
  rcases hq' x hx with e | e
  · exact h.q x e
  · omega
/-- refs of the document that may be stored as those that are wanted -/
def Nxt (F G : Nat → Prop) (B : Nat) (rv : Value) (W : World) (oa : Option Addr) (O : List Ch) : Prop := Chs W oa O.length O ∧ ∀ y, oa = some y → ¬ (F y.block ∨ G y.block) ∧ rv.ownBlock ≠ some y.block ∧ y.block < W.heap.size ∧ y.block ≠ B
theorem DInv.next {oa : Option Addr} {O : List Ch} (h : DInv w W r d g n rs S F G B wa wn wc L rv RB) (hB : Below W.heap.size W W') (hO : Chs W' oa O.length O) (ha : ∀ y, oa = some y → wa = some y ∨ (W.heap.size ≤ y.block ∧ y.block < W'.heap.size)) : Nxt F G B rv W' oa O := by
  refine ⟨hO, fun y hy => ?_⟩
  rcases ha y hy with e | ⟨e1, e2⟩
  · exact (h.below hB).wq y e
  · exact ⟨fun e => by have := h.lt _ e; omega, fun e => by have := (h.row.lt _ e).2; omega, e2, fun e => by have := h.box.lt; omega⟩
theorem Nxt.below {oa : Option Addr} {O : List Ch} (h : Nxt F G B rv W oa O) (hB : Below W.heap.size W W') : Nxt F G B rv W' oa O :=
  ⟨h.1.kept hB, fun y hy => ⟨(h.2 y hy).1, (h.2 y hy).2.1, Nat.lt_of_lt_of_le (h.2 y hy).2.2.1 hB.size, (h.2 y hy).2.2.2⟩⟩
theorem DInv.store {oa : Option Addr} {oc : Nat} {O : List Ch} (h : DInv w W r d g n rs S F G B wa wn wc L rv RB) (hN : Nxt F G B rv W oa O) : DInv w (W.setCell ⟨B, 0, none⟩ (.slice oa O.length oc)) r d g n rs S F G B oa O.length oc O rv RB := by
  have hT : Turn (fun k => k = B) W (W.setCell ⟨B, 0, none⟩ (.slice oa O.length oc)) := turn_setCell W _ 0 _
  exact ⟨h.rf.turn hT (fun k hk e => h.bq.2.1 (e ▸ hk)), h.nm, h.bel.trans (hT.below h.bel.size (fun k hk => hk ▸ h.bq.1)), h.q, h.box.set _, h.bq, hN.1.turn hT (fun y hy => (hN.2 y hy).2.2.2), fun y hy => ⟨(hN.2 y hy).1, (hN.2 y hy).2.1, Nat.lt_of_lt_of_le (hN.2 y hy).2.2.1 hT.size, (hN.2 y hy).2.2.2⟩, ownsRow_move' h.row (fun g hg => hT.block g (h.row.lt g hg).2 (fun e => h.bq.2.2 (e ▸ hg))), h.rq⟩
theorem DInv.push {rv' : Value} {k : Nat} {x : List UInt8} (h : DInv w W r d g n rs S F G B wa wn wc L rv RB) (ho : W'.ownsRow w.heap.size 5 1 rv' k (cellsOf (RB ++ x))) (hk : k = (RB ++ x).length) (hg : W.grownBy W' rv.ownBlock) (hat : rv'.ownBlock = rv.ownBlock ∨ rv'.ownBlock = some W.heap.size) : DInv w W' r d g n rs S F G B wa wn wc L rv' (RB ++ x) := by
  subst hk
  have hT : Turn (fun k => rv.ownBlock = some k) W W' := Turn.of_grownBy hg (fun k e => .inl e)
  have no : ∀ z, z < W.heap.size → rv.ownBlock ≠ some z → rv'.ownBlock ≠ some z := fun z h1 h2 e => by
    rcases hat with e' | e'
    · exact h2 (e'.symm.trans e)
    · rw [e'] at e
      simp at e; omega
  refine ⟨h.rf.turn hT (fun k hk e => h.rq k e hk), h.nm, h.bel.trans (hT.below h.bel.size (fun k hk => (h.row.lt k hk).1)), h.q, (hT.block _ h.box.lt h.bq.2.2).trans h.box, ⟨h.bq.1, h.bq.2.1, no _ h.box.lt h.bq.2.2⟩, h.want.turn hT (fun y hy => (h.wq y hy).2.1), fun y hy => ⟨(h.wq y hy).1, no _ (h.wq y hy).2.2.1 (h.wq y hy).2.1, Nat.lt_of_lt_of_le (h.wq y hy).2.2.1 hT.size, (h.wq y hy).2.2.2⟩, ho, fun y hy e => ?_⟩
  rcases hat with e' | e'
  · exact h.rq y (e'.symm.trans hy) e
  · rw [e'] at hy
    have := h.lt y e
    simp at hy; omega
theorem DInv.open_ {r2 : Nat} {F2 G2 : Nat → Prop} (h : DInv w W r d g n rs S F G B wa wn wc L rv RB) (hR : RfG W' r2 d g n rs S F2 G2) (hT : Turn G W W') (hF : ∀ k, F2 k → W.heap.size ≤ k) (hG : ∀ k, G2 k → G k ∨ W.heap.size ≤ k) : DInv w W' r2 d g n rs S F2 G2 B wa wn wc L rv RB := by
  have hq' : ∀ x, F2 x ∨ G2 x → G x ∨ W.heap.size ≤ x := fun x hx => hx.elim (fun e => .inr (hF x e)) (hG x)
  have no : ∀ x, x < W.heap.size → ¬ (F x ∨ G x) → ¬ (F2 x ∨ G2 x) := fun x h1 h2 e => (hq' x e).elim (fun e => h2 (.inr e)) (fun e => by omega)
  have hbs := h.bel.size
  refine ⟨hR, h.nm, h.bel.trans (hT.below h.bel.size (fun k hk => h.q k (.inr hk))), fun x hx => ?_, (hT.block _ h.box.lt (fun e => h.bq.2.1 (.inr e))).trans h.box, ⟨h.bq.1, no _ h.box.lt h.bq.2.1, h.bq.2.2⟩, h.want.turn hT (fun y hy e => (h.wq y hy).1 (.inr e)), fun y hy => ⟨no _ (h.wq y hy).2.2.1 (h.wq y hy).1, (h.wq y hy).2.1, Nat.lt_of_lt_of_le (h.wq y hy).2.2.1 hT.size, (h.wq y hy).2.2.2⟩, ownsRow_move' h.row (fun g hg => hT.block g (h.row.lt g hg).2 (fun e => h.rq g hg (.inr e))), fun y hy => no _ (h.row.lt y hy).2 (h.rq y hy)⟩
  rcases hq' x hx with e | e
  · exact h.q x (.inr e)
  · omega
end
/-- what a round has laid: the changes, and the same with one more behind them -/
structure Rnd (W0 W : World) (la : Option Addr) (N : Nat) (l : List Ch) (fg : Nat) : Prop where
  lch : Chs W la N l
  fch : Chs W (some ⟨fg, 0, none⟩) (N + 1) (l ++ [(⟨#[126]⟩, 0)])
  lq : ∀ y, la = some y → W0.heap.size ≤ y.block ∧ y.block < W.heap.size
  fq : W0.heap.size ≤ fg ∧ fg < W.heap.size
  sz : W0.heap.size ≤ W.heap.size
theorem Rnd.turn {W0 W W' : World} {la : Option Addr} {N : Nat} {l : List Ch} {fg : Nat} {X : Nat → Prop} (h : Rnd W0 W la N l fg) (hT : Turn X W W') (hX : ∀ k, X k → k < W0.heap.size) : Rnd W0 W' la N l fg :=
  ⟨h.lch.turn hT (fun y hy e => by have := hX _ e; have := (h.lq y hy).1; omega), h.fch.turn hT (fun y hy e => by cases hy; have := hX _ e; have := h.fq.1; simp at *; omega), fun y hy => ⟨(h.lq y hy).1, Nat.lt_of_lt_of_le (h.lq y hy).2 hT.size⟩, ⟨h.fq.1, Nat.lt_of_lt_of_le h.fq.2 hT.size⟩, Nat.le_trans h.sz hT.size⟩
theorem Rnd.below {W0 W W' : World} {la : Option Addr} {N : Nat} {l : List Ch} {fg : Nat} (h : Rnd W0 W la N l fg) (hB : Below W.heap.size W W') : Rnd W0 W' la N l fg := h.turn (Turn.of_below (fun _ => False) hB) (fun _ h => h.elim)
/-- the first of a slice of changes -/
theorem Chs.pre {W : World} {a : Option Addr} {N : Nat} {l k : List Ch} (h : Chs W a (N + 1) (l ++ k)) (hl : l.length = N) : Chs W a N l := by
  refine ⟨hl, fun _ => ?_⟩
  obtain ⟨b, off, e, hc⟩ := h.2 (by omega)
  exact ⟨b, off, e, fun j x hx => hc j x (by rw [List.getElem?_append_left (List.getElem?_eq_some_iff.1 hx).1]; exact hx)⟩
theorem chs_lit (w : World) (x : Ch) : Chs (w.alloc (.cells #[.string x.1, .int .u64 x.2] 38)) (some ⟨w.heap.size, 0, none⟩) 1 [x] := by
  refine ⟨rfl, fun _ => ⟨w.heap.size, 0, rfl, fun j y hy => ?_⟩⟩
  match j, hy with
  | 0, hy =>
    simp at hy; subst hy
    exact ⟨cells_two_new w x 0 _ rfl, cells_two_new w x 1 _ rfl⟩
  | j + 1, hy => simp at hy
theorem row_at {W : World} {B n c : Nat} {ad : Option Addr} {xs : List Value} (h : W.ownsRow B 38 2 (.slice ad n c) n xs) (h0 : 0 < n) : ∃ fg, ad = some ⟨fg, 0, none⟩ ∧ B ≤ fg ∧ fg < W.heap.size := by
  rcases h.2 with ⟨_, e⟩ | ⟨g', cap', cur, e, hb, hg, _⟩
  · omega
  · exact ⟨g', (Value.slice.inj e).1, hb, (Array.getElem?_eq_some_iff.1 hg).1⟩
theorem row_strsR {w : World} {base n c : Nat} {a : Option Addr} {l : List ByteArray} (h : w.ownsRow base 9 1 (.slice a n c) n (l.map Value.string)) : StrsR w a n l := by
  have hl : l.length = n := by have := h.1; simpa using this
  rcases h.2 with ⟨e, rfl⟩ | ⟨g, cap, cur, e, _, hg, hc, _, _, ht⟩
  · exact ⟨hl, fun h0 => absurd h0 (Nat.lt_irrefl _)⟩
  · cases e
    refine ⟨hl, fun _ => ⟨g, 0, rfl, fun j x hx => ?_⟩⟩
    have hj : j < n := by rw [← hl]; exact (List.getElem?_eq_some_iff.1 hx).1
    have e : (cur.toList.take (n * 1))[j]? = some (.string x) := by rw [ht, List.getElem?_map, hx]; rfl
    rw [List.getElem?_take_of_lt (by omega)] at e
    simp only [World.cell?, hg]
    show cur[0 + j]? = _
    rw [Nat.zero_add, ← Array.getElem?_toList]; exact e
theorem row_shapeS {w : World} {B n : Nat} {v : Value} {xs : List Value} (h : w.ownsRow B 9 1 v n xs) : ∃ ad c, v = .slice ad n c := by
  rcases h.2 with ⟨rfl, rfl⟩ | ⟨g, cap, cur, rfl, _⟩
  · exact ⟨none, 0, rfl⟩
  · exact ⟨_, _, rfl⟩
theorem below_grS {W W' : World} {B n : Nat} {v : Value} {xs : List Value} (h : W.ownsRow B 9 1 v n xs) (hB : B ≤ W.heap.size) (hg : W.grownBy W' v.ownBlock) : Below B W W' :=
  ⟨hg.os, hg.tape, hg.output, hg.size, fun k hk => hg.block k (by omega) (fun e => by have := (h.lt k e.symm).1; omega)⟩
theorem cells_oneS (W : World) (t : TypeId) (a : Value) : ∀ (j : Nat) u, [a][j]? = some u → (W.alloc (.cells #[a] t)).cell? (Addr.add ⟨W.heap.size, 0, none⟩ j) = some u := by
  intro j u hj
  match j, hj with
  | 0, hj => simp at hj; subst hj; simp [Addr.add]
/-- what the file of refs tells -/
theorem file_tells {S : DG} {rs : List (List UInt8)} (h : JGd S refNm.data.toList rs) : S.bs refNm.data.toList = fileB rs ∧ S.err refNm.data.toList = if (fileB rs).length = 0 then 4 else 0 := by
  refine ⟨h.get, ?_⟩
  unfold DG.err
  rw [h.bs]
  cases rs with
  | nil => simp [fileB]
  | cons x r =>
    have h2 := (recB_pos x).1
    have e : (fileB (x :: r)).length = (recB x).length + (fileB r).length := by simp [fileB]
    have e1 : (if x :: r = [] then none else some (fileB (x :: r))) = some (fileB (x :: r)) := if_neg (by simp)
    rw [e1, if_neg (show ¬ (fileB (x :: r)).length = 0 by omega)]
    rfl
end Go.Proofs.YtiafhbpklddlnaaGreatDoor

/- The law's own functions: changes cut short. -/
namespace Go.Proofs.YtiafhbpklddlnaaGreatDoor
open Go.RowKit Go.Shelf Go.Maps

attribute [local go_sem] Oper.semAt_some

theorem cutR_len (l : List Ch) : (cutR l).length = min 80 l.length := by simp [cutR]
theorem cutR_take (l : List Ch) (k : Nat) (hk : 80 ≤ k) : cutR (l.take k) = cutR l := by
  unfold cutR
  rw [List.take_take, Nat.min_eq_left hk]
theorem cutR_snoc {l : List Ch} {k : Nat} {x : Ch} (h : l[k]? = some x) (hk : k < 80) : cutR (l.take (k + 1)) = cutR (l.take k) ++ [cutOne x] := by
  unfold cutR
  rw [List.take_take, List.take_take, Nat.min_eq_right (by omega), Nat.min_eq_right (by omega), List.take_add_one, h]
  simp
theorem two_new_at (w : World) (x : Ch) : ∀ j u, (chCells [x])[j]? = some u → ((w.alloc (.cells #[.string x.1, .int .u64 x.2] 38)).alloc (.cells #[.string x.1, .int .u64 x.2] 38)).cell? ((⟨w.heap.size + 1, 0, none⟩ : Addr).add j) = some u := by
  have := cells_two_new (w.alloc (.cells #[.string x.1, .int .u64 x.2] 38)) x
  rw [World.size_alloc] at this
  exact this

set_option maxRecDepth 100000 in
set_option maxHeartbeats 4000000 in
theorem lcut_any (w : World) (a : Option Addr) (m c : Nat) (l : List Ch) (hl : Chs w a m l) (hs : ShortR l) :
    Calls Tryz.prog 8 #[.slice a m c] w fun e w' => ∃ ad cp, e = .returned (.slice ad (cutR l).length cp) ∧ w'.ownsRow w.heap.size 38 2 (.slice ad (cutR l).length cp) (cutR l).length (chCells (cutR l)) ∧ Below w.heap.size w w' := by
  have hll := hl.1
  obtain ⟨i0, hi, hz0, hz1, hz2⟩ := info_parts infoRef
  go_enter Tryz.func8, Tryz.ntmps8
  go_wp2
  go_loopw [3, 8] (fun o i wr => ∃ (k : Nat) (ad : Option Addr) (p cp : Nat), k ≤ m ∧ k ≤ 80 ∧ i = .int .i64 (k : Int) ∧ o = .slice ad p cp ∧ p = k ∧ Hid (wr.ownsRow w.heap.size 38 2 (.slice ad p cp) p (chCells (cutR (l.take k))) ∧ Below w.heap.size w wr)) (fun _ i _ => m - (intOf i).toNat)
  case atStart => exact ⟨0, none, 0, 0, Nat.zero_le _, Nat.zero_le _, rfl, rfl, rfl, World.ownsRow_nil _ _ _ _, Below.refl _ _⟩
  case round =>
    obtain ⟨k, ad, p, cp, hk, hk80, rfl, rfl, hp, H⟩ := hrel
    have hp' : k = p := hp.symm
    clear hp
    subst hp'
    by_cases hlt : k < m
    · obtain ⟨x, hx⟩ : ∃ x, l[k]? = some x := ⟨_, List.getElem?_eq_getElem (by omega)⟩
      obtain ⟨b1, o1, rfl, hc1⟩ := hl.2 (by omega)
      obtain ⟨t1, t2⟩ := hc1 k x hx
      have hsx := hs k x hx
      obtain ⟨hrow, hB⟩ := H.out
      have q1 := (hB.cell (p := ⟨b1, o1 + k * 2, none⟩) (World.block_lt_of_cell? w _ t1)).trans t1
      have q2 := (hB.cell (p := ⟨b1, o1 + k * 2 + 1, none⟩) (World.block_lt_of_cell? w _ t2)).trans t2
      have i2 : (k : Int) < (m : Int) := by omega
      have i3 : ¬ m ≤ k := by omega
      have HX : Hid (l[k]? = some x) := hx
      clear hc1 hx t1 t2
      obtain ⟨nm, iv⟩ := x
      simp only at q1 q2 hsx
      by_cases h80 : k = 80
      · subst h80
        have HR : Hid (wr.ownsRow w.heap.size 38 2 (.slice ad 80 cp) 80 (chCells (cutR l)) ∧ Below w.heap.size w wr ∧ 80 = (cutR l).length) := by
          obtain ⟨h1, h2⟩ := H.out
          rw [cutR_take l 80 (by omega)] at h1
          exact ⟨h1, h2, by rw [cutR_len]; omega⟩
        clear H hrow hB
        have hB0 := (Below.refl _ wr).alloc (Nat.le_refl _) (.cells #[.string nm, .int .u64 iv] 38)
        go_wp2
        go_ret
        obtain ⟨h1, h2, h3⟩ := HR.out
        rw [← h3]
        exact ⟨ad, cp, rfl, h1.alloc _, h2.alloc h2.size _⟩
      · have i4 : ¬ (k : Int) = 80 := by omega
        obtain ⟨nm', hnm⟩ : ∃ nm', nm' = nm.extract 0 (min (nm.size : Int) 250).toNat := ⟨_, rfl⟩
        have hr2 := (hrow.alloc (.cells #[.string nm', .int .u64 iv] 38))
        have hr3 := (hr2.alloc (.cells #[.string nm', .int .u64 iv] 38))
        have hB3 : Below w.heap.size w ((wr.alloc (.cells #[.string nm', .int .u64 iv] 38)).alloc (.cells #[.string nm', .int .u64 iv] 38)) := (hB.alloc hB.size _).alloc (by simp; have := hB.size; omega) _
        have hct := cutR_snoc HX.out (by omega)
        rw [show cutOne (nm, iv) = (nm', iv) from by rw [hnm]; rfl] at hct
        have HN : Hid (cutR (l.take (k + 1)) = cutR (l.take k) ++ [(nm', iv)] ∧ Below w.heap.size w ((wr.alloc (.cells #[.string nm', .int .u64 iv] 38)).alloc (.cells #[.string nm', .int .u64 iv] 38))) := ⟨hct, hB3⟩
        have hw0 := hB.size
        clear hrow H HX hct hB hB3 hr2
        subst hnm
        go_wp2_with (at_builtin; (refine wpList_append_own_at _ rfl _ _ 30 rfl w.heap.size 38 i0 _ 2 24 Tryz.underlying30 hi hz0 hz1 hz2 rfl (by decide) _ k _ rfl hr3 ⟨wr.heap.size + 1, 0, none⟩ 1 1 (chCells [(_, iv)]) rfl rfl (two_new_at _ (_, iv)) (chCells_one _) (by unfold maxLen; omega) (by omega) (by simp; omega) ?_; intro v' w5 hown5 hgr5 _ hat5; have HB5 : Hid (Below w.heap.size w w5) := HN.out.2.trans (below_grC hr3 HN.out.2.size hgr5); have H5 : Hid (w5.ownsRow w.heap.size 38 2 v' (k + 1) (chCells (cutR (l.take (k + 1))))) := (by rw [HN.out.1, chCells_append]; exact hown5 : w5.ownsRow w.heap.size 38 2 v' (k + 1) (chCells (cutR (l.take (k + 1))))); clear hgr5 hat5; obtain ⟨ad5, cp5, hv5, _⟩ := row_shapeC hown5; clear hown5; subst hv5))
        go_roundw
        case rel => exact ⟨k + 1, ad5, k + 1, cp5, by omega, by omega, by simp, rfl, by omega, H5.out, HB5.out⟩
        case measure => simp [intOf]; omega
    · obtain rfl : k = m := by omega
      have i2 : ¬ (k : Int) < (k : Int) := by omega
      have HR : Hid (wr.ownsRow w.heap.size 38 2 (.slice ad k cp) k (chCells (cutR l)) ∧ Below w.heap.size w wr ∧ k = (cutR l).length) := by
        obtain ⟨h1, h2⟩ := H.out
        rw [List.take_of_length_le (by omega)] at h1
        exact ⟨h1, h2, by rw [cutR_len]; omega⟩
      clear H
      go_wp2
      go_ret
      obtain ⟨h1, h2, h3⟩ := HR.out
      rw [← h3]
      exact ⟨ad, cp, rfl, h1, h2⟩
end Go.Proofs.YtiafhbpklddlnaaGreatDoor

/- The law's own functions: two lists held against each other. -/
namespace Go.Proofs.YtiafhbpklddlnaaGreatDoor
open Go.RowKit Go.Shelf Go.Maps

attribute [local go_sem] Oper.semAt_some

theorem below_drewR {n0 : Nat} {w W : World} (h : Below n0 w W) (t : Nat) : Below n0 w (W.drewN t) := ⟨h.os, h.tape, h.output, h.size, h.block⟩

end Go.Proofs.YtiafhbpklddlnaaGreatDoor
