import Derived.Test.YtcbmofapnjdmgaaDoorDD34
import Derived.Deep.CutRange
import Derived.Deep.CutBlock
/- The walk of the law's does: bytes are put behind a file's end. -/
namespace Go.Proofs.YtcbmofapnjdmgaaDoor
open Go.RowKit Go.Maps

attribute [local go_sem] Oper.semAt_some

/-- on the way of an append: the bytes with room lie in a block of their own -/
structure AppI (w : World) (p q : Nat) (o : GOp) (l : List UInt8) (Fp Gp : Nat → Prop) (g cg : Nat) (W : World) (T S : DG) (xs : List Value) : Prop where
  st : ∃ F1, DoP w p q o l Fp Gp F1 Gp W T S ∧ ¬ F1 g
  ng : ¬ Gp g
  lo : w.heap.size + 2 ≤ g
  row : W.ownsRow (w.heap.size + 2) 5 1 (.slice (some ⟨g, 0, none⟩) (o.len + 3) cg) (o.len + 3) xs
theorem AppI.doi {w : World} {p q : Nat} {o : GOp} {l : List UInt8} {Fp Gp : Nat → Prop} {g cg : Nat} {W : World} {T S : DG} {xs : List Value} (h : AppI w p q o l Fp Gp g cg W T S xs) : DoI w p q o l Fp Gp W T S := by
  obtain ⟨F1, h1, _⟩ := h.st
  exact ⟨F1, Gp, h1⟩
theorem AppI.below {w : World} {p q : Nat} {o : GOp} {l : List UInt8} {Fp Gp : Nat → Prop} {g cg : Nat} {W W' : World} {T S : DG} {xs : List Value} (h : AppI w p q o l Fp Gp g cg W T S xs) (hB : Below W.heap.size W W') : AppI w p q o l Fp Gp g cg W' T S xs := by
  obtain ⟨F1, h1, h2⟩ := h.st
  exact ⟨⟨F1, h1.below hB, h2⟩, h.ng, h.lo, ownsRow_move2 h.row (fun k hk => hB.block k (h.row.lt k hk).2)⟩
theorem AppI.set {w : World} {p q : Nat} {o : GOp} {l : List UInt8} {Fp Gp : Nat → Prop} {g cg : Nat} {W : World} {T S : DG} {xs : List Value} (h : AppI w p q o l Fp Gp g cg W T S xs) (j : Nat) (u : Value) : AppI w p q o l Fp Gp g cg (W.setCell ⟨g, j, none⟩ u) T S (xs.set j u) := by
  obtain ⟨F1, h1, h2⟩ := h.st
  have hT : Turn (fun k => k = g) W (W.setCell ⟨g, j, none⟩ u) := turn_setCell W g j u
  refine ⟨⟨F1, h1.turned hT (fun k hk => .inr (.inr (hk ▸ h.lo))) (h1.d.turn hT (fun k hk e => h2 (e ▸ hk))) (h1.r.turn hT (fun k hk e => h.ng (e ▸ hk))) h1.dis (fun k hk => hk.elim .inl (fun h => .inr (.inl h))), h2⟩, h.ng, h.lo, (h.row.stored j u).1⟩
theorem AppI.prog {w : World} {p q : Nat} {o : GOp} {l : List UInt8} {Fp Gp : Nat → Prop} {g cg : Nat} {W : World} {T S T2 : DG} {xs : List Value} {F : FuncId} {args : Array Value} {v : Value} (h : AppI w p q o l Fp Gp g cg W T S xs)
    (hc : ∀ Fp', IsDisk W p T Fp' → ¬ Fp' g → Calls Tryd.prog F args W fun e w' => e = .returned v ∧ IsDisk w' p T2 (Go.Proofs.YtcbmofapnjdmgaaDoor.grow Fp' W w') ∧ Turn Fp' W w') : Calls Tryd.prog F args W fun e w' => ∃ u, e = .returned u ∧ (u = v ∧ AppI w p q o l Fp Gp g cg w' T2 S xs) := by
  obtain ⟨F1, h1, h2⟩ := h.st
  refine (hc F1 h1.d h2).mono fun e w' ⟨e1, e2, e3⟩ => ⟨v, e1, rfl, ⟨_, h1.onD e2 e3, fun hk => hk.elim h2 (fun h3 => by have := (h.row.lt g rfl).2; omega)⟩, h.ng, h.lo, ownsRow_move2 h.row (fun k hk => e3.block k (h.row.lt k hk).2 (by cases hk; exact h2))⟩
theorem AppI.refr {w : World} {p q : Nat} {o : GOp} {l : List UInt8} {Fp Gp : Nat → Prop} {g cg : Nat} {W : World} {T S T2 : DG} {xs : List Value} {F : FuncId} {args : Array Value} {v : Value} (h : AppI w p q o l Fp Gp g cg W T S xs)
    (hc : IsRef W q S Gp → Calls Tryd.prog F args W fun e w' => e = .returned v ∧ IsRef w' q T2 (Go.Proofs.YtcbmofapnjdmgaaDoor.grow Gp W w') ∧ Turn Gp W w') : Calls Tryd.prog F args W fun e w' => ∃ u, e = .returned u ∧ (u = v ∧ DoI w p q o l Fp Gp w' T T2) := by
  obtain ⟨F1, h1, h2⟩ := h.st
  exact (hc h1.r).mono fun e w' ⟨e1, e2, e3⟩ => ⟨v, e1, rfl, _, _, h1.onR e2 e3⟩

/-- the bytes ahead of the room -/
theorem room_bytes {w : World} {B g n c : Nat} {l : List UInt8} (h : w.ownsRow B 5 1 (.slice (some ⟨g, 0, none⟩) (n + 3) c) (n + 3) (cellsOf (l ++ [7, 7, 7]))) (hl : l.length = n) : Bytes w (some ⟨g, 0, none⟩) n l := by
  subst hl
  have hb := (ownsRow_toBytes h).1
  have := hb.take l.length (by omega)
  rwa [List.take_left] at this

set_option maxRecDepth 20000 in
theorem step_wappend (w : World) {ops : Array Oper} {o : Oper} {a : Act} {K : Act → World → Prop} {Q : Exit → Act → World → Prop} {E : Prop} (hw : Region.wanted o (yielded ops a.tmps) = true) (x0 x1 x2 : Nat) (ty0 ty1 ty2 : TypeId)
    (ho : o.op = .call { callee := .value (.func 12), args := #[.tmp x0, .tmp x1, .tmp x2], argTypes := #[ty0, ty1, ty2] }) (vx0 vx1 vx2 : Value) (hx0 : a.tmps[x0]?.getD undef = vx0) (hx1 : a.tmps[x1]?.getD undef = vx1) (hx2 : a.tmps[x2]?.getD undef = vx2) (R : Value → World → Prop)
    (hc : Calls Tryd.prog 12 #[vx0, vx1, vx2] w fun e w' => ∃ v, e = .returned v ∧ R v w') (hK : ∀ v w', R v w' → K (a.put o.dst v) w') :
    if Region.wanted o (yielded ops a.tmps) = true then Oper.wp Tryd.prog o a w K Q else E := by
  rw [if_pos hw]
  unfold Oper.wp execOp
  simp [ho, resolve, invoke, go_sem, hx0, hx1, hx2]
  refine hc.mono ?_
  rintro e w' ⟨v, rfl, hR⟩
  have := hK v w' hR
  simpa [go_sem] using this
set_option maxRecDepth 20000 in
theorem step_wequal (w : World) {ops : Array Oper} {o : Oper} {a : Act} {K : Act → World → Prop} {Q : Exit → Act → World → Prop} {E : Prop} (hw : Region.wanted o (yielded ops a.tmps) = true) (x0 x1 : Nat) (ty0 ty1 : TypeId)
    (ho : o.op = .call { callee := .value (.func 21), args := #[.tmp x0, .tmp x1], argTypes := #[ty0, ty1] }) (vx0 vx1 : Value) (hx0 : a.tmps[x0]?.getD undef = vx0) (hx1 : a.tmps[x1]?.getD undef = vx1) (R : Value → World → Prop)
    (hc : Calls Tryd.prog 21 #[vx0, vx1] w fun e w' => ∃ v, e = .returned v ∧ R v w') (hK : ∀ v w', R v w' → K (a.put o.dst v) w') :
    if Region.wanted o (yielded ops a.tmps) = true then Oper.wp Tryd.prog o a w K Q else E := by
  rw [if_pos hw]
  unfold Oper.wp execOp
  simp [ho, resolve, invoke, go_sem, hx0, hx1]
  refine hc.mono ?_
  rintro e w' ⟨v, rfl, hR⟩
  have := hK v w' hR
  simpa [go_sem] using this
set_option maxRecDepth 100000 in
set_option maxHeartbeats 8000000 in
theorem wdoes_append (w : World) (p q : Nat) (kind nn : Int) (nm nt : ByteArray) (ad : Option Addr) (ln cp : Nat) (l : List UInt8) (S : DG) (b : Nat) (Fp Gp : Nat → Prop) (h : Pair2 w p q S Fp Gp) (hi : OpIn w ⟨kind, nm, nt, nn, ad, ln, cp⟩ l Fp Gp) (hg : Good S b) (hb : b ≤ 1000000000) (hk : (IntKind.u64.wrap kind).tmod 9 = 0) :
    Calls Tryd.prog 11 #[.agg #[.pointer (some ⟨p, 0, none⟩), .pointer (some ⟨q, 0, none⟩)], .agg #[.int .i64 kind, .string nm, .string nt, .int .i64 nn, .slice ad ln cp]] w fun e w' => e = .returned (.bool true) ∧ DoOut w w' p q (b + 4194305) Fp Gp := by
  have hmx : Tryd.prog.follows .mixedOrders = true := by kernel_rfl
  have hS := DoP.start h hi
  have H0 : Hid (DoI w p q ⟨kind, nm, nt, nn, ad, ln, cp⟩ l Fp Gp ((w.alloc (.cells #[.pointer (some ⟨p, 0, none⟩), .pointer (some ⟨q, 0, none⟩)] 29)).alloc (.cells #[.int .i64 kind, .string nm, .string nt, .int .i64 nn, .slice ad ln cp] 34)) S S) := ⟨_, _, hS⟩
  have HG : Hid (Good (S.app nm.data.toList l).1 (b + 4194305)) := hg.app nm l
  have hw : S.wr < 4000000000000000000 := by have := hg.fine.wr; omega
  have hl300 : ln ≤ 140737488351232 := hi.len
  have hcp : ln ≤ cp := hi.cap
  have HI : Hid (nm.size ≤ maxLen ∧ l.length = ln) := ⟨hi.name, hi.bytes.1⟩
  have hro := room_any ad ln cp l ((w.alloc (.cells #[.pointer (some ⟨p, 0, none⟩), .pointer (some ⟨q, 0, none⟩)] 29)).alloc (.cells #[.int .i64 kind, .string nm, .string nt, .int .i64 nn, .slice ad ln cp] 34)) hS.bytes hi.nil (by omega)
  have HP : Hid (∀ g cg W, ln + 3 ≤ cg → AppI w p q ⟨kind, nm, nt, nn, ad, ln, cp⟩ l Fp Gp g cg W S S (cellsOf (l ++ [7, 7, 7])) → Calls Tryd.prog 12 #[.pointer (some ⟨p, 0, none⟩), .string nm, .slice (some ⟨g, 0, none⟩) ln cg] W fun e w' => ∃ u, e = .returned u ∧ (u = .int .i64 (S.app nm.data.toList l).2 ∧ AppI w p q ⟨kind, nm, nt, nn, ad, ln, cp⟩ l Fp Gp g cg w' (S.app nm.data.toList l).1 S (cellsOf (l ++ [7, 7, 7])))) := fun g cg W hcg hW => hW.prog fun F hF hnF =>
    append_any p S F W nm (some ⟨g, 0, none⟩) ln cg l hF hi.name (room_bytes hW.row hi.bytes.1) (by omega) (fun e => by cases e) (fun _ x hx => by cases hx; exact ⟨hnF, (hW.row.lt g rfl).2⟩) (hg.fine.bs _) hg.fine.n hw (by omega)
  have HR : Hid (∀ g cg W xs, AppI w p q ⟨kind, nm, nt, nn, ad, ln, cp⟩ l Fp Gp g cg W (S.app nm.data.toList l).1 S xs → Calls Tryd.prog 22 #[.pointer (some ⟨q, 0, none⟩), .string nm, .slice ad ln cp] W fun e w' => ∃ u, e = .returned u ∧ (u = .int .i64 (S.app nm.data.toList l).2 ∧ DoI w p q ⟨kind, nm, nt, nn, ad, ln, cp⟩ l Fp Gp w' (S.app nm.data.toList l).1 (S.app nm.data.toList l).1)) := fun g cg W xs hW => hW.refr fun hF =>
    rappend_any q S Gp W nm ad ln cp l hF hi.name (by obtain ⟨F1, h1, _⟩ := hW.st; exact h1.bytes) hi.cap hi.nil (fun h0 x hx => ⟨(hi.ad h0 x hx).2.2, by obtain ⟨F1, h1, _⟩ := hW.st; have := (hi.ad h0 x hx).1; have := h1.size; omega⟩) (hg.fine.bs _) hg.fine.n hw hg.lm (by omega)
  have HEq : Hid (∀ g cg W xs T, AppI w p q ⟨kind, nm, nt, nn, ad, ln, cp⟩ l Fp Gp g cg W T S xs → xs = cellsOf (l ++ [7, 7, 7]) → Calls Tryd.prog 21 #[.slice (some ⟨g, 0, none⟩) ln cg, .slice ad ln cp] W fun e w' => ∃ u, e = .returned u ∧ (u = .bool true ∧ w' = W)) := fun g cg W xs T hW hx => by
    subst hx
    obtain ⟨F1, h1, _⟩ := hW.st
    refine (equal_any W (some ⟨g, 0, none⟩) ad ln ln cg cp l l (room_bytes hW.row hi.bytes.1) h1.bytes).mono fun e w' ⟨e1, e2⟩ => ?_
    rw [decide_eq_true rfl] at e1
    exact ⟨_, e1, rfl, e2⟩
  have HSt : Hid (∀ g cg W, ((w.alloc (.cells #[.pointer (some ⟨p, 0, none⟩), .pointer (some ⟨q, 0, none⟩)] 29)).alloc (.cells #[.int .i64 kind, .string nm, .string nt, .int .i64 nn, .slice ad ln cp] 34)).heap.size ≤ g → Below ((w.alloc (.cells #[.pointer (some ⟨p, 0, none⟩), .pointer (some ⟨q, 0, none⟩)] 29)).alloc (.cells #[.int .i64 kind, .string nm, .string nt, .int .i64 nn, .slice ad ln cp] 34)).heap.size ((w.alloc (.cells #[.pointer (some ⟨p, 0, none⟩), .pointer (some ⟨q, 0, none⟩)] 29)).alloc (.cells #[.int .i64 kind, .string nm, .string nt, .int .i64 nn, .slice ad ln cp] 34)) W → W.ownsRow ((w.alloc (.cells #[.pointer (some ⟨p, 0, none⟩), .pointer (some ⟨q, 0, none⟩)] 29)).alloc (.cells #[.int .i64 kind, .string nm, .string nt, .int .i64 nn, .slice ad ln cp] 34)).heap.size 5 1 (.slice (some ⟨g, 0, none⟩) (ln + 3) cg) (ln + 3) (cellsOf (l ++ [7, 7, 7])) → AppI w p q ⟨kind, nm, nt, nn, ad, ln, cp⟩ l Fp Gp g cg W S S (cellsOf (l ++ [7, 7, 7]))) := fun g cg W hgl hB hr => by
    have hs : ((w.alloc (.cells #[.pointer (some ⟨p, 0, none⟩), .pointer (some ⟨q, 0, none⟩)] 29)).alloc (.cells #[.int .i64 kind, .string nm, .string nt, .int .i64 nn, .slice ad ln cp] 34)).heap.size = w.heap.size + 2 := by simp
    rw [hs] at hgl hr
    exact ⟨⟨Fp, hS.below hB, fun hk => by have := h.d.lt g hk; omega⟩, fun hk => by have := h.r.lt g hk; omega, hgl, hr⟩
  have H7 : Hid (∀ (g cg : Nat) (W : World) T, AppI w p q ⟨kind, nm, nt, nn, ad, ln, cp⟩ l Fp Gp g cg W T S (cellsOf (l ++ [7, 7, 7])) → W.cell? ⟨g, ln, none⟩ = some (.int .u8 7)) := fun g cg W T hW => by
    rw [hW.row.cellAt ln (by show ln < (ln + 3) * 1; omega), cellsOf_get _ _ (by simp; have := hi.bytes.1; simp only at this; omega)]
    have : bt (l ++ [7, 7, 7]) ln = 7 := by
      unfold bt
      have h1 : l.length = ln := hi.bytes.1
      rw [← h1]
      simp [List.getD]
    rw [this]
  generalize S.app nm.data.toList l = T at *
  obtain ⟨T, er⟩ := T
  simp only at HP HR HG
  have i0 : (0 : Int) ≤ (ln : Int) := by omega
  clear h hi hg hb hS hw
  obtain ⟨c0, c1, c2, c3, c4, c5, c6⟩ := H0.out.cells
  go_enter Tryd.func11, Tryd.ntmps11
  go_upto_region 4 with (go_at_call 20; go_loud (refine hro.mono ?_; clear hro; rintro e w1 ⟨g, cg, rfl, ho1, hcg, hB1⟩; have H1 : Hid (AppI w p q ⟨kind, nm, nt, nn, ad, ln, cp⟩ l Fp Gp g cg w1 S S (cellsOf (l ++ [7, 7, 7]))) := HSt.out g cg w1 (ho1.lt g rfl).1 hB1 ho1; clear ho1 hB1))
  clear c0 c1 c2 c3 c4 c5 c6 H0 HSt
  have i1 : (ln : Int) ≤ (cg : Int) := by omega
  have i2 : (ln : Int) < (ln : Int) + 3 := by omega
  refine wp_region_G (S := SB 1000 (fun _ => True) (fun W => W.cell? ⟨w.heap.size, 0, none⟩ = some (.pointer (some ⟨p, 0, none⟩)) ∧ W.cell? ⟨w.heap.size, 1, none⟩ = some (.pointer (some ⟨q, 0, none⟩)) ∧ W.cell? ⟨w.heap.size + 1, 0, none⟩ = some (.int .i64 kind) ∧ W.cell? ⟨w.heap.size + 1, 1, none⟩ = some (.string nm) ∧ W.cell? ⟨w.heap.size + 1, 2, none⟩ = some (.string nt) ∧ W.cell? ⟨w.heap.size + 1, 3, none⟩ = some (.int .i64 nn) ∧ W.cell? ⟨w.heap.size + 1, 4, none⟩ = some (.slice ad ln cp))) hmx ?_
  have hSB : SB 1000 (fun _ => True) (fun W : World => W.cell? ⟨w.heap.size, 0, none⟩ = some (.pointer (some ⟨p, 0, none⟩)) ∧ W.cell? ⟨w.heap.size, 1, none⟩ = some (.pointer (some ⟨q, 0, none⟩)) ∧ W.cell? ⟨w.heap.size + 1, 0, none⟩ = some (.int .i64 kind) ∧ W.cell? ⟨w.heap.size + 1, 1, none⟩ = some (.string nm) ∧ W.cell? ⟨w.heap.size + 1, 2, none⟩ = some (.string nt) ∧ W.cell? ⟨w.heap.size + 1, 3, none⟩ = some (.int .i64 nn) ∧ W.cell? ⟨w.heap.size + 1, 4, none⟩ = some (.slice ad ln cp)) (Array.replicate 11 false) w1.drew := SB.on trivial H1.out.doi.drew.cells
  refine wpAnyG_takeP (i := 0) (v := ?_) rfl (by kernel_rfl) (by kernel_rfl) (by kernel_rfl) (fun _ _ _ h => h) rfl (Or.inl ⟨by rfl, ?_⟩) (by assumption) ?_
  rotate_left
  · intro Y hY; obtain ⟨y0, y1, y2, y3, y4, y5, y6⟩ := hY; go_simp; try with_reducible rfl
  intro hSB0
  try simp only [Act.put, List.getElem_toArray, List.getElem_cons_zero, List.setIfInBounds_toArray, List.set_cons_zero, List.set_cons_succ]
  refine wpAnyG_takeP (i := 1) (v := ?_) rfl (by kernel_rfl) (by kernel_rfl) (by kernel_rfl) (fun _ _ _ h => h) rfl (Or.inl ⟨by rfl, ?_⟩) (by assumption) ?_
  rotate_left
  · intro Y hY; obtain ⟨y0, y1, y2, y3, y4, y5, y6⟩ := hY; go_simp; try with_reducible rfl
  intro hSB1
  try simp only [Act.put, List.getElem_toArray, List.getElem_cons_zero, List.getElem_cons_succ, List.setIfInBounds_toArray, List.set_cons_zero, List.set_cons_succ]
  refine wpAnyG_takeP (i := 2) (v := ?_) rfl (by kernel_rfl) (by kernel_rfl) (by kernel_rfl) (fun _ _ _ h => h) rfl (Or.inl ⟨by rfl, ?_⟩) (by assumption) ?_
  rotate_left
  · intro Y hY; obtain ⟨y0, y1, y2, y3, y4, y5, y6⟩ := hY; go_simp; try with_reducible rfl
  intro hSB2
  try simp only [Act.put, List.getElem_toArray, List.getElem_cons_zero, List.getElem_cons_succ, List.setIfInBounds_toArray, List.set_cons_zero, List.set_cons_succ]
  refine wpAnyG_takeP (i := 3) (v := ?_) rfl (by kernel_rfl) (by kernel_rfl) (by kernel_rfl) (fun _ _ _ h => h) rfl (Or.inl ⟨by rfl, ?_⟩) (by assumption) ?_
  rotate_left
  · intro Y hY; obtain ⟨y0, y1, y2, y3, y4, y5, y6⟩ := hY; go_simp; try with_reducible rfl
  intro hSB3
  try simp only [Act.put, List.getElem_toArray, List.getElem_cons_zero, List.getElem_cons_succ, List.setIfInBounds_toArray, List.set_cons_zero, List.set_cons_succ]
  refine wpAnyG_takeP (i := 4) (v := ?_) rfl (by kernel_rfl) (by kernel_rfl) (by kernel_rfl) (fun _ _ _ h => h) rfl (Or.inl ⟨by rfl, ?_⟩) (by assumption) ?_
  rotate_left
  · intro Y hY; obtain ⟨y0, y1, y2, y3, y4, y5, y6⟩ := hY; go_simp; try with_reducible rfl
  intro hSB4
  try simp only [Act.put, List.getElem_toArray, List.getElem_cons_zero, List.getElem_cons_succ, List.setIfInBounds_toArray, List.set_cons_zero, List.set_cons_succ]
  refine wpAnyG_takeP (i := 5) (v := ?_) rfl (by kernel_rfl) (by kernel_rfl) (by kernel_rfl) (fun _ _ _ h => h) rfl (Or.inl ⟨by rfl, ?_⟩) (by assumption) ?_
  rotate_left
  · intro Y hY; obtain ⟨y0, y1, y2, y3, y4, y5, y6⟩ := hY; go_simp; try with_reducible rfl
  intro hSB5
  try simp only [Act.put, List.getElem_toArray, List.getElem_cons_zero, List.getElem_cons_succ, List.setIfInBounds_toArray, List.set_cons_zero, List.set_cons_succ]
  refine wpAnyG_takeP (i := 6) (v := ?_) rfl (by kernel_rfl) (by kernel_rfl) (by kernel_rfl) (fun _ _ _ h => h) rfl (Or.inl ⟨by rfl, ?_⟩) (by assumption) ?_
  rotate_left
  · intro Y hY; obtain ⟨y0, y1, y2, y3, y4, y5, y6⟩ := hY; go_simp; try with_reducible rfl
  intro hSB6
  try simp only [Act.put, List.getElem_toArray, List.getElem_cons_zero, List.getElem_cons_succ, List.setIfInBounds_toArray, List.set_cons_zero, List.set_cons_succ]
  refine wpAnyG_takeP (i := 7) (v := ?_) rfl (by kernel_rfl) (by kernel_rfl) (by kernel_rfl) (fun _ _ _ h => h) rfl (Or.inl ⟨by rfl, ?_⟩) (by assumption) ?_
  rotate_left
  · intro Y hY; obtain ⟨y0, y1, y2, y3, y4, y5, y6⟩ := hY; go_simp; try with_reducible rfl
  intro hSB7
  try simp only [Act.put, List.getElem_toArray, List.getElem_cons_zero, List.getElem_cons_succ, List.setIfInBounds_toArray, List.set_cons_zero, List.set_cons_succ]
  refine wpAnyG_takeP (i := 8) (v := ?_) rfl (by kernel_rfl) (by kernel_rfl) (by kernel_rfl) (fun _ _ _ h => h) rfl (Or.inl ⟨by rfl, ?_⟩) (by assumption) ?_
  rotate_left
  · intro Y hY; obtain ⟨y0, y1, y2, y3, y4, y5, y6⟩ := hY; go_simp; try with_reducible rfl
  intro hSB8
  try simp only [Act.put, List.getElem_toArray, List.getElem_cons_zero, List.getElem_cons_succ, List.setIfInBounds_toArray, List.set_cons_zero, List.set_cons_succ]
  refine wpAnyG_one (i := 9) (by kernel_rfl) rfl (fun K hK => ?_)
  refine step_wappend _ (by rfl) _ _ _ _ _ _ (by rfl) _ _ _ (by rfl) (by rfl) (by rfl) (fun v W => v = .int .i64 er ∧ AppI w p q ⟨kind, nm, nt, nn, ad, ln, cp⟩ l Fp Gp g cg W T S (cellsOf (l ++ [7, 7, 7]))) (HP.out g cg w1.drew hcg (H1.out.below ⟨rfl, rfl, rfl, Nat.le_refl _, fun _ _ => rfl⟩)) ?_
  rintro v w2 ⟨rfl, h2⟩
  have H2 : Hid (AppI w p q ⟨kind, nm, nt, nn, ad, ln, cp⟩ l Fp Gp g cg w2 T S (cellsOf (l ++ [7, 7, 7]))) := h2
  clear h2
  refine hK.out _ _ (SB.on trivial H2.out.doi.cells) (fun hSB9 => ?_)
  clear hK K
  try simp only [Act.put, List.getElem_toArray, List.getElem_cons_zero, List.getElem_cons_succ, List.setIfInBounds_toArray, List.set_cons_zero, List.set_cons_succ]
  refine wpAnyG_one (i := 10) (by kernel_rfl) rfl (fun K hK => ?_)
  go_simp
  refine hK.out _ _ (SB.on trivial H2.out.doi.cells) (fun hSB10 => ?_)
  clear hK K
  try simp only [Act.put, List.getElem_toArray, List.getElem_cons_zero, List.getElem_cons_succ, List.setIfInBounds_toArray, List.set_cons_zero, List.set_cons_succ]
  refine wpAnyG_done (by kernel_rfl) ?_ _
  clear hSB hSB0 hSB1 hSB2 hSB3 hSB4 hSB5 hSB6 hSB7 hSB8 hSB9 hSB10
  go_upto_region 5 with fail
  refine wp_region_G (S := SB 1000 (fun _ => True) (fun W => (W.cell? ⟨w.heap.size, 0, none⟩ = some (.pointer (some ⟨p, 0, none⟩)) ∧ W.cell? ⟨w.heap.size, 1, none⟩ = some (.pointer (some ⟨q, 0, none⟩)) ∧ W.cell? ⟨w.heap.size + 1, 0, none⟩ = some (.int .i64 kind) ∧ W.cell? ⟨w.heap.size + 1, 1, none⟩ = some (.string nm) ∧ W.cell? ⟨w.heap.size + 1, 2, none⟩ = some (.string nt) ∧ W.cell? ⟨w.heap.size + 1, 3, none⟩ = some (.int .i64 nn) ∧ W.cell? ⟨w.heap.size + 1, 4, none⟩ = some (.slice ad ln cp)) ∧ W.cell? ⟨g, ln, none⟩ = some (.int .u8 7))) hmx ?_
  have T2 : (fun W : World => (W.cell? ⟨w.heap.size, 0, none⟩ = some (.pointer (some ⟨p, 0, none⟩)) ∧ W.cell? ⟨w.heap.size, 1, none⟩ = some (.pointer (some ⟨q, 0, none⟩)) ∧ W.cell? ⟨w.heap.size + 1, 0, none⟩ = some (.int .i64 kind) ∧ W.cell? ⟨w.heap.size + 1, 1, none⟩ = some (.string nm) ∧ W.cell? ⟨w.heap.size + 1, 2, none⟩ = some (.string nt) ∧ W.cell? ⟨w.heap.size + 1, 3, none⟩ = some (.int .i64 nn) ∧ W.cell? ⟨w.heap.size + 1, 4, none⟩ = some (.slice ad ln cp)) ∧ W.cell? ⟨g, ln, none⟩ = some (.int .u8 7)) w2.drew := ⟨H2.out.doi.cells, H7.out g cg w2 T H2.out⟩
  have hSB : SB 1000 (fun _ => True) (fun W : World => (W.cell? ⟨w.heap.size, 0, none⟩ = some (.pointer (some ⟨p, 0, none⟩)) ∧ W.cell? ⟨w.heap.size, 1, none⟩ = some (.pointer (some ⟨q, 0, none⟩)) ∧ W.cell? ⟨w.heap.size + 1, 0, none⟩ = some (.int .i64 kind) ∧ W.cell? ⟨w.heap.size + 1, 1, none⟩ = some (.string nm) ∧ W.cell? ⟨w.heap.size + 1, 2, none⟩ = some (.string nt) ∧ W.cell? ⟨w.heap.size + 1, 3, none⟩ = some (.int .i64 nn) ∧ W.cell? ⟨w.heap.size + 1, 4, none⟩ = some (.slice ad ln cp)) ∧ W.cell? ⟨g, ln, none⟩ = some (.int .u8 7)) (Array.replicate 18 false) w2.drew := SB.on trivial T2
  refine wpAnyG_takeP (i := 0) (v := ?_) rfl (by kernel_rfl) (by kernel_rfl) (by kernel_rfl) (fun _ _ _ h => h) rfl (Or.inl ⟨by rfl, ?_⟩) (by assumption) ?_
  rotate_left
  · intro Y hY; obtain ⟨⟨y0, y1, y2, y3, y4, y5, y6⟩, y7⟩ := hY; go_simp; try with_reducible rfl
  intro hSB0
  try simp only [Act.put, List.getElem_toArray, List.getElem_cons_zero, List.setIfInBounds_toArray, List.set_cons_zero, List.set_cons_succ]
  refine wpAnyG_takeP (i := 1) (v := ?_) rfl (by kernel_rfl) (by kernel_rfl) (by kernel_rfl) (fun _ _ _ h => h) rfl (Or.inl ⟨by rfl, ?_⟩) (by assumption) ?_
  rotate_left
  · intro Y hY; obtain ⟨⟨y0, y1, y2, y3, y4, y5, y6⟩, y7⟩ := hY; go_simp; try with_reducible rfl
  intro hSB1
  try simp only [Act.put, List.getElem_toArray, List.getElem_cons_zero, List.getElem_cons_succ, List.setIfInBounds_toArray, List.set_cons_zero, List.set_cons_succ]
  refine wpAnyG_takeP (i := 2) (v := ?_) rfl (by kernel_rfl) (by kernel_rfl) (by kernel_rfl) (fun _ _ _ h => h) rfl (Or.inl ⟨by rfl, ?_⟩) (by assumption) ?_
  rotate_left
  · intro Y hY; obtain ⟨⟨y0, y1, y2, y3, y4, y5, y6⟩, y7⟩ := hY; go_simp; try with_reducible rfl
  intro hSB2
  try simp only [Act.put, List.getElem_toArray, List.getElem_cons_zero, List.getElem_cons_succ, List.setIfInBounds_toArray, List.set_cons_zero, List.set_cons_succ]
  refine wpAnyG_takeP (i := 3) (v := ?_) rfl (by kernel_rfl) (by kernel_rfl) (by kernel_rfl) (fun _ _ _ h => h) rfl (Or.inl ⟨by rfl, ?_⟩) (by assumption) ?_
  rotate_left
  · intro Y hY; obtain ⟨⟨y0, y1, y2, y3, y4, y5, y6⟩, y7⟩ := hY; go_simp; try with_reducible rfl
  intro hSB3
  try simp only [Act.put, List.getElem_toArray, List.getElem_cons_zero, List.getElem_cons_succ, List.setIfInBounds_toArray, List.set_cons_zero, List.set_cons_succ]
  refine wpAnyG_takeP (i := 4) (v := ?_) rfl (by kernel_rfl) (by kernel_rfl) (by kernel_rfl) (fun _ _ _ h => h) rfl (Or.inl ⟨by rfl, ?_⟩) (by assumption) ?_
  rotate_left
  · intro Y hY; obtain ⟨⟨y0, y1, y2, y3, y4, y5, y6⟩, y7⟩ := hY; go_simp; try with_reducible rfl
  intro hSB4
  try simp only [Act.put, List.getElem_toArray, List.getElem_cons_zero, List.getElem_cons_succ, List.setIfInBounds_toArray, List.set_cons_zero, List.set_cons_succ]
  refine wpAnyG_takeP (i := 5) (v := ?_) rfl (by kernel_rfl) (by kernel_rfl) (by kernel_rfl) (fun _ _ _ h => h) rfl (Or.inl ⟨by rfl, ?_⟩) (by assumption) ?_
  rotate_left
  · intro Y hY; obtain ⟨⟨y0, y1, y2, y3, y4, y5, y6⟩, y7⟩ := hY; go_simp; try with_reducible rfl
  intro hSB5
  try simp only [Act.put, List.getElem_toArray, List.getElem_cons_zero, List.getElem_cons_succ, List.setIfInBounds_toArray, List.set_cons_zero, List.set_cons_succ]
  refine wpAnyG_takeP (i := 6) (v := ?_) rfl (by kernel_rfl) (by kernel_rfl) (by kernel_rfl) (fun _ _ _ h => h) rfl (Or.inl ⟨by rfl, ?_⟩) (by assumption) ?_
  rotate_left
  · intro Y hY; obtain ⟨⟨y0, y1, y2, y3, y4, y5, y6⟩, y7⟩ := hY; go_simp; try with_reducible rfl
  intro hSB6
  try simp only [Act.put, List.getElem_toArray, List.getElem_cons_zero, List.getElem_cons_succ, List.setIfInBounds_toArray, List.set_cons_zero, List.set_cons_succ]
  refine wpAnyG_one (i := 7) (by kernel_rfl) rfl (fun K hK => ?_)
  refine step_wequal _ (by rfl) _ _ _ _ (by rfl) _ _ (by rfl) (by rfl) (fun v W => v = .bool true ∧ W = w2.drew) (HEq.out g cg w2.drew _ T (H2.out.below ⟨rfl, rfl, rfl, Nat.le_refl _, fun _ _ => rfl⟩) rfl) ?_
  rintro v w3 ⟨rfl, hw3⟩
  subst hw3
  refine hK.out _ _ (SB.on trivial T2) (fun hSB7 => ?_)
  clear hK K
  try simp only [Act.put, List.getElem_toArray, List.getElem_cons_zero, List.getElem_cons_succ, List.setIfInBounds_toArray, List.set_cons_zero, List.set_cons_succ]
  refine wpAnyG_takeP (i := 8) (v := ?_) rfl (by kernel_rfl) (by kernel_rfl) (by kernel_rfl) (fun _ _ _ h => h) rfl (Or.inl ⟨by rfl, ?_⟩) (by assumption) ?_
  rotate_left
  · intro Y hY; obtain ⟨⟨y0, y1, y2, y3, y4, y5, y6⟩, y7⟩ := hY; go_simp; try with_reducible rfl
  intro hSB8
  try simp only [Act.put, List.getElem_toArray, List.getElem_cons_zero, List.getElem_cons_succ, List.setIfInBounds_toArray, List.set_cons_zero, List.set_cons_succ]
  refine wpAnyG_takeP (i := 9) (v := ?_) rfl (by kernel_rfl) (by kernel_rfl) (by kernel_rfl) (fun _ _ _ h => h) rfl (Or.inl ⟨by rfl, ?_⟩) (by assumption) ?_
  rotate_left
  · intro Y hY; obtain ⟨⟨y0, y1, y2, y3, y4, y5, y6⟩, y7⟩ := hY; go_simp; try with_reducible rfl
  intro hSB9
  try simp only [Act.put, List.getElem_toArray, List.getElem_cons_zero, List.getElem_cons_succ, List.setIfInBounds_toArray, List.set_cons_zero, List.set_cons_succ]
  refine wpAnyG_takeP (i := 10) (v := ?_) rfl (by kernel_rfl) (by kernel_rfl) (by kernel_rfl) (fun _ _ _ h => h) rfl (Or.inl ⟨by rfl, ?_⟩) (by assumption) ?_
  rotate_left
  · intro Y hY; obtain ⟨⟨y0, y1, y2, y3, y4, y5, y6⟩, y7⟩ := hY; go_simp; try with_reducible rfl
  intro hSB10
  try simp only [Act.put, List.getElem_toArray, List.getElem_cons_zero, List.getElem_cons_succ, List.setIfInBounds_toArray, List.set_cons_zero, List.set_cons_succ]
  refine wpAnyG_takeP (i := 11) (v := ?_) rfl (by kernel_rfl) (by kernel_rfl) (by kernel_rfl) (fun _ _ _ h => h) rfl (Or.inl ⟨by rfl, ?_⟩) (by assumption) ?_
  rotate_left
  · intro Y hY; obtain ⟨⟨y0, y1, y2, y3, y4, y5, y6⟩, y7⟩ := hY; go_simp; try with_reducible rfl
  intro hSB11
  try simp only [Act.put, List.getElem_toArray, List.getElem_cons_zero, List.getElem_cons_succ, List.setIfInBounds_toArray, List.set_cons_zero, List.set_cons_succ]
  refine wpAnyG_takeP (i := 12) (v := ?_) rfl (by kernel_rfl) (by kernel_rfl) (by kernel_rfl) (fun _ _ _ h => h) rfl (Or.inl ⟨by rfl, ?_⟩) (by assumption) ?_
  rotate_left
  · intro Y hY; obtain ⟨⟨y0, y1, y2, y3, y4, y5, y6⟩, y7⟩ := hY; go_simp; try with_reducible rfl
  intro hSB12
  try simp only [Act.put, List.getElem_toArray, List.getElem_cons_zero, List.getElem_cons_succ, List.setIfInBounds_toArray, List.set_cons_zero, List.set_cons_succ]
  refine wpAnyG_takeP (i := 13) (v := ?_) rfl (by kernel_rfl) (by kernel_rfl) (by kernel_rfl) (fun _ _ _ h => h) rfl (Or.inl ⟨by rfl, ?_⟩) (by assumption) ?_
  rotate_left
  · intro Y hY; obtain ⟨⟨y0, y1, y2, y3, y4, y5, y6⟩, y7⟩ := hY; go_simp; try with_reducible rfl
  intro hSB13
  try simp only [Act.put, List.getElem_toArray, List.getElem_cons_zero, List.getElem_cons_succ, List.setIfInBounds_toArray, List.set_cons_zero, List.set_cons_succ]
  refine wpAnyG_takeP (i := 14) (v := ?_) rfl (by kernel_rfl) (by kernel_rfl) (by kernel_rfl) (fun _ _ _ h => h) rfl (Or.inl ⟨by rfl, ?_⟩) (by assumption) ?_
  rotate_left
  · intro Y hY; obtain ⟨⟨y0, y1, y2, y3, y4, y5, y6⟩, y7⟩ := hY; go_simp; try with_reducible rfl
  intro hSB14
  try simp only [Act.put, List.getElem_toArray, List.getElem_cons_zero, List.getElem_cons_succ, List.setIfInBounds_toArray, List.set_cons_zero, List.set_cons_succ]
  refine wpAnyG_takeP (i := 15) (v := ?_) rfl (by kernel_rfl) (by kernel_rfl) (by kernel_rfl) (fun _ _ _ h => h) rfl (Or.inl ⟨by rfl, ?_⟩) (by assumption) ?_
  rotate_left
  · intro Y hY; obtain ⟨⟨y0, y1, y2, y3, y4, y5, y6⟩, y7⟩ := hY; go_simp; try with_reducible rfl
  intro hSB15
  try simp only [Act.put, List.getElem_toArray, List.getElem_cons_zero, List.getElem_cons_succ, List.setIfInBounds_toArray, List.set_cons_zero, List.set_cons_succ]
  refine wpAnyG_takeP (i := 16) (v := ?_) rfl (by kernel_rfl) (by kernel_rfl) (by kernel_rfl) (fun _ _ _ h => h) rfl (Or.inl ⟨by rfl, ?_⟩) (by assumption) ?_
  rotate_left
  · intro Y hY; obtain ⟨⟨y0, y1, y2, y3, y4, y5, y6⟩, y7⟩ := hY; go_simp; try with_reducible rfl
  intro hSB16
  try simp only [Act.put, List.getElem_toArray, List.getElem_cons_zero, List.getElem_cons_succ, List.setIfInBounds_toArray, List.set_cons_zero, List.set_cons_succ]
  refine wpAnyG_takeP (i := 17) (v := ?_) rfl (by kernel_rfl) (by kernel_rfl) (by kernel_rfl) (fun _ _ _ h => h) rfl (Or.inl ⟨by rfl, ?_⟩) (by assumption) ?_
  rotate_left
  · intro Y hY; obtain ⟨⟨y0, y1, y2, y3, y4, y5, y6⟩, y7⟩ := hY; go_simp; try with_reducible rfl
  intro hSB17
  try simp only [Act.put, List.getElem_toArray, List.getElem_cons_zero, List.getElem_cons_succ, List.setIfInBounds_toArray, List.set_cons_zero, List.set_cons_succ]
  refine wpAnyG_done (by kernel_rfl) ?_ _
  clear hSB hSB0 hSB1 hSB2 hSB3 hSB4 hSB5 hSB6 hSB7 hSB8 hSB9 hSB10 hSB11 hSB12 hSB13 hSB14 hSB15 hSB16 hSB17
  have HL : Hid (∃ xs, AppI w p q ⟨kind, nm, nt, nn, ad, ln, cp⟩ l Fp Gp g cg w2.drew T S xs) := ⟨_, H2.out.below ⟨rfl, rfl, rfl, Nat.le_refl _, fun _ _ => rfl⟩⟩
  clear H1 H2 H7 HEq HP T2
  go_upto_block 1 with fail
  go_wp2_with fail
  go_loopw [50] (fun i wr => ∃ j : Nat, j ≤ ln + 3 ∧ i = .int .i64 (j : Int) ∧ Hid (∃ xs, AppI w p q ⟨kind, nm, nt, nn, ad, ln, cp⟩ l Fp Gp g cg wr T S xs)) (fun i _ => ln + 3 - (intOf i).toNat)
  case atStart => exact ⟨0, Nat.zero_le _, rfl, HL⟩
  case round =>
    clear HL
    obtain ⟨j, hj, rfl, H⟩ := hrel
    by_cases hlt : j < ln + 3
    · have i3 : (j : Int) < (ln : Int) + 3 := by omega
      have i4 : (0 : Int) ≤ (j : Int) := by omega
      obtain ⟨xs, ho⟩ := H.out
      have f0 := ho.row.frozenAt j
      obtain ⟨u, hu⟩ : ∃ u, xs[j]? = some u := ⟨xs[j]'(by rw [ho.row.1]; show j < (ln + 3) * 1; omega), by simp⟩
      have e0 : w2.drew.heap.size = w2.heap.size := rfl
      have c0 : wr.cell? ⟨g, j, none⟩ = some u := by rw [ho.row.cellAt j (by show j < (ln + 3) * 1; omega)]; exact hu
      have HN : Hid (∃ xs, AppI w p q ⟨kind, nm, nt, nn, ad, ln, cp⟩ l Fp Gp g cg (wr.setCell ⟨g, j, none⟩ (.int .u8 187)) T S xs) := ⟨_, ho.set j _⟩
      clear ho hu H e0
      go_wp2
      exact ⟨⟨j + 1, by omega, by simp, HN⟩, by simp [intOf]; omega⟩
    · have i3 : ¬ (j : Int) < (ln : Int) + 3 := by omega
      have H4 : Hid (∃ xs, AppI w p q ⟨kind, nm, nt, nn, ad, ln, cp⟩ l Fp Gp g cg wr T S xs) := H.out
      obtain ⟨xs, ho⟩ := H.out
      obtain ⟨c0, c1, c2, c3, c4, c5, c6⟩ := ho.doi.cells
      have H5 : Hid (AppI w p q ⟨kind, nm, nt, nn, ad, ln, cp⟩ l Fp Gp g cg wr T S xs) := ho
      clear ho H H4
      go_wp2_with first
        | (go_at_call 18; go_loud (refine (H6.out.file HG.out nm HI.out.1).mono ?_; rintro e w7 ⟨_, rfl, rfl, h7⟩; have H7 : Hid (DoI w p q ⟨kind, nm, nt, nn, ad, ln, cp⟩ l Fp Gp w7 T T) := h7; clear h7))
        | (go_at_call 22; go_loud (refine (HR.out g cg wr xs H5.out).mono ?_; rintro e w6 ⟨_, rfl, rfl, h6⟩; have H6 : Hid (DoI w p q ⟨kind, nm, nt, nn, ad, ln, cp⟩ l Fp Gp w6 T T) := h6; obtain ⟨b0, b1, b2, b3, b4, b5, b6⟩ := H6.out.cells; clear h6))
      exact bodyPost_ret (v := .bool true) (by simp [results, Tryd.results11, go_sem]) rfl ⟨rfl, H7.out.out HG.out⟩

end Go.Proofs.YtcbmofapnjdmgaaDoor
