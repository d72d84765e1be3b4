import Derived.Test.YtncagdfbgpdhfaaGreatQ34
import Derived.Test.YtncagdfbgpdhfaaGreatQ32
import Derived.Test.YtncagdfbgpdhfaaGreatQ41
import Derived.Test.YtncagdfbgpdhfaaGreatQ45
import Derived.Test.YtncagdfbgpdhfaaGreatQ46
import Derived.Test.YtncagdfbgpdhfaaGreatQ44
/- Steps of a region that draws: a call by its contract, ids appended to a row of one's own. -/
namespace Go.Proofs.YtncagdfbgpdhfaaGreat
open Go.RowKit Go.Maps

set_option maxRecDepth 20000 in
theorem step_order11 (w : World) {ops : Array Oper} {o : Oper} {a : Act} {K : Act → World → Prop} {Q : Exit → Act → World → Prop} {E : Prop} (hgd : o.guard = none) (x y : Nat) (t1 t2 : TypeId)
    (ho : o.op = .call { callee := .value (.func 12), args := #[.tmp x, .tmp y], argTypes := #[t1, t2] }) (vx vy : Value) (hx : a.tmps[x]?.getD undef = vx) (hy : a.tmps[y]?.getD undef = vy) (R : Value → World → Prop)
    (hc : Calls Tryz.prog 12 #[vx, vy] w fun e w' => ∃ v, e = .returned v ∧ R v w') (hK : ∀ v w', R v w' → K (a.put o.dst v) w') :
    if Region.wanted o (yielded ops a.tmps) = true then Oper.wp Tryz.prog o a w K Q else E := by
  have hw : Region.wanted o (yielded ops a.tmps) = true := by simp [Region.wanted, hgd]
  rw [if_pos hw]
  unfold Oper.wp execOp
  simp [ho, resolve, invoke, go_sem, hx, hy]
  refine hc.mono ?_
  rintro e w' ⟨v, rfl, hR⟩
  have := hK v w' hR
  simpa [go_sem] using this
set_option maxRecDepth 20000 in
theorem step_ancestor (w : World) {ops : Array Oper} {o : Oper} {a : Act} {K : Act → World → Prop} {Q : Exit → Act → World → Prop} {E : Prop} (hgd : o.guard = none) (x y z : Nat) (t1 t2 t3 : TypeId)
    (ho : o.op = .call { callee := .value (.func 24), args := #[.tmp x, .tmp y, .tmp z], argTypes := #[t1, t2, t3] }) (vx vy vz : Value) (hx : a.tmps[x]?.getD undef = vx) (hy : a.tmps[y]?.getD undef = vy) (hz : a.tmps[z]?.getD undef = vz) (R : Value → World → Prop)
    (hc : Calls Tryz.prog 24 #[vx, vy, vz] w fun e w' => ∃ v, e = .returned v ∧ R v w') (hK : ∀ v w', R v w' → K (a.put o.dst v) w') :
    if Region.wanted o (yielded ops a.tmps) = true then Oper.wp Tryz.prog o a w K Q else E := by
  have hw : Region.wanted o (yielded ops a.tmps) = true := by simp [Region.wanted, hgd]
  rw [if_pos hw]
  unfold Oper.wp execOp
  simp [ho, resolve, invoke, go_sem, hx, hy, hz]
  refine hc.mono ?_
  rintro e w' ⟨v, rfl, hR⟩
  have := hK v w' hR
  simpa [go_sem] using this
set_option maxRecDepth 20000 in
theorem step_lines (w : World) {ops : Array Oper} {o : Oper} {a : Act} {K : Act → World → Prop} {Q : Exit → Act → World → Prop} {E : Prop} (hgd : o.guard = none) (x y z : Nat) (t1 t2 t3 : TypeId)
    (ho : o.op = .call { callee := .value (.func 43), args := #[.tmp x, .tmp y, .tmp z], argTypes := #[t1, t2, t3] }) (vx vy vz : Value) (hx : a.tmps[x]?.getD undef = vx) (hy : a.tmps[y]?.getD undef = vy) (hz : a.tmps[z]?.getD undef = vz) (R : Value → World → Prop)
    (hc : Calls Tryz.prog 43 #[vx, vy, vz] w fun e w' => ∃ v, e = .returned v ∧ R v w') (hK : ∀ v w', R v w' → K (a.put o.dst v) w') :
    if Region.wanted o (yielded ops a.tmps) = true then Oper.wp Tryz.prog o a w K Q else E := by
  have hw : Region.wanted o (yielded ops a.tmps) = true := by simp [Region.wanted, hgd]
  rw [if_pos hw]
  unfold Oper.wp execOp
  simp [ho, resolve, invoke, go_sem, hx, hy, hz]
  refine hc.mono ?_
  rintro e w' ⟨v, rfl, hR⟩
  have := hK v w' hR
  simpa [go_sem] using this
theorem own_idsG {W : World} {B n : Nat} {v : Value} {l : List Int} (h : W.ownsRow B 31 1 v n (l.map (Value.int .u64))) : ∃ ad c, v = .slice ad n c ∧ Ids W ad n l := by
  have hn : l.length = n := by have := h.1; rw [List.length_map] at this; omega
  subst hn
  exact own_ids h
theorem step_appIds (w : World) {ops : Array Oper} {o : Oper} {a : Act} {K : Act → World → Prop} {Q : Exit → Act → World → Prop} {E : Prop} (hgd : o.guard = none) (s x : Operand)
    (ho : o.op = .call { callee := .builtin .append, args := #[s, x], argTypes := #[28, 28] })
    (base n m c : Nat) (v : Value) (k l : List Int) (ad : Option Addr) (hs : a.eval s = v) (hx : a.eval x = .slice ad m c)
    (hown : w.ownsRow base 31 1 v n (k.map (Value.int .u64))) (hb : Ids w ad m l) (hnil : ad = none → m = 0 ∧ c = 0) (hm : n + m ≤ 1000000) (hbase : base ≤ w.heap.size)
    (hK : ∀ ad' c' w', n + m ≤ c' → w'.ownsRow base 31 1 (.slice ad' (n + m) c') (n + m) ((k ++ l).map (Value.int .u64)) → w.grownBy w' v.ownBlock → (∀ z, (Value.slice ad' (n + m) c').ownBlock = some z → v.ownBlock = some z ∨ w.heap.size ≤ z) → K (a.put o.dst (.slice ad' (n + m) c')) w') :
    if Region.wanted o (yielded ops a.tmps) = true then Oper.wp Tryz.prog o a w K Q else E := by
  have hw : Region.wanted o (yielded ops a.tmps) = true := by simp [Region.wanted, hgd]
  rw [if_pos hw]
  obtain ⟨i0, hi, hz0, hz1, hz2⟩ := info_parts infoIdG
  cases ad with
  | none =>
    obtain ⟨rfl, rfl⟩ := hnil rfl
    have hl : l = [] := List.eq_nil_of_length_eq_zero hb.1
    subst hl
    obtain ⟨ad', c', rfl, hc', _⟩ := row_shapeN hown
    have hrun := run_append_owned_none (P := Tryz.prog) (w := w) base 28 o.type 31 i0 1 Tryz.underlying28 hi _ n _ hown
    unfold Oper.wp
    simp [execOp, ho, resolve, invoke, builtin, hs, hx, hrun, Result.andThen]
    have := hK ad' c' w (by omega) (by simpa using hown) (World.grownBy.refl _ _) (fun z hz => .inl (by rw [← hz]; rfl))
    simp only [Nat.add_zero] at this
    exact this
  | some ad =>
    obtain ⟨v', w', hr, h2, h3, _, h5⟩ := run_append_own_at (P := Tryz.prog) w base 28 o.type 31 i0 _ 1 8 Tryz.underlying28 hi hz0 hz1 hz2 rfl (by omega) v n _ hown ad m c (l.map (Value.int .u64)) (by rw [List.length_map, hb.1]; omega) (fun j u hj => by
      rw [List.getElem?_map] at hj
      cases hy : l[j]? with
      | none => rw [hy] at hj; cases hj
      | some y =>
        rw [hy] at hj
        cases hj
        have hjl : j < l.length := (List.getElem?_eq_some_iff.1 hy).1
        have hl := hb.1
        obtain ⟨b, off, hx', hc⟩ := hb.2 (by omega)
        obtain rfl := Option.some.inj hx'
        rw [Addr.add_lit]
        exact hc j y hy) (fun u hu => by obtain ⟨y, _, rfl⟩ := List.mem_map.1 hu; rfl) (by unfold maxLen; omega) (by omega) hbase
    obtain ⟨ad', c', rfl, hc', _⟩ := row_shapeN h2
    unfold Oper.wp execOp
    simp only [ho, resolve, invoke, builtin, Sem.run_bind, Sem.run_pure, Result.andThen_ok, List.map_toArray, List.map_cons, List.map_nil, hs, hx, hr]
    exact hK ad' c' w' hc' (by rw [List.map_append]; exact h2) h3 (fun z hz => h5.elim (fun e => .inl (by rw [← e]; exact hz)) (fun e => .inr (by rw [e] at hz; cases hz; exact Nat.le_refl _)))
theorem row_keptG {w w' : World} {e : TypeId} {B n z : Nat} {v : Value} {xs : List Value} (h : w.ownsRow B e z v n xs) (hk : ∀ g, v.ownBlock = some g → w'.heap[g]? = w.heap[g]?) : w'.ownsRow B e z v n xs := by
  refine ⟨h.1, ?_⟩
  rcases h.2 with h0 | ⟨g, cap, cur, h1, h2, h3, h4⟩
  · exact .inl h0
  · exact .inr ⟨g, cap, cur, h1, h2, (hk g (by rw [h1]; rfl)).trans h3, h4⟩
/-- a row of ids of the call's own -/
structure OneR (w0 w : World) (v : Value) (n : Nat) (l : List Int) : Prop where
  bel : Below w0.heap.size w0 w
  r : w.ownsRow w0.heap.size 31 1 v n (l.map (Value.int .u64))
structure TwoR (w0 w : World) (v : Value) (n : Nat) (l : List Int) (v2 : Value) (n2 : Nat) (l2 : List Int) : Prop where
  bel : Below w0.heap.size w0 w
  r : w.ownsRow w0.heap.size 31 1 v n (l.map (Value.int .u64))
  r2 : w.ownsRow w0.heap.size 31 1 v2 n2 (l2.map (Value.int .u64))
  ne : ∀ z, v.ownBlock = some z → v2.ownBlock ≠ some z
theorem OneR.start {w0 w : World} (h : Below w0.heap.size w0 w) : OneR w0 (w.alloc (.cells #[] 31)) (.slice (some ⟨w.heap.size, 0, none⟩) 0 0) 0 [] :=
  ⟨h.alloc h.size _, row_empty w w0.heap.size h.size⟩
theorem OneR.app {w0 w w' : World} {v v' : Value} {n m : Nat} {l k : List Int} (h : OneR w0 w v n l) (hr : w'.ownsRow w0.heap.size 31 1 v' m (k.map (Value.int .u64))) (hg : w.grownBy w' v.ownBlock) : OneR w0 w' v' m k :=
  ⟨h.bel.grown hg h.bel.size (fun z hz => (h.r.lt z hz).1), hr⟩
theorem OneR.two {w0 w : World} {v : Value} {n : Nat} {l : List Int} (h : OneR w0 w v n l) : TwoR w0 (w.alloc (.cells #[] 31)) v n l (.slice (some ⟨w.heap.size, 0, none⟩) 0 0) 0 [] :=
  ⟨h.bel.alloc h.bel.size _, h.r.alloc _, row_empty w w0.heap.size h.bel.size, fun z hz e => by
    have h1 := (h.r.lt z hz).2
    have h2 : w.heap.size = z := Option.some.inj e
    omega⟩
theorem TwoR.symm {w0 w : World} {v : Value} {n : Nat} {l : List Int} {v2 : Value} {n2 : Nat} {l2 : List Int} (h : TwoR w0 w v n l v2 n2 l2) : TwoR w0 w v2 n2 l2 v n l :=
  ⟨h.bel, h.r2, h.r, fun z h1 h2 => h.ne z h2 h1⟩
theorem TwoR.app {w0 w w' : World} {v v' : Value} {n m : Nat} {l k : List Int} {v2 : Value} {n2 : Nat} {l2 : List Int} (h : TwoR w0 w v n l v2 n2 l2) (hr : w'.ownsRow w0.heap.size 31 1 v' m (k.map (Value.int .u64))) (hg : w.grownBy w' v.ownBlock)
    (ha : ∀ z, v'.ownBlock = some z → v.ownBlock = some z ∨ w.heap.size ≤ z) : TwoR w0 w' v' m k v2 n2 l2 :=
  ⟨h.bel.grown hg h.bel.size (fun z hz => (h.r.lt z hz).1), hr, row_keptG h.r2 (fun g hg2 => hg.block g (h.r2.lt g hg2).2 (fun e => h.ne g e.symm hg2)), fun z hz e => by
    rcases ha z hz with h1 | h1
    · exact h.ne z h1 e
    · have := (h.r2.lt z e).2; omega⟩
section
variable {P : Program} {ops : Array Oper} {Q : Exit → Act → World → Prop} {md : Region.Mode} {S : Array Bool → World → Prop}
theorem wpAnyG_two {i j : Nat} {o o2 : Oper} {fuel : Nat} {listed : Array Bool} {a : Act} {w : World} (hr : Region.ready md ops listed = [i, j]) (ho : ops[i]? = some o) (ho2 : ops[j]? = some o2)
    (h : ∀ K' : Act → World → Prop, Shut (∀ a w, S (listed.setIfInBounds i true) w → (S (listed.setIfInBounds i true) w → wpAnyG P md ops Q S fuel (listed.setIfInBounds i true) a w) → K' a w) → if Region.wanted o (yielded ops a.tmps) = true then Oper.wp P o a w K' Q else K' (a.put o.dst undef) w)
    (h2 : ∀ K' : Act → World → Prop, Shut (∀ a w, S (listed.setIfInBounds j true) w → (S (listed.setIfInBounds j true) w → wpAnyG P md ops Q S fuel (listed.setIfInBounds j true) a w) → K' a w) → if Region.wanted o2 (yielded ops a.tmps) = true then Oper.wp P o2 a w K' Q else K' (a.put o2.dst undef) w) : wpAnyG P md ops Q S (fuel + 1) listed a w :=
  wpAnyG_ready hr (by simp) fun q hq => by
    rcases List.mem_cons.1 hq with e | e
    · subst e; exact wpOp_step ho (fun K' hK => h K' (fun a w hS hW => hK a w ⟨hS, hW hS⟩))
    · have e2 := List.mem_singleton.1 e
      subst e2
      exact wpOp_step ho2 (fun K' hK => h2 K' (fun a w hS hW => hK a w ⟨hS, hW hS⟩))
end
end Go.Proofs.YtncagdfbgpdhfaaGreat

/- What a history of the laws of layer 12 gives to the calls behind it; the facts of ParentsLeast as one. -/
namespace Go.Proofs.YtncagdfbgpdhfaaGreat
open Go.RowKit Go.Maps

theorem Brs12.below {w w' : World} {a : Option Addr} {n : Nat} {l : List BornD} (h : Brs12 w a n l) (hB : Below w.heap.size w w') : Brs12 w' a n l :=
  ⟨h.1, fun h0 => by
    obtain ⟨b, off, e, hc⟩ := h.2 h0
    refine ⟨b, off, e, fun j x hx => ?_⟩
    obtain ⟨ba, bn, bc, c0, c1, c2, c3, hi, h1, h2, h3⟩ := hc j x hx
    exact ⟨ba, bn, bc, (hB.cell (p := ⟨b, off + j * 4, none⟩) (World.block_lt_of_cell? w _ c0)).trans c0, (hB.cell (p := ⟨b, off + j * 4 + 1, none⟩) (World.block_lt_of_cell? w _ c1)).trans c1, (hB.cell (p := ⟨b, off + j * 4 + 2, none⟩) (World.block_lt_of_cell? w _ c2)).trans c2, (hB.cell (p := ⟨b, off + j * 4 + 3, none⟩) (World.block_lt_of_cell? w _ c3)).trans c3, hi.below hB, h1, h2, h3⟩⟩
theorem In12.env {w wr : World} {hb s d : Nat} {st : St12} {S : DG} {F G X : Nat → Prop} {nv iv : Value} {ns : List Nd} (I : In12 w wr hb s d st S F G X nv iv ns) : ∃ ia ic, iv = .slice ia st.ids.length ic ∧ ∀ W, Below wr.heap.size wr W → (W.cell? ⟨hb, 0, none⟩ = some (.pointer (some ⟨s, 0, none⟩)) ∧ W.cell? ⟨hb, 2, none⟩ = some (.slice ia st.ids.length ic)) ∧ Ids W ia st.ids.length st.ids ∧ IsSt W s d st.os (fileB (st.os.map obB)).length false F := by
  obtain ⟨ia, ic, e2, _, _⟩ := row_shapeN I.ir
  subst e2
  refine ⟨ia, ic, rfl, fun W hW => ?_⟩
  have J := I.below hW
  obtain ⟨x1, x2, x3, x4⟩ := own_ids J.ir
  cases x3
  exact ⟨⟨J.c0, J.c2⟩, x4, J.sg.st⟩
open Classical in
noncomputable def ancB (os : List Ob) (x y : Int) : Bool := decide (Anc (parsO os) x y)
theorem ancB_iff (os : List Ob) (x y : Int) : ancB os x y = true ↔ Anc (parsO os) x y := by unfold ancB; classical exact decide_eq_true_iff
theorem led_step {os : List Ob} {x y : Int} {R : List Int} {k : Nat} (hy : R[k]? = some y) : (R.take (k + 1)).any (ancB os x) = ((R.take k).any (ancB os x) || ancB os x y) := by
  obtain ⟨h2, h3⟩ := List.getElem?_eq_some_iff.1 hy
  rw [List.take_succ_eq_append_getElem h2, List.any_append, h3]
  simp
theorem led_all {os : List Ob} {x : Int} {R : List Int} (h : ∃ y ∈ R, Anc (parsO os) x y) : R.any (ancB os x) = true := by
  obtain ⟨y, hy, hA⟩ := h
  exact List.any_eq_true.2 ⟨y, hy, (ancB_iff _ _ _).2 hA⟩
/-- what is left of a list: all that the law asks -/
structure LF (os : List Ob) (L R : List Int) : Prop where
  rng : ∀ x ∈ R, 0 ≤ x ∧ x ≤ 18446744073709551615
  len : R.length ≤ L.length
  sub : ∀ x ∈ R, x ∈ L
  again : ∃ g2, ordG os R GS.none = .ok g2 ∧ redP os g2 R = R
  anc : ∀ x ∈ L, ∀ y ∈ R, ∃ gx, ordG os [x, y] GS.none = .ok gx ∧ (decide (0 < linesG os gx.ord x y) = true ↔ Anc (parsO os) x y)
  beside : ∀ (i k : Nat) x y, R[i]? = some x → R[k]? = some y → (Anc (parsO os) x y ↔ i = k)
  led : ∀ x ∈ L, ∃ y ∈ R, Anc (parsO os) x y
  turned : ∃ g3, ordG os (turnL L) GS.none = .ok g3 ∧ (redP os g3 (turnL L)).length = R.length ∧ ∀ x ∈ redP os g3 (turnL L), x ∈ R
theorem least_facts {os : List Ob} {L : List Int} {g : GS} (h : ordG os L GS.none = .ok g) (hr : ∀ x ∈ L, 0 ≤ x ∧ x ≤ 18446744073709551615) : LF os L (redP os g L) where
  rng := fun x hx => hr x ((redP_mem h x).1 hx).1
  len := redG_len _ _ _
  sub := fun x hx => ((redP_mem h x).1 hx).1
  again := redP_again h
  anc := fun x hx y hy => anc_at h (ord_heads h x hx) (ord_heads h y ((redP_mem h y).1 hy).1)
  beside := fun _ _ _ _ hx hy => redP_beside h hx hy
  led := fun _ hx => redP_led h hx
  turned := redP_turned h (turnL_mem L)
theorem anc_call (W : World) (s d : Nat) (os : List Ob) (sz : Nat) (cut : Bool) (F : Nat → Prop) (hS : IsSt W s d os sz cut F) (hos : os.length ≤ 65536) {L R : List Int} (hF : LF os L R) (hr : ∀ x ∈ L, 0 ≤ x ∧ x ≤ 18446744073709551615) {x y : Int} (hx : x ∈ L) (hy : y ∈ R) (b : Bool) (hb : b = true ↔ Anc (parsO os) x y) :
    Calls Tryz.prog 24 #[.pointer (some ⟨s, 0, none⟩), .int .u64 x, .int .u64 y] W fun e w' => e = .returned (.tuple #[.bool b, .int .i64 0]) ∧ Below W.heap.size W w' := by
  obtain ⟨gx, h1, h2⟩ := hF.anc x hx y hy
  have h := ancestor_any W s d os sz cut F hS hos x y (hr x hx) (hF.rng y hy)
  rw [h1] at h
  have e : decide (0 < linesG os gx.ord x y) = b := by
    rw [Bool.eq_iff_iff, h2, hb]
  refine h.mono fun e' w' hh => ⟨?_, hh.1⟩
  have := hh.2
  rw [← e]
  exact this
end Go.Proofs.YtncagdfbgpdhfaaGreat
