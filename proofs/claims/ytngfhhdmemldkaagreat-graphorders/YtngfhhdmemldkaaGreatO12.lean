import Derived.Test.YtngfhhdmemldkaaGreatO11
import Derived.Test.YtngfhhdmemldkaaGreatO09
/- A commit's links, its copy, and what it answers in all. -/
namespace Go.Proofs.YtngfhhdmemldkaaGreat
open Go.RowKit

attribute [local go_sem] Oper.semAt_some

/-- ids appended to a row of one's own -/
theorem wpList_appI (w : World) (B : Nat) (hB : B ≤ w.heap.size) {ops : Array Oper} {rest : List Oper} {o : Oper} {a : Act} {Q : Exit → Act → World → Prop} (hgd : o.guard = none) (s x : Operand)
    (ho : o.op = .call { callee := .builtin .append, args := #[s, x], argTypes := #[28, 28] })
    (v : Value) (n : Nat) (k : List Int) (hs : a.eval s = v) (hown : w.ownsRow B 37 1 v n (k.map (Value.int .u64))) (ad : Option Addr) (m c : Nat) (l : List Int) (hx : a.eval x = .slice ad m c) (hb : Ids w ad m l) (hnil : ad = none → m = 0 ∧ c = 0) (hm : n + m ≤ 1099511627776)
    (h : ∀ v' w', w'.ownsRow B 37 1 v' (n + m) ((k ++ l).map (Value.int .u64)) → w.grownBy w' v.ownBlock → wpList Tryz.prog ops Q rest (a.put o.dst v') w') : wpList Tryz.prog ops Q (o :: rest) a w := by
  obtain ⟨i0, hi, hz0, hz1, hz2⟩ := info_parts infoId
  cases ad with
  | none =>
    obtain ⟨rfl, rfl⟩ := hnil rfl
    have hl : l = [] := List.eq_nil_of_length_eq_zero hb.1
    subst hl
    refine wpList_plain hgd fun K hK => ?_
    have hr := run_append_owned_none (P := Tryz.prog) (w := w) B 28 o.type 37 i0 1 Tryz.underlying28 hi v n _ hown
    unfold Oper.wp execOp
    simp only [ho, resolve, invoke, builtin, Sem.run_bind, Sem.run_pure, Result.andThen_ok, List.map_toArray, List.map_cons, List.map_nil, hs, hx, hr]
    exact hK _ _ (h v w (by rw [List.append_nil]; exact hown) ⟨rfl, rfl, rfl, Nat.le_refl _, fun _ _ _ => rfl⟩)
  | some q =>
    refine wpList_append_own w hgd s x 28 ho B 37 i0 _ 1 8 Tryz.underlying28 hi hz0 hz1 hz2 rfl (by decide) v n _ hs hown q m c (l.map (Value.int .u64)) hx (by rw [List.length_map, hb.1]; omega) ?_ (by intro u hu; obtain ⟨y, _, rfl⟩ := List.mem_map.1 hu; rfl) (by unfold maxLen; omega) (by omega) hB fun v' w' h1 h2 _ => h v' w' (by rw [List.map_append]; exact h1) h2
    intro j u hj
    rw [List.getElem?_map] at hj
    have hl := hb.1
    cases hlj : l[j]? with
    | none => rw [hlj] at hj; cases hj
    | some y =>
      rw [hlj] at hj
      have hjl := (List.getElem?_eq_some_iff.1 hlj).1
      obtain ⟨b, off, e, hc⟩ := hb.2 (by omega)
      cases e
      rw [Addr.add_lit, hc j y hlj]
      exact hj
theorem ids_lit (w : World) (x : Int) : Ids (w.alloc (.cells #[.int .u64 x] 37)) (some ⟨w.heap.size, 0, none⟩) 1 [x] := by
  refine ⟨rfl, fun _ => ⟨_, _, rfl, fun j y hy => ?_⟩⟩
  match j, hy with
  | 0, hy =>
    simp at hy; subst hy
    exact (Boxed.new w 37 (.int .u64 x)).cell

set_option maxRecDepth 20000 in
set_option maxHeartbeats 2000000 in
theorem links_com (t : Int) (pa : Option Addr) (pn pc : Nat) (ps : List Int) (au : ByteArray) (d : Int) (tx : ByteArray) (w : World) (h : Com w t pa pn pc ps au d tx) (hn : pn ≤ 8) :
    Calls Tryz.prog 74 #[(coV t pa pn pc au d tx)] w fun e w' => ∃ v, e = .returned v ∧ w'.ownsRow w.heap.size 37 1 v (t :: ps).length ((t :: ps).map (Value.int .u64)) ∧ Below w.heap.size w w' := by
  have h2 := no_tree_com (cmt t pa pn pc au d tx)
  have h3 := as_commit (cmt t pa pn pc au d tx)
  have hll := h.par.1
  have hB0 : Below w.heap.size w ((w.alloc (.cells #[.int .u64 t, .slice pa pn pc, .string au, .int .i64 d, .string tx] 58)).alloc (.cells #[.int .u64 t] 37)) := ((Below.refl _ w).alloc (Nat.le_refl _) _).alloc (by simp) _
  have b0 := (Box5.new w (.int .u64 t) (.slice pa pn pc) (.string au) (.int .i64 d) (.string tx)).kept ((Below.refl _ _).alloc (Nat.le_refl _) (.cells #[.int .u64 t] 37))
  have hl0 := ids_lit (w.alloc (.cells #[.int .u64 t, .slice pa pn pc, .string au, .int .i64 d, .string tx] 58)) t
  rw [World.size_alloc] at hl0
  have HP : Hid (Com w t pa pn pc ps au d tx) := h
  go_enter Tryz.func74, Tryz.ntmps74
  go_wp2_with first
    | (at_builtin; refine wpList_appI _ w.heap.size hB0.size rfl _ _ rfl (.slice none 0 0) 0 [] rfl (World.ownsRow_nil _ _ _ _) (some ⟨w.heap.size + 1, 0, none⟩) 1 1 [t] rfl hl0 (fun h => by cases h) (by omega) ?_; intro v1 w1 ho1 hg1; have hB1 : Below w.heap.size w w1 := hB0.trans (below_gr (World.ownsRow_nil _ w.heap.size 37 1) hB0.size hg1); have hBB : Below (w.heap.size + 1 + 1) ((w.alloc (.cells #[.int .u64 t, .slice pa pn pc, .string au, .int .i64 d, .string tx] 58)).alloc (.cells #[.int .u64 t] 37)) w1 := ⟨hg1.os, hg1.tape, hg1.output, hg1.size, fun k hk => hg1.block k (by simp; omega) (by simp [Value.ownBlock])⟩; have b1 : Box5 w1 w.heap.size (.int .u64 t) (.slice pa pn pc) (.string au) (.int .i64 d) (.string tx) := (hBB.block _ (by omega)).trans b0; obtain ⟨c0, c1, c2, c3, c4⟩ := b1.cell; obtain ⟨ad1, cp1, hv1, _⟩ := row_shape ho1; subst hv1; clear hg1 hBB hl0 b0)
    | (at_builtin; refine wpList_appI _ w.heap.size hB1.size rfl _ _ rfl _ (0 + 1) _ rfl ho1 pa pn pc ps rfl (HP.out.par.below hB1) HP.out.len.2.2 (by omega) ?_; intro v2 w2 ho2 hg2; have H2 : Hid (w2.ownsRow w.heap.size 37 1 v2 (t :: ps).length ((t :: ps).map (Value.int .u64)) ∧ Below w.heap.size w w2) := ⟨by have e : (t :: ps).length = 0 + 1 + pn := (by simp [hll]; omega); rw [e]; exact ho2, hB1.trans (below_gr ho1 hB1.size hg2)⟩; obtain ⟨ad2, cp2, hv2, _⟩ := row_shape ho2; subst hv2; clear hg2 ho2)
  go_ret
  exact ⟨_, rfl, H2.out.1, H2.out.2⟩
def comI (t : Int) (ps : List Int) (au tx : ByteArray) : List Int := if comErr t ps au tx = 0 then t :: ps else []
theorem Links_com (t : Int) (pa : Option Addr) (pn pc : Nat) (ps : List Int) (au : ByteArray) (d : Int) (tx : ByteArray) (w : World) (h : Com w t pa pn pc ps au d tx) :
    Calls Tryz.prog 53 #[(coV t pa pn pc au d tx)] w fun e w' => ∃ v, e = .returned v ∧ w'.ownsRow w.heap.size 37 1 v (comI t ps au tx).length ((comI t ps au tx).map (Value.int .u64)) ∧ Below w.heap.size w w' := by
  have c1 := check_com t pa pn pc ps au d tx w h
  unfold comI
  by_cases h0 : comErr t ps au tx = 0
  · have hl := (com_fits h0).2.1
    have hll := h.par.1
    rw [if_pos h0]
    rw [h0] at c1
    have hk := fun w h => links_com t pa pn pc ps au d tx w h (by omega)
    generalize t :: ps = I at *
    go_enter Tryz.func53, Tryz.ntmps53
    go_wp2_with first
      | (go_at_call 65; refine c1.mono ?_; clear c1; rintro e w1 ⟨rfl, hB1⟩)
      | (go_at_call 74; refine (hk _ (h.below hB1)).mono ?_; clear hk; rintro e w2 ⟨v, rfl, ho, hB2⟩; have HO : Hid (w2.ownsRow w1.heap.size 37 1 v I.length (I.map (Value.int .u64))) := ho; obtain ⟨ad, cp, hv, _⟩ := row_shape ho; subst hv; clear ho)
    go_ret
    exact ⟨_, rfl, row_lower HO.out hB1.size, hB1.trans (hB2.mono hB1.size)⟩
  · rw [if_neg h0]
    have h0' : (comErr t ps au tx == 0) = false := beq_eq_false_iff_ne.2 h0
    generalize comErr t ps au tx = E at *
    go_enter Tryz.func53, Tryz.ntmps53
    go_wp2_with (go_at_call 65; refine c1.mono ?_; clear c1; rintro e w1 ⟨rfl, hB1⟩)
    go_ret
    exact ⟨_, rfl, World.ownsRow_nil _ _ _ _, hB1⟩
def comT (t : Int) (ps : List Int) (au : ByteArray) (d : Int) (tx : ByteArray) : List UInt8 := if comErr t ps au tx = 0 then comB t ps au d tx else []
end Go.Proofs.YtngfhhdmemldkaaGreat
