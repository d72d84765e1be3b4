import Derived.Test.YtdjodigimhgklaaGreatDoorMD28
import Derived.Test.YtdjodigimhgklaaGreatDoorMD23
import Derived.Test.YtdjodigimhgklaaGreatDoorMD26
import Derived.Test.YtdjodigimhgklaaGreatDoorMD30
/- The memo's Sources. -/
namespace Go.Proofs.YtdjodigimhgklaaGreatDoor
open Go.RowKit Go.Shelf Go.Maps

attribute [local go_sem] Oper.semAt_some

set_option maxRecDepth 100000 in
set_option maxHeartbeats 8000000 in
theorem ysources_any (w : World) (m d j : Nat) (g : Me) (vr : Value) (pa : Option Addr) (pc : Nat) (F : Nat → Prop) (h : MeAt w m d j g vr pa pc F) (hps : g.ps.length ≤ 65536) (t : Nat) :
    Calls Tryz.prog 29 #[.pointer (some ⟨m, 0, none⟩), .int .u64 (t : Int)] w fun e w' => ∃ v, e = .returned v ∧ w'.ownsRow w.heap.size 23 1 v (srcL g.ps t).length ((srcL g.ps t).map idV) ∧ Below w.heap.size w w' := by
  obtain ⟨w3, hw3⟩ : ∃ w3, w3 = ((w.alloc (.cells #[.int .u64 (t : Int)] 23)).alloc (.cells #[.slice none 0 0] 47)).alloc (.cells #[.pointer (some ⟨m, 0, none⟩)] 28) := ⟨_, rfl⟩
  have hB3 : Below w.heap.size w w3 := by rw [hw3]; exact (((Below.refl _ w).alloc (Nat.le_refl _) _).alloc (by simp) _).alloc (by simp; omega) _
  have hs3' : w3.heap.size = w.heap.size + 3 := by rw [hw3]; simp
  have bt3 : Boxed w3 w.heap.size 23 (.int .u64 (t : Int)) := by rw [hw3]; exact ((Boxed.new w _ _).alloc _).alloc _
  have bf3 : Boxed w3 (w.heap.size + 1) 47 (.slice none 0 0) := by
    rw [hw3]
    have := (Boxed.new (w.alloc (.cells #[.int .u64 (t : Int)] 23)) 47 (.slice none 0 0)).alloc (.cells #[.pointer (some ⟨m, 0, none⟩)] 28)
    rwa [World.size_alloc] at this
  have bm3 : Boxed w3 (w.heap.size + 2) 28 (.pointer (some ⟨m, 0, none⟩)) := by
    rw [hw3]
    have := Boxed.new ((w.alloc (.cells #[.int .u64 (t : Int)] 23)).alloc (.cells #[.slice none 0 0] 47)) 28 (.pointer (some ⟨m, 0, none⟩))
    rwa [World.size_alloc, World.size_alloc] at this
  have H3 : Hid (MeAt w3 m d j g vr pa pc F ∧ Boxed w3 (w.heap.size + 2) 28 (.pointer (some ⟨m, 0, none⟩)) ∧ (∀ k, F k → k < w.heap.size) ∧ Below w.heap.size w w3 ∧ Boxed w3 w.heap.size 23 (.int .u64 (t : Int)) ∧ Boxed w3 (w.heap.size + 1) 47 (.slice none 0 0) ∧ w.heap.size + 3 ≤ w3.heap.size) := ⟨h.below hB3, bm3, h.lt, hB3, bt3, bf3, by omega⟩
  clear hB3 hs3' bt3 bf3 bm3 h
  refine (callsIn_wide (n := 5)).1 ?_
  refine callsIn_of_wp_marks Tryz.func29 rfl trivial ?_ rfl
  simp only [Tryz.ntmps29, List.size_toArray, List.length_cons, List.length_nil, Nat.reduceAdd, Nat.reduceSub, Array.replicate_succ, Array.replicate_zero, List.push_toArray, List.append_toArray, List.nil_append, List.cons_append]
  refine wpIn_wide.2 ?_
  go_wp2_with fail
  refine (meach_any _ _).mono ?_
  rintro e w' ⟨rfl, rfl⟩
  rw [← hw3]
  clear hw3
  go_wp2_with fail
  obtain ⟨i0, hii, hzz0, hzz1, hzz2⟩ := info_parts infoIdV
  refine (wpIn_wide (n := 5)).1 ?_
  refine range_boxed (w := w3) rfl (by omega) (gf := 66) (lb := #[.pointer (some ⟨w.heap.size + 1 + 1, 0, none⟩)]) rfl trivial (enters_of Tryz.func66 (by kernel_rfl) rfl)
    (meach_tells w3 m d j g vr pa pc F H3.out.1 (w.heap.size + 1 + 1) H3.out.2.1 4 (by omega)) (fun _ => rfl) (fun k hk => hk.elim (fun e => by have := H3.out.2.2.2.2.2.2; omega) (fun e => H3.out.1.lt k e))
    (SrcI (w.heap.size + 1) t w3) (fun _ _ _ => False)
    (srcI_own _ _ _ (by have := H3.out.2.2.2.2.2.2; omega)) ?ix (fun _ _ _ _ _ _ h _ _ => h) ⟨Turn.refl _ _, Nat.zero_le _, _, H3.out.2.2.2.2.2.1, World.ownsRow_nil _ _ _ _⟩
    (fun x => .cells #[.int .u64 (x.1 : Int), .int .u64 (x.2 : Int)] 39) ?act ?assign ?body ?done ?stop
  case assign =>
    intro l x b W K hb hK
    unfold prE
    gi_wp2
    exact hK
  case ix => exact fun c pre X Y row h _ _ => h.elim
  case body =>
    rintro l pre ⟨x, y⟩ bx W hl3 hb3 (hbx : BoxV W bx x y) ⟨hTW, hpl, v, bv, hrow⟩ hx
    have hs3 := H3.out.2.2.2.2.2.2
    have hsW := hTW.size
    have btW : Boxed W w.heap.size 23 (.int .u64 (t : Int)) := (hTW.block _ (by omega) (by omega)).trans H3.out.2.2.2.2.1
    obtain ⟨ga, gc, rfl, _⟩ := irow_shape hrow
    have hlen : pre.length + 1 ≤ 65536 := by
      have h1 := (List.getElem?_eq_some_iff.1 hx).1
      omega
    have hsl := srcL_len pre t
    have cp := hbx.cell
    obtain ⟨cp0, cp1⟩ := cp
    have ct := btW.cell
    have cf := bv.cell
    have ff := bv.frozen
    by_cases hyt : y = t
    · have e1 : ((y : Int) == (t : Int)) = true := by simp [hyt]
      have HE : Hid (srcL (pre ++ [(x, y)]) t = srcL pre t ++ [x]) := (by rw [srcL_app]; simp [srcL, hyt] : srcL (pre ++ [(x, y)]) t = srcL pre t ++ [x])
      have H : Hid (Turn (fun k => k = w.heap.size + 1) w3 W ∧ Boxed W (w.heap.size + 1) 47 (.slice ga (srcL pre t).length gc) ∧ W.ownsRow w3.heap.size 23 1 (.slice ga (srcL pre t).length gc) (srcL pre t).length ((srcL pre t).map idV) ∧ pre.length + 1 ≤ 65536) := ⟨hTW, bv, hrow, hlen⟩
      have HBX : Hid (Boxed W (w.heap.size + 1) 47 (.slice ga (srcL pre t).length gc)) := bv
      have hrow' := hrow.alloc (.cells #[.int .u64 (x : Int)] 23)
      clear hTW hrow bv hbx btW hx hyt
      generalize hPL : (srcL pre t).length = PL at *
      gi_wp2_with (gi_at_builtin; refine wpListIn_append_own _ rfl _ _ 47 rfl w3.heap.size 23 i0 (.int .u64 0) 1 8 Tryz.underlying47 hii hzz0 hzz1 hzz2 rfl (by decide) _ PL _ rfl hrow' ⟨W.heap.size, 0, none⟩ 1 1 [.int .u64 (x : Int)] rfl rfl (cell_one_new _ _ _) (by simp [Value.oneCell']) (by unfold maxLen; omega) (by omega) (by simp; omega) ?_; intro v' w5 hown5 hgr5 _; have hvo : (Value.slice ga PL gc).ownBlock ≠ some (w.heap.size + 1) := (fun e => by have := (irow_block hrow' _ e).1; omega); have b5 : Boxed w5 (w.heap.size + 1) 47 (.slice ga PL gc) := (HBX.out.alloc (.cells #[.int .u64 (x : Int)] 23)).kept hgr5 (fun e => hvo e.symm); have c5 := b5.cell; have f5 := b5.frozen; obtain ⟨ga5, gc5, hv5, _⟩ := irow_shape hown5; subst hv5; have H5 : Hid (Boxed w5 (w.heap.size + 1) 47 (.slice ga PL gc) ∧ w5.ownsRow w3.heap.size 23 1 (.slice ga5 (PL + 1) gc5) (PL + 1) ((srcL pre t).map idV ++ [.int .u64 (x : Int)]) ∧ (W.alloc (.cells #[.int .u64 (x : Int)] 23)).grownBy w5 (Value.slice ga PL gc).ownBlock) := ⟨b5, hown5, hgr5⟩; clear b5 hown5 hgr5)
      obtain ⟨b5, hown5, hgr5⟩ := H5.out
      obtain ⟨hTW, bv, hrow, _⟩ := H.out
      have hT5 : Turn (fun k => k = w.heap.size + 1 ∨ (Value.slice ga PL gc).ownBlock = some k) W (w5.setCell ⟨w.heap.size + 1, 0, none⟩ (.slice ga5 (PL + 1) gc5)) :=
        ((Turn.of_below _ ((Below.refl _ W).alloc (Nat.le_refl _) (.cells #[.int .u64 (x : Int)] 23))).trans (Turn.of_grownBy (Fp := fun k => (Value.slice ga PL gc).ownBlock = some k) hgr5 (fun k e => .inl e)) (fun _ _ e => .inr e)).trans (turn_setCell w5 (w.heap.size + 1) 0 _) (fun _ _ e => .inl e)
      have hvB : ∀ k, (Value.slice ga PL gc).ownBlock = some k → w3.heap.size ≤ k := fun k e => (irow_block hrow k e).1
      refine ⟨ikeepsFrom_turn hT5 (fun q o hq hB ho => ?_), ⟨hT5.size, fun q hq => hT5.block q (by rcases hq with hq | hq; omega; (have := H3.out.2.2.1 q hq; omega)) (by rintro (e | e); (rcases hq with hq | hq; omega; (have := H3.out.2.2.1 q hq; omega)); (have := hvB q e; rcases hq with hq | hq; omega; (have := H3.out.2.2.1 q hq; omega)))⟩, hTW.trans hT5 (fun q hq e => by rcases e with e | e; exact e; (have := hvB q e; omega)), by simp; omega, _, b5.set _, ?_⟩
      · rcases hq with e | e
        · omega
        · obtain ⟨_, _, cur, hc⟩ := irow_block hrow q e
          rw [hc] at ho; cases ho; rfl
      · rw [HE.out, List.length_append, hPL, List.map_append]
        refine irow_moved hown5 (fun q hq => ?_)
        have := (irow_block hown5 q hq).1
        exact Below.heap_setCell _ _ _ _ (by show q ≠ w.heap.size + 1; omega)
    · have e1 : ((y : Int) == (t : Int)) = false := by simp; omega
      have HE : Hid (srcL (pre ++ [(x, y)]) t = srcL pre t) := (by rw [srcL_app]; simp [srcL, hyt] : srcL (pre ++ [(x, y)]) t = srcL pre t)
      have HG : Hid (KeepsFrom w3.heap.size W W ∧ Keep (fun k => k = w.heap.size + 1 + 1 ∨ F k) W W ∧ SrcI (w.heap.size + 1) t w3 (pre ++ [(x, y)]) W) := by
        refine ⟨ikeepsFrom_turn (Turn.refl (fun _ => False) W) (fun q o hq => hq.elim), Keep.refl _ _, hTW, by simp; omega, _, bv, ?_⟩
        rw [HE.out]
        exact hrow
      clear hTW hrow bv hbx btW hx hyt HE
      gi_wp2
      exact HG.out
  case done =>
    rintro D xs W hD rfl ⟨hTW, hpl, v, bv, hrow⟩ hK
    have hs3 := H3.out.2.2.2.2.2.2
    have cf := bv.cell
    have HD : Hid (w3.heap.size ≤ D ∧ W.heap[D]? = some (.deferred (some [])) ∧ Turn (fun k => k = w.heap.size + 1) w3 W ∧ W.ownsRow w3.heap.size 23 1 v (srcL g.ps t).length ((srcL g.ps t).map idV)) := ⟨hD, hK, hTW, hrow⟩
    clear hTW hK bv hrow
    go_wp2_with fail
    obtain ⟨hD, hK, hTW, hrow⟩ := HD.out
    refine vfin_m (v := v) hK ?_ ?_
    · simp [results, Tryz.results29, go_sem]
    have hfin := (vturn_put (.deferred none) hTW hD).below (B := w.heap.size) (by have := H3.out.2.2.2.1.size; omega) (fun k e => by omega)
    refine ⟨v, rfl, ?_, H3.out.2.2.2.1.trans hfin⟩
    have hr2 : (W.putObj D (.deferred none)).ownsRow w3.heap.size 23 1 v (srcL g.ps t).length ((srcL g.ps t).map idV) := irow_moved hrow (fun q hq => by
      obtain ⟨_, _, cur, hc⟩ := irow_block hrow q hq
      exact World.putObj_heap_other (fun e => by subst e; rw [hK] at hc; cases hc))
    refine ⟨hr2.1, hr2.2.imp id ?_⟩
    rintro ⟨g, cap, cur, h1, h2, h3⟩
    exact ⟨g, cap, cur, h1, by omega, h3⟩
  case stop => exact fun D c pre W hD h hK => h.elim
end Go.Proofs.YtdjodigimhgklaaGreatDoor

/- The law's all: a memo's pairs, in a row of its own. -/
namespace Go.Proofs.YtdjodigimhgklaaGreatDoor
open Go.RowKit Go.Shelf Go.Maps

attribute [local go_sem] Oper.semAt_some

/-- what stands while a memo's pairs are put together in box F -/
def AllI (F : Nat) (w3 : World) (pre : List Pr) (W : World) : Prop :=
  Turn (fun k => k = F) w3 W ∧ pre.length ≤ 65536 ∧ ∃ v, Boxed W F 36 v ∧ W.ownsRow w3.heap.size 39 2 v pre.length (prCells pre)
theorem allI_own (F : Nat) (w3 : World) (hF : F < w3.heap.size) : OwnFrom w3.heap.size (AllI F w3) := by
  rintro pre X Y row ⟨hT, hp, v, h3, h4⟩ hgr hr
  refine ⟨vturn_own (β := List Pr) pre X Y row hT hgr hr, hp, v, h3.kept hgr (fun e => by have := (hr F e.symm).1; omega), row_movedV h4 (fun q hq => ?_)⟩
  obtain ⟨_, hlt, cur, hc⟩ := row_blockV h4 q hq
  refine hgr.block q hlt (fun e => ?_)
  obtain ⟨_, o, ho, hoc⟩ := hr q e.symm
  rw [hc] at ho
  cases ho
  cases hoc

set_option maxRecDepth 100000 in
set_option maxHeartbeats 8000000 in
theorem yall_any (w : World) (m d j : Nat) (g : Me) (vr : Value) (pa : Option Addr) (pc : Nat) (F : Nat → Prop) (h : MeAt w m d j g vr pa pc F) (hps : g.ps.length ≤ 65536) :
    Calls Tryz.prog 33 #[.pointer (some ⟨m, 0, none⟩)] w fun e w' => ∃ v, e = .returned v ∧ w'.ownsRow w.heap.size 39 2 v g.ps.length (prCells g.ps) ∧ Below w.heap.size w w' := by
  obtain ⟨w3, hw3⟩ : ∃ w3, w3 = (w.alloc (.cells #[.slice none 0 0] 36)).alloc (.cells #[.pointer (some ⟨m, 0, none⟩)] 28) := ⟨_, rfl⟩
  have hB3 : Below w.heap.size w w3 := by rw [hw3]; exact ((Below.refl _ w).alloc (Nat.le_refl _) _).alloc (by simp) _
  have hs3' : w3.heap.size = w.heap.size + 2 := by rw [hw3]; simp
  have bf3 : Boxed w3 w.heap.size 36 (.slice none 0 0) := by rw [hw3]; exact (Boxed.new w _ _).alloc _
  have bm3 : Boxed w3 (w.heap.size + 1) 28 (.pointer (some ⟨m, 0, none⟩)) := by
    rw [hw3]
    have := Boxed.new (w.alloc (.cells #[.slice none 0 0] 36)) 28 (.pointer (some ⟨m, 0, none⟩))
    rwa [World.size_alloc] at this
  have H3 : Hid (MeAt w3 m d j g vr pa pc F ∧ Boxed w3 (w.heap.size + 1) 28 (.pointer (some ⟨m, 0, none⟩)) ∧ (∀ k, F k → k < w.heap.size) ∧ Below w.heap.size w w3 ∧ Boxed w3 w.heap.size 36 (.slice none 0 0) ∧ w.heap.size + 2 ≤ w3.heap.size) := ⟨h.below hB3, bm3, h.lt, hB3, bf3, by omega⟩
  clear hB3 hs3' bf3 bm3 h
  refine (callsIn_wide (n := 5)).1 ?_
  refine callsIn_of_wp_marks Tryz.func33 rfl trivial ?_ rfl
  simp only [Tryz.ntmps33, List.size_toArray, List.length_cons, List.length_nil, Nat.reduceAdd, Nat.reduceSub, Array.replicate_succ, Array.replicate_zero, List.push_toArray, List.append_toArray, List.nil_append, List.cons_append]
  refine wpIn_wide.2 ?_
  go_wp2_with fail
  refine (meach_any _ _).mono ?_
  rintro e w' ⟨rfl, rfl⟩
  rw [← hw3]
  clear hw3
  go_wp2_with fail
  obtain ⟨i0, hii, hzz0, hzz1, hzz2⟩ := info_parts infoPr
  refine (wpIn_wide (n := 5)).1 ?_
  refine range_boxed (w := w3) rfl (by omega) (gf := 66) (lb := #[.pointer (some ⟨w.heap.size + 1, 0, none⟩)]) rfl trivial (enters_of Tryz.func66 (by kernel_rfl) rfl)
    (meach_tells w3 m d j g vr pa pc F H3.out.1 (w.heap.size + 1) H3.out.2.1 4 (by omega)) (fun _ => rfl) (fun k hk => hk.elim (fun e => by have := H3.out.2.2.2.2.2; omega) (fun e => H3.out.1.lt k e))
    (AllI w.heap.size w3) (fun _ _ _ => False)
    (allI_own _ _ (by have := H3.out.2.2.2.2.2; omega)) ?ix (fun _ _ _ _ _ _ h _ _ => h) ⟨Turn.refl _ _, Nat.zero_le _, _, H3.out.2.2.2.2.1, World.ownsRow_nil _ _ _ _⟩
    (fun x => .cells #[.int .u64 (x.1 : Int), .int .u64 (x.2 : Int)] 39) ?act ?assign ?body ?done ?stop
  case assign =>
    intro l x b W K hb hK
    unfold prE
    gi_wp2
    exact hK
  case ix => exact fun c pre X Y row h _ _ => h.elim
  case body =>
    rintro l pre ⟨x, y⟩ bx W hl3 hb3 (hbx : BoxV W bx x y) ⟨hTW, hpl, v, bv, hrow⟩ hx
    have hs3 := H3.out.2.2.2.2.2
    have hsW := hTW.size
    obtain ⟨ga, gc, rfl, _⟩ := row_shapeV hrow
    have hlen : pre.length + 1 ≤ 65536 := by
      have h1 := (List.getElem?_eq_some_iff.1 hx).1
      omega
    have cp := hbx.cell
    obtain ⟨cp0, cp1⟩ := cp
    have cf := bv.cell
    have ff := bv.frozen
    have H : Hid (Turn (fun k => k = w.heap.size) w3 W ∧ Boxed W w.heap.size 36 (.slice ga pre.length gc) ∧ W.ownsRow w3.heap.size 39 2 (.slice ga pre.length gc) pre.length (prCells pre) ∧ pre.length + 1 ≤ 65536) := ⟨hTW, bv, hrow, hlen⟩
    have HBX : Hid (Boxed W w.heap.size 36 (.slice ga pre.length gc)) := bv
    have hrow' := row_keptV hrow ((Below.refl _ W).alloc (Nat.le_refl _) (.cells #[.int .u64 (x : Int), .int .u64 (y : Int)] 39))
    clear hTW hrow bv hbx hx
    generalize hPL : pre.length = PL at *
    gi_wp2_with (gi_at_builtin; refine wpListIn_append_own _ rfl _ _ 36 rfl w3.heap.size 39 i0 _ 2 16 Tryz.underlying36 hii hzz0 hzz1 hzz2 rfl (by decide) _ PL _ rfl hrow' ⟨W.heap.size, 0, none⟩ 1 1 [.int .u64 (x : Int), .int .u64 (y : Int)] rfl rfl (cells_pr_new W (x, y)) (by simp [Value.oneCell']) (by unfold maxLen; omega) (by omega) (by simp; omega) ?_; intro v' w5 hown5 hgr5 _; have hvo : (Value.slice ga PL gc).ownBlock ≠ some w.heap.size := (fun e => by have := (row_blockV hrow' _ e).1; omega); have b5 : Boxed w5 w.heap.size 36 (.slice ga PL gc) := (HBX.out.alloc (.cells #[.int .u64 (x : Int), .int .u64 (y : Int)] 39)).kept hgr5 (fun e => hvo e.symm); have c5 := b5.cell; have f5 := b5.frozen; obtain ⟨ga5, gc5, hv5, _⟩ := row_shapeV hown5; subst hv5; have H5 : Hid (Boxed w5 w.heap.size 36 (.slice ga PL gc) ∧ w5.ownsRow w3.heap.size 39 2 (.slice ga5 (PL + 1) gc5) (PL + 1) (prCells pre ++ [.int .u64 (x : Int), .int .u64 (y : Int)]) ∧ (W.alloc (.cells #[.int .u64 (x : Int), .int .u64 (y : Int)] 39)).grownBy w5 (Value.slice ga PL gc).ownBlock) := ⟨b5, hown5, hgr5⟩; clear b5 hown5 hgr5)
    obtain ⟨b5, hown5, hgr5⟩ := H5.out
    obtain ⟨hTW, bv, hrow, _⟩ := H.out
    have hT5 : Turn (fun k => k = w.heap.size ∨ (Value.slice ga PL gc).ownBlock = some k) W (w5.setCell ⟨w.heap.size, 0, none⟩ (.slice ga5 (PL + 1) gc5)) :=
      ((Turn.of_below _ ((Below.refl _ W).alloc (Nat.le_refl _) (.cells #[.int .u64 (x : Int), .int .u64 (y : Int)] 39))).trans (Turn.of_grownBy (Fp := fun k => (Value.slice ga PL gc).ownBlock = some k) hgr5 (fun k e => .inl e)) (fun _ _ e => .inr e)).trans (turn_setCell w5 w.heap.size 0 _) (fun _ _ e => .inl e)
    have hvB : ∀ k, (Value.slice ga PL gc).ownBlock = some k → w3.heap.size ≤ k := fun k e => (row_blockV hrow k e).1
    refine ⟨ikeepsFrom_turn hT5 (fun q o hq hB ho => ?_), ⟨hT5.size, fun q hq => hT5.block q (by rcases hq with hq | hq; omega; (have := H3.out.2.2.1 q hq; omega)) (by rintro (e | e); (rcases hq with hq | hq; omega; (have := H3.out.2.2.1 q hq; omega)); (have := hvB q e; rcases hq with hq | hq; omega; (have := H3.out.2.2.1 q hq; omega)))⟩, hTW.trans hT5 (fun q hq e => by rcases e with e | e; exact e; (have := hvB q e; omega)), by simp; omega, _, b5.set _, ?_⟩
    · rcases hq with e | e
      · omega
      · obtain ⟨_, _, cur, hc⟩ := row_blockV hrow q e
        rw [hc] at ho; cases ho; rfl
    · rw [List.length_append, hPL, prCells_append]
      refine row_movedV hown5 (fun q hq => ?_)
      have := (row_blockV hown5 q hq).1
      exact Below.heap_setCell _ _ _ _ (by show q ≠ w.heap.size; omega)
  case done =>
    rintro D xs W hD rfl ⟨hTW, hpl, v, bv, hrow⟩ hK
    have hs3 := H3.out.2.2.2.2.2
    have cf := bv.cell
    have HD : Hid (w3.heap.size ≤ D ∧ W.heap[D]? = some (.deferred (some [])) ∧ Turn (fun k => k = w.heap.size) w3 W ∧ W.ownsRow w3.heap.size 39 2 v g.ps.length (prCells g.ps)) := ⟨hD, hK, hTW, hrow⟩
    clear hTW hK bv hrow
    go_wp2_with fail
    obtain ⟨hD, hK, hTW, hrow⟩ := HD.out
    refine vfin_m (v := v) hK ?_ ?_
    · simp [results, Tryz.results33, go_sem]
    have hfin := (vturn_put (.deferred none) hTW hD).below (B := w.heap.size) (by have := H3.out.2.2.2.1.size; omega) (fun k e => by omega)
    refine ⟨v, rfl, ?_, H3.out.2.2.2.1.trans hfin⟩
    refine row_baseV (base := w3.heap.size) (row_movedV hrow (fun q hq => ?_)) (by omega)
    obtain ⟨_, _, cur, hc⟩ := row_blockV hrow q hq
    exact World.putObj_heap_other (fun e => by subst e; rw [hK] at hc; cases hc)
  case stop => exact fun D c pre W hD h hK => h.elim
end Go.Proofs.YtdjodigimhgklaaGreatDoor

/- The memo's Add. -/
namespace Go.Proofs.YtdjodigimhgklaaGreatDoor
open Go.RowKit Go.Shelf Go.Maps

attribute [local go_sem] Oper.semAt_some

theorem newsS_facts {ps acc out : List Pr} {p : Pr} (h : newsS ps acc p = some out) : (out = acc ++ [p] ∧ lookP ps p.1 = none) ∨ out = acc := by
  unfold newsS at h
  split at h
  · rename_i h1
    cases h
    exact .inl ⟨rfl, h1⟩
  · split at h
    · cases h
      exact .inr rfl
    · cases h
theorem newsR_facts (ps : List Pr) : ∀ (L acc out : List Pr), newsR ps acc L = some out → ∃ f, out = acc ++ f ∧ f.Sublist L ∧ ∀ p ∈ f, lookP ps p.1 = none
  | [], acc, out, h => by
    cases h
    exact ⟨[], by simp, List.Sublist.refl _, fun p hp => by cases hp⟩
  | p :: r, acc, out, h => by
    simp only [newsR] at h
    cases hs : newsS ps acc p with
    | none => rw [hs] at h; cases h
    | some z =>
      rw [hs] at h
      obtain ⟨f, rfl, h1, h2⟩ := newsR_facts ps r z out h
      rcases newsS_facts hs with ⟨rfl, hl⟩ | rfl
      · exact ⟨p :: f, by simp, h1.cons_cons p, fun q hq => by
          rcases List.mem_cons.1 hq with rfl | hq
          · exact hl
          · exact h2 q hq⟩
      · exact ⟨f, rfl, h1.cons p, h2⟩
theorem MS.failed {Q : Nat → Prop} {w : World} {m d j : Nat} {g : Me} {rs : List (List UInt8)} {sz : Nat} {jc : Bool} {S : DG} (h : MS Q w m d j g rs sz jc S) (b : Bool) : MS Q (w.setCell ⟨m, 6, none⟩ (.bool b)) m d j { g with failed := b } rs sz jc S ∧ Turn (fun k => k = m) w (w.setCell ⟨m, 6, none⟩ (.bool b)) := by
  obtain ⟨vr, pa, pc, FM, FJ, G, h1, h2, h3, h4, h5, h6⟩ := h
  have hT := turn_setCell w m 6 (.bool b)
  refine ⟨⟨vr, pa, pc, FM, FJ, G, ?_, ?_, ?_, h4, h5, h6⟩, hT⟩
  · exact {
      box := seven_set6 h1.box _
      row := yrow_move h1.row fun k e => hT.block k (h1.lt k (h1.fr k e).1) (h1.fr k e).2
      prs := h1.prs.blocks fun h0 x e => hT.block _ (h1.lt _ (h1.fp h0 x e).1) (h1.fp h0 x e).2
      ris := h1.ris
      ok := h1.ok
      small := h1.small
      fm := h1.fm
      fr := h1.fr
      fp := h1.fp
      lt := fun k hk => Nat.lt_of_lt_of_le (h1.lt k hk) hT.size }
  · exact h2.kept hT.size fun k hk => hT.block k (h2.lt k hk) fun e => by subst e; exact (h4 _ h1.fm).1 hk
  · exact h3.turn hT fun k hk e => by subst e; exact (h4 _ h1.fm).2 hk
/-- what became of a memo by an Add -/
def AddR (g : Me) (l : List Pr) (rs : List (List UInt8)) (sz : Nat) (jc : Bool) (S : DG) (er : Int) (g' : Me) (rs' : List (List UInt8)) (sz' : Nat) (jc' : Bool) (S' : DG) : Prop :=
  ((g' = g ∧ rs' = rs ∧ sz' = sz ∧ jc' = jc ∧ S' = S) ∧ ((g.failed = true ∧ er = 6) ∨ (g.failed = false ∧ (∃ p ∈ l, p.1 = 0) ∧ er = 2) ∨ (g.failed = false ∧ (∀ p ∈ l, p.1 ≠ 0) ∧ ¬ Once l ∧ er = 5) ∨
    (g.failed = false ∧ (∀ p ∈ l, p.1 ≠ 0) ∧ Once l ∧ ∃ d, GoodV d ∧ d.Perm l ∧ ((newsR g.ps [] d = none ∧ er = 5) ∨ (newsR g.ps [] d = some [] ∧ er = 0) ∨ ∃ news, newsR g.ps [] d = some news ∧ news ≠ [] ∧ 65536 < g.ps.length + news.length ∧ er = 3)))) ∨
  (g.failed = false ∧ (∀ p ∈ l, p.1 ≠ 0) ∧ Once l ∧ ∃ d news g1, GoodV d ∧ d.Perm l ∧ newsR g.ps [] d = some news ∧ news ≠ [] ∧ g.ps.length + news.length ≤ 65536 ∧ LayR g news rs sz S er g1 rs' sz' jc' S' ∧ g' = { g1 with failed := decide (er ≠ 0) })
/-- what Add answers -/
def AddA (Q : Nat → Prop) (w : World) (m d j : Nat) (g : Me) (l : List Pr) (rs : List (List UInt8)) (sz : Nat) (jc : Bool) (S : DG) (e : Ending) (w' : World) : Prop :=
  Turn Q w w' ∧ ∃ er g' rs' sz' jc' S', e = .returned (.int .i64 er) ∧ AddR g l rs sz jc S er g' rs' sz' jc' S' ∧ MS (grow Q w w') w' m d j g' rs' sz' jc' S'
theorem add_same {Q : Nat → Prop} {w w' : World} {m d j : Nat} {g : Me} {l : List Pr} {rs : List (List UInt8)} {sz : Nat} {jc : Bool} {S : DG} {er : Int} (h : MS Q w m d j g rs sz jc S) (hB : Below w.heap.size w w') (hR : AddR g l rs sz jc S er g rs sz jc S) : AddA Q w m d j g l rs sz jc S (.returned (.int .i64 er)) w' :=
  ⟨Turn.of_below Q hB, er, g, rs, sz, jc, S, rfl, hR, (h.below hB).wide fun _ hk => .inl hk⟩

set_option maxRecDepth 100000 in
set_option maxHeartbeats 8000000 in
theorem yadd_any (Q : Nat → Prop) (w : World) (m d j : Nat) (g : Me) (rs : List (List UInt8)) (sz : Nat) (jc : Bool) (S : DG) (h : MS Q w m d j g rs sz jc S) (hQ : ∀ k, Q k → k < w.heap.size) (hjc : g.failed = false → jc = false)
    (a : Option Addr) (n c : Nat) (l : List Pr) (hp : PrV w a n c l) (hok : PrOk l) (hps0 : ∀ p ∈ g.ps, p.1 ≠ 0) (hn : n ≤ 65536)
    (hkey : g.key < 18446744073709551616) (htop : g.top + 1 < 100) (hruns : ∀ x ∈ g.runs, x < 100) (hrl : g.runs.length ≤ 4)
    (hbs : (S.bs (nmB g.key (g.top + 1))).length ≤ 4194304) (hSn : S.n ≤ 256) (hSw : S.wr < 4000000000000000000)
    (hlay : ∀ news : List Pr, (∀ p ∈ news, p ∈ l) → news.length ≤ n → ((layS1 g news S).2 = 0 → ((layS1 g news S).1.bs (nmB g.key 0)).length ≤ 4194304 ∧ sz ≤ ((layS1 g news S).1.bs (nmB g.key 0)).length ∧ (layS1 g news S).1.n ≤ 256 ∧ (layS1 g news S).1.wr < 4000000000000000000) ∧
      ((layS2 g news S).2 = 0 → (layS2 g news S).1.wr < 4000000000000000000)) :
    Calls Tryz.prog 13 #[.pointer (some ⟨m, 0, none⟩), .slice a n c] w (AddA Q w m d j g l rs sz jc S) := by
  have HM : Hid (MS Q w m d j g rs sz jc S) := h
  have HC : Hid (∀ Y, Below w.heap.size w Y → Y.cell? ⟨m, 4, none⟩ = some (.int .i64 (g.top : Int)) ∧ (∃ pa pc, Y.cell? ⟨m, 5, none⟩ = some (.slice pa g.ps.length pc)) ∧ Y.cell? ⟨m, 6, none⟩ = some (.bool g.failed)) := fun Y hY => by
    obtain ⟨vr, pa, pc, FM, FJ, G, h1, _⟩ := h.below hY
    obtain ⟨_, _, _, _, q4, q5, q6⟩ := h1.cells
    exact ⟨q4, ⟨pa, pc, q5⟩, q6⟩
  have c6 := (HC.out w (Below.refl _ _)).2.2
  have hpl := hp.prs.1
  have hmk := make_any w a n c l hp.prs hok hp.nil hn
  have Hok : Hid (PrOk l) := hok
  clear h hp hok
  go_enter Tryz.func13, Tryz.ntmps13
  cases hf : g.failed with
  | true =>
    rw [hf] at c6
    have HZ : Hid (AddA Q w m d j g l rs sz jc S (.returned (.int .i64 6)) w) := add_same HM.out (Below.refl _ _) (.inl ⟨⟨rfl, rfl, rfl, rfl, rfl⟩, .inl ⟨hf, rfl⟩⟩)
    clear hmk
    go_wp2
    go_ret
    exact HZ.out
  | false =>
    rw [hf] at c6
    have hj := hjc hf
    subst hj
    go_wp2_with fail
    refine hmk.mono ?_
    clear hmk c6
    rintro e w1 ⟨v1, er1, rfl, hE, hB1⟩
    rcases hE with ⟨h1, rfl, rfl⟩ | ⟨h1, h2, rfl, rfl⟩ | ⟨dl, ad, cp, hg, hpm, h0, ho, rfl, rfl, hown⟩
    · have HZ : Hid (AddA Q w m d j g l rs sz false S (.returned (.int .i64 2)) w1) := add_same HM.out hB1 (.inl ⟨⟨rfl, rfl, rfl, rfl, rfl⟩, .inr (.inl ⟨hf, h1, rfl⟩)⟩)
      clear h1 hB1
      go_wp2
      go_ret
      exact HZ.out
    · have HZ : Hid (AddA Q w m d j g l rs sz false S (.returned (.int .i64 5)) w1) := add_same HM.out hB1 (.inl ⟨⟨rfl, rfl, rfl, rfl, rfl⟩, .inr (.inr (.inl ⟨hf, h1, h2, rfl⟩))⟩)
      clear h1 h2 hB1
      go_wp2
      go_ret
      exact HZ.out
    · obtain ⟨hby, hbn, hbc⟩ := own_slice hown
      have hbl : (runB dl).length ≤ 2000000 := by
        rw [runB_len]
        have := short_len dl.length
        have := hg.len
        omega
      have HD : Hid (GoodV dl ∧ dl.Perm l ∧ (∀ p ∈ l, p.1 ≠ 0) ∧ Once l) := ⟨hg, hpm, h0, ho⟩
      have hne : Calls Tryz.prog 42 #[.pointer (some ⟨m, 0, none⟩), .slice ad (runB dl).length cp] w1 (NewsA w1 g.ps dl) := by
        obtain ⟨vr, pa, pc, FM, FJ, G, h1, _⟩ := HM.out.below hB1
        have := news_anyY w1 m d j g vr pa pc FM h1 ad (runB dl).length cp (runB dl) hby (fun e => (hbn e).1) hbc (by omega)
        rwa [show eachL (runB dl) = dl from by unfold eachL; rw [pairs_runB hg]; rfl] at this
      have hB1' : Hid (Below w.heap.size w w1) := hB1
      clear hby hbn hbc hown hg hpm h0 ho hB1
      generalize (runB dl).length = BL at *
      go_wp2_with fail
      refine hne.mono ?_
      clear hne
      rintro e w2 ⟨hB2, hcase⟩
      have HB : Hid (Below w.heap.size w w2) := hB1'.out.trans (hB2.mono hB1'.out.size)
      clear hB2
      rcases hcase with ⟨hnn, rfl⟩ | ⟨out, oa, oc, hnn, rfl, hown⟩
      · have HZ : Hid (AddA Q w m d j g l rs sz false S (.returned (.int .i64 5)) w2) := add_same HM.out HB.out (.inl ⟨⟨rfl, rfl, rfl, rfl, rfl⟩, .inr (.inr (.inr ⟨hf, HD.out.2.2.1, HD.out.2.2.2, dl, HD.out.1, HD.out.2.1, .inl ⟨hnn, rfl⟩⟩))⟩)
        clear hnn
        go_wp2
        go_ret
        exact HZ.out
      · obtain ⟨q4, ⟨pa, pc, q5⟩, _⟩ := HC.out w2 HB.out
        obtain ⟨oa', oc', e', hpv, hol⟩ := own_prv hown
        cases e'
        obtain ⟨f, ef, hsub, hno⟩ := newsR_facts g.ps dl [] out hnn
        rw [List.nil_append] at ef
        subst ef
        have hdl := HD.out.1.len
        have hol2 : out.length ≤ dl.length := hsub.length_le
        have hdn : dl.length = l.length := HD.out.2.1.length_eq
        have hris := (risF_iff dl 0).1 HD.out.1.ris
        have HO : Hid (PrV w2 oa out.length oc out ∧ Ris out ∧ PrOk out ∧ (∀ p ∈ out, p.1 ≠ 0) ∧ (∀ p ∈ out, lookP g.ps p.1 = none) ∧ (∀ p ∈ out, p ∈ l) ∧ newsR g.ps [] dl = some out) :=
          ⟨hpv, hris.1.sublist hsub, fun p hp => HD.out.1.ok p (hsub.subset hp), fun p hp => by have := hris.2 p (hsub.subset hp); omega, hno, fun p hp => HD.out.2.1.mem_iff.1 (hsub.subset hp), hnn⟩
        clear hnn hown hpv hsub hno hris
        have hsm : g.ps.length ≤ 1000000 := by
          obtain ⟨vr, pa, pc, FM, FJ, G, h1, _⟩ := HM.out
          exact h1.small
        by_cases hz : out.length = 0
        · have i1 : ((out.length : Int) == 0) = true := by simp [hz]
          have HZ : Hid (AddA Q w m d j g l rs sz false S (.returned (.int .i64 0)) w2) := add_same HM.out HB.out (.inl ⟨⟨rfl, rfl, rfl, rfl, rfl⟩, .inr (.inr (.inr ⟨hf, HD.out.2.2.1, HD.out.2.2.2, dl, HD.out.1, HD.out.2.1, .inr (.inl ⟨by rw [HO.out.2.2.2.2.2.2, List.eq_nil_of_length_eq_zero hz], rfl⟩)⟩))⟩)
          go_wp2
          go_ret
          exact HZ.out
        · have i1 : ((out.length : Int) == 0) = false := by simpa using hz
          have hne : out ≠ [] := fun e => hz (by rw [e]; rfl)
          by_cases hbig : 65536 < g.ps.length + out.length
          · have i2 : (65536 : Int) < (g.ps.length : Int) + (out.length : Int) := by omega
            have HZ : Hid (AddA Q w m d j g l rs sz false S (.returned (.int .i64 3)) w2) := add_same HM.out HB.out (.inl ⟨⟨rfl, rfl, rfl, rfl, rfl⟩, .inr (.inr (.inr ⟨hf, HD.out.2.2.1, HD.out.2.2.2, dl, HD.out.1, HD.out.2.1, .inr (.inr ⟨out, HO.out.2.2.2.2.2.2, hne, hbig, rfl⟩)⟩))⟩)
            clear hne
            go_wp2
            go_ret
            exact HZ.out
          · have i2 : ¬ (65536 : Int) < (g.ps.length : Int) + (out.length : Int) := by omega
            have i3 : ((g.top : Int) == 2147483648) = false := by simp; omega
            have s2 := HB.out.size
            obtain ⟨hl1, hl2⟩ := hlay out HO.out.2.2.2.2.2.1 (by omega)
            have hla := lay_any Q w2 m d j g rs sz S (HM.out.below HB.out) (fun k hk => Nat.lt_of_lt_of_le (hQ k hk) s2) oa out.length oc out HO.out.1 HO.out.2.1 HO.out.2.2.1 HO.out.2.2.2.1 hps0 HO.out.2.2.2.2.1 (by omega) hkey htop hruns hrl hbs hSn hSw hl1 hl2
            have HN : Hid (out ≠ []) := hne
            clear hl1 hl2 hlay hne
            go_wp2_with fail
            refine hla.mono ?_
            clear hla
            rintro e w3 ⟨hT3, er3, g1, rs1, sz1, jc1, S1, rfl, hR, hM3⟩
            have HR : Hid (LayR g out rs sz S er3 g1 rs1 sz1 jc1 S1 ∧ MS (grow Q w2 w3) w3 m d j g1 rs1 sz1 jc1 S1 ∧ Turn Q w2 w3) := ⟨hR, hM3, hT3⟩
            have c6 : w3.cell? ⟨m, 6, none⟩ = some (.bool g1.failed) ∧ w3.frozen? ⟨m, 6, none⟩ = false := by
              obtain ⟨vr, pa, pc, FM, FJ, G, h1, _⟩ := hM3
              exact ⟨h1.cells.2.2.2.2.2.2, h1.frozen 6⟩
            obtain ⟨c6, f6⟩ := c6
            clear hR hM3 hT3 q4 q5
            have HZ : Hid (AddA Q w m d j g l rs sz false S (.returned (.int .i64 er3)) (w3.setCell ⟨m, 6, none⟩ (.bool (decide (er3 ≠ 0))))) := by
              obtain ⟨hM4, hT4⟩ := HR.out.2.1.failed (decide (er3 ≠ 0))
              have hQm : grow Q w2 w3 m := by
                obtain ⟨vr, pa, pc, FM, FJ, G, h1, _, _, _, _, h6⟩ := HR.out.2.1
                exact h6 m (.inl h1.fm)
              have s3 := HR.out.2.2.size
              refine ⟨((Turn.of_below Q HB.out).trans HR.out.2.2 (fun _ _ e => e)).trans hT4 (fun k hk e => by
                subst e
                rcases hQm with h | h
                · exact h
                · omega), er3, _, rs1, sz1, jc1, S1, rfl, .inr ⟨hf, HD.out.2.2.1, HD.out.2.2.2, dl, out, g1, HD.out.1, HD.out.2.1, HO.out.2.2.2.2.2.2, HN.out, by omega, HR.out.1, rfl⟩, hM4.wide fun k hk => ?_⟩
              have s4 := hT4.size
              rcases hk with hk | hk
              · exact .inl hk
              · exact .inr ⟨by omega, by omega⟩
            by_cases he : er3 = 0
            · subst he
              rw [show decide ((0 : Int) ≠ 0) = false from rfl] at HZ
              go_wp2
              go_ret
              exact HZ.out
            · have i4 : (er3 != 0) = true := by simp [he]
              have i5 : decide (er3 ≠ 0) = true := by simp [he]
              rw [i5] at HZ
              go_wp2
              go_ret
              exact HZ.out
end Go.Proofs.YtdjodigimhgklaaGreatDoor
