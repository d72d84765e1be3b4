import Derived.Test.YtdjodigimhgklaaGreatDoorN35
import Derived.Test.YtdjodigimhgklaaGreatDoorN30
import Derived.Test.YtdjodigimhgklaaGreatDoorN36
/- The memo's Sources. -/
namespace Go.Proofs.YtdjodigimhgklaaGreatDoor
open Go.RowKit Go.Shelf Go.Maps

attribute [local go_sem] Oper.semAt_some

set_option maxRecDepth 100000 in
set_option maxHeartbeats 8000000 in
theorem ysources_any (w : World) (m d j : Nat) (g : Me) (vr : Value) (pa : Option Addr) (pc : Nat) (F : Nat → Prop) (h : MeAt w m d j g vr pa pc F) (hps : g.ps.length ≤ 65536) (t : Nat) :
    Calls Tryz.prog 29 #[.pointer (some ⟨m, 0, none⟩), .int .u64 (t : Int)] w fun e w' => ∃ v, e = .returned v ∧ w'.ownsRow w.heap.size 23 1 v (srcL g.ps t).length ((srcL g.ps t).map idV) ∧ Below w.heap.size w w' := by
  obtain ⟨w3, hw3⟩ : ∃ w3, w3 = ((w.alloc (.cells #[.int .u64 (t : Int)] 23)).alloc (.cells #[.slice none 0 0] 47)).alloc (.cells #[.pointer (some ⟨m, 0, none⟩)] 28) := ⟨_, rfl⟩
  have hB3 : Below w.heap.size w w3 := by rw [hw3]; exact (((Below.refl _ w).alloc (Nat.le_refl _) _).alloc (by simp) _).alloc (by simp; omega) _
  have hs3' : w3.heap.size = w.heap.size + 3 := by rw [hw3]; simp
  have bt3 : Boxed w3 w.heap.size 23 (.int .u64 (t : Int)) := by rw [hw3]; exact ((Boxed.new w _ _).alloc _).alloc _
  have bf3 : Boxed w3 (w.heap.size + 1) 47 (.slice none 0 0) := by
    rw [hw3]
    have := (Boxed.new (w.alloc (.cells #[.int .u64 (t : Int)] 23)) 47 (.slice none 0 0)).alloc (.cells #[.pointer (some ⟨m, 0, none⟩)] 28)
    rwa [World.size_alloc] at this
  have bm3 : Boxed w3 (w.heap.size + 2) 28 (.pointer (some ⟨m, 0, none⟩)) := by
    rw [hw3]
    have := Boxed.new ((w.alloc (.cells #[.int .u64 (t : Int)] 23)).alloc (.cells #[.slice none 0 0] 47)) 28 (.pointer (some ⟨m, 0, none⟩))
    rwa [World.size_alloc, World.size_alloc] at this
  have H3 : Hid (MeAt w3 m d j g vr pa pc F ∧ Boxed w3 (w.heap.size + 2) 28 (.pointer (some ⟨m, 0, none⟩)) ∧ (∀ k, F k → k < w.heap.size) ∧ Below w.heap.size w w3 ∧ Boxed w3 w.heap.size 23 (.int .u64 (t : Int)) ∧ Boxed w3 (w.heap.size + 1) 47 (.slice none 0 0) ∧ w.heap.size + 3 ≤ w3.heap.size) := ⟨h.below hB3, bm3, h.lt, hB3, bt3, bf3, by omega⟩
  clear hB3 hs3' bt3 bf3 bm3 h
  refine (callsIn_wide (n := 5)).1 ?_
  refine callsIn_of_wp_marks Tryz.func29 rfl trivial ?_ rfl
  simp only [Tryz.ntmps29, List.size_toArray, List.length_cons, List.length_nil, Nat.reduceAdd, Nat.reduceSub, Array.replicate_succ, Array.replicate_zero, List.push_toArray, List.append_toArray, List.nil_append, List.cons_append]
  refine wpIn_wide.2 ?_
  go_wp2_with fail
  refine (meach_any _ _).mono ?_
  rintro e w' ⟨rfl, rfl⟩
  rw [← hw3]
  clear hw3
  go_wp2_with fail
  obtain ⟨i0, hii, hzz0, hzz1, hzz2⟩ := info_parts infoIdV
  refine (wpIn_wide (n := 5)).1 ?_
  refine range_boxed (w := w3) rfl (by omega) (gf := 66) (lb := #[.pointer (some ⟨w.heap.size + 1 + 1, 0, none⟩)]) rfl trivial (enters_of Tryz.func66 (by kernel_rfl) rfl)
    (meach_tells w3 m d j g vr pa pc F H3.out.1 (w.heap.size + 1 + 1) H3.out.2.1 4 (by omega)) (fun _ => rfl) (fun k hk => hk.elim (fun e => by have := H3.out.2.2.2.2.2.2; omega) (fun e => H3.out.1.lt k e))
    (SrcI (w.heap.size + 1) t w3) (fun _ _ _ => False)
    (srcI_own _ _ _ (by have := H3.out.2.2.2.2.2.2; omega)) ?ix (fun _ _ _ _ _ _ h _ _ => h) ⟨Turn.refl _ _, Nat.zero_le _, _, H3.out.2.2.2.2.2.1, World.ownsRow_nil _ _ _ _⟩
    (fun x => .cells #[.int .u64 (x.1 : Int), .int .u64 (x.2 : Int)] 39) ?act ?assign ?body ?done ?stop
  case assign =>
    intro l x b W K hb hK
    unfold prE
    gi_wp2
    exact hK
  case ix => exact fun c pre X Y row h _ _ => h.elim
  case body =>
    rintro l pre ⟨x, y⟩ bx W hl3 hb3 (hbx : BoxV W bx x y) ⟨hTW, hpl, v, bv, hrow⟩ hx
    have hs3 := H3.out.2.2.2.2.2.2
    have hsW := hTW.size
    have btW : Boxed W w.heap.size 23 (.int .u64 (t : Int)) := (hTW.block _ (by omega) (by omega)).trans H3.out.2.2.2.2.1
    obtain ⟨ga, gc, rfl, _⟩ := irow_shape hrow
    have hlen : pre.length + 1 ≤ 65536 := by
      have h1 := (List.getElem?_eq_some_iff.1 hx).1
      omega
    have hsl := srcL_len pre t
    have cp := hbx.cell
    obtain ⟨cp0, cp1⟩ := cp
    have ct := btW.cell
    have cf := bv.cell
    have ff := bv.frozen
    by_cases hyt : y = t
    · have e1 : ((y : Int) == (t : Int)) = true := by simp [hyt]
      have HE : Hid (srcL (pre ++ [(x, y)]) t = srcL pre t ++ [x]) := (by rw [srcL_app]; simp [srcL, hyt] : srcL (pre ++ [(x, y)]) t = srcL pre t ++ [x])
      have H : Hid (Turn (fun k => k = w.heap.size + 1) w3 W ∧ Boxed W (w.heap.size + 1) 47 (.slice ga (srcL pre t).length gc) ∧ W.ownsRow w3.heap.size 23 1 (.slice ga (srcL pre t).length gc) (srcL pre t).length ((srcL pre t).map idV) ∧ pre.length + 1 ≤ 65536) := ⟨hTW, bv, hrow, hlen⟩
      have HBX : Hid (Boxed W (w.heap.size + 1) 47 (.slice ga (srcL pre t).length gc)) := bv
      have hrow' := hrow.alloc (.cells #[.int .u64 (x : Int)] 23)
      clear hTW hrow bv hbx btW hx hyt
      generalize hPL : (srcL pre t).length = PL at *
      gi_wp2_with (gi_at_builtin; refine wpListIn_append_own _ rfl _ _ 47 rfl w3.heap.size 23 i0 (.int .u64 0) 1 8 Tryz.underlying47 hii hzz0 hzz1 hzz2 rfl (by decide) _ PL _ rfl hrow' ⟨W.heap.size, 0, none⟩ 1 1 [.int .u64 (x : Int)] rfl rfl (cell_one_new _ _ _) (by simp [Value.oneCell']) (by unfold maxLen; omega) (by omega) (by simp; omega) ?_; intro v' w5 hown5 hgr5 _; have hvo : (Value.slice ga PL gc).ownBlock ≠ some (w.heap.size + 1) := (fun e => by have := (irow_block hrow' _ e).1; omega); have b5 : Boxed w5 (w.heap.size + 1) 47 (.slice ga PL gc) := (HBX.out.alloc (.cells #[.int .u64 (x : Int)] 23)).kept hgr5 (fun e => hvo e.symm); have c5 := b5.cell; have f5 := b5.frozen; obtain ⟨ga5, gc5, hv5, _⟩ := irow_shape hown5; subst hv5; have H5 : Hid (Boxed w5 (w.heap.size + 1) 47 (.slice ga PL gc) ∧ w5.ownsRow w3.heap.size 23 1 (.slice ga5 (PL + 1) gc5) (PL + 1) ((srcL pre t).map idV ++ [.int .u64 (x : Int)]) ∧ (W.alloc (.cells #[.int .u64 (x : Int)] 23)).grownBy w5 (Value.slice ga PL gc).ownBlock) := ⟨b5, hown5, hgr5⟩; clear b5 hown5 hgr5)
      obtain ⟨b5, hown5, hgr5⟩ := H5.out
      obtain ⟨hTW, bv, hrow, _⟩ := H.out
      have hT5 : Turn (fun k => k = w.heap.size + 1 ∨ (Value.slice ga PL gc).ownBlock = some k) W (w5.setCell ⟨w.heap.size + 1, 0, none⟩ (.slice ga5 (PL + 1) gc5)) :=
        ((Turn.of_below _ ((Below.refl _ W).alloc (Nat.le_refl _) (.cells #[.int .u64 (x : Int)] 23))).trans (Turn.of_grownBy (Fp := fun k => (Value.slice ga PL gc).ownBlock = some k) hgr5 (fun k e => .inl e)) (fun _ _ e => .inr e)).trans (turn_setCell w5 (w.heap.size + 1) 0 _) (fun _ _ e => .inl e)
      have hvB : ∀ k, (Value.slice ga PL gc).ownBlock = some k → w3.heap.size ≤ k := fun k e => (irow_block hrow k e).1
      refine ⟨ikeepsFrom_turn hT5 (fun q o hq hB ho => ?_), ⟨hT5.size, fun q hq => hT5.block q (by rcases hq with hq | hq; omega; (have := H3.out.2.2.1 q hq; omega)) (by rintro (e | e); (rcases hq with hq | hq; omega; (have := H3.out.2.2.1 q hq; omega)); (have := hvB q e; rcases hq with hq | hq; omega; (have := H3.out.2.2.1 q hq; omega)))⟩, hTW.trans hT5 (fun q hq e => by rcases e with e | e; exact e; (have := hvB q e; omega)), by simp; omega, _, b5.set _, ?_⟩
      · rcases hq with e | e
        · omega
        · obtain ⟨_, _, cur, hc⟩ := irow_block hrow q e
          rw [hc] at ho; cases ho; rfl
      · rw [HE.out, List.length_append, hPL, List.map_append]
        refine irow_moved hown5 (fun q hq => ?_)
        have := (irow_block hown5 q hq).1
        exact Below.heap_setCell _ _ _ _ (by show q ≠ w.heap.size + 1; omega)
    · have e1 : ((y : Int) == (t : Int)) = false := by simp; omega
      have HE : Hid (srcL (pre ++ [(x, y)]) t = srcL pre t) := (by rw [srcL_app]; simp [srcL, hyt] : srcL (pre ++ [(x, y)]) t = srcL pre t)
      have HG : Hid (KeepsFrom w3.heap.size W W ∧ Keep (fun k => k = w.heap.size + 1 + 1 ∨ F k) W W ∧ SrcI (w.heap.size + 1) t w3 (pre ++ [(x, y)]) W) := by
        refine ⟨ikeepsFrom_turn (Turn.refl (fun _ => False) W) (fun q o hq => hq.elim), Keep.refl _ _, hTW, by simp; omega, _, bv, ?_⟩
        rw [HE.out]
        exact hrow
      clear hTW hrow bv hbx btW hx hyt HE
      gi_wp2
      exact HG.out
  case done =>
    rintro D xs W hD rfl ⟨hTW, hpl, v, bv, hrow⟩ hK
    have hs3 := H3.out.2.2.2.2.2.2
    have cf := bv.cell
    have HD : Hid (w3.heap.size ≤ D ∧ W.heap[D]? = some (.deferred (some [])) ∧ Turn (fun k => k = w.heap.size + 1) w3 W ∧ W.ownsRow w3.heap.size 23 1 v (srcL g.ps t).length ((srcL g.ps t).map idV)) := ⟨hD, hK, hTW, hrow⟩
    clear hTW hK bv hrow
    go_wp2_with fail
    obtain ⟨hD, hK, hTW, hrow⟩ := HD.out
    refine vfin_m (v := v) hK ?_ ?_
    · simp [results, Tryz.results29, go_sem]
    have hfin := (vturn_put (.deferred none) hTW hD).below (B := w.heap.size) (by have := H3.out.2.2.2.1.size; omega) (fun k e => by omega)
    refine ⟨v, rfl, ?_, H3.out.2.2.2.1.trans hfin⟩
    have hr2 : (W.putObj D (.deferred none)).ownsRow w3.heap.size 23 1 v (srcL g.ps t).length ((srcL g.ps t).map idV) := irow_moved hrow (fun q hq => by
      obtain ⟨_, _, cur, hc⟩ := irow_block hrow q hq
      exact World.putObj_heap_other (fun e => by subst e; rw [hK] at hc; cases hc))
    refine ⟨hr2.1, hr2.2.imp id ?_⟩
    rintro ⟨g, cap, cur, h1, h2, h3⟩
    exact ⟨g, cap, cur, h1, by omega, h3⟩
  case stop => exact fun D c pre W hD h hK => h.elim
end Go.Proofs.YtdjodigimhgklaaGreatDoor

/- The memo's functions of no disk, no memo, no key. -/
namespace Go.Proofs.YtdjodigimhgklaaGreatDoor
open Go.RowKit Go.Shelf Go.Maps

attribute [local go_sem] Oper.semAt_some

theorem yopen_nil (w : World) (key : Value) : Calls Tryz.prog 10 #[.pointer none, key] w fun e w' => e = .returned (.tuple #[.pointer none, .int .i64 1]) ∧ w' = w := by
  go_enter Tryz.func10, Tryz.ntmps10
  go_wp2
  go_ret2
  exact ⟨rfl, rfl⟩
theorem yopen_zero (w : World) (d : Addr) : Calls Tryz.prog 10 #[.pointer (some d), .int .u64 0] w fun e w' => e = .returned (.tuple #[.pointer none, .int .i64 2]) ∧ w' = w := by
  go_enter Tryz.func10, Tryz.ntmps10
  go_wp2
  go_ret2
  exact ⟨rfl, rfl⟩
theorem yadd_nil (w : World) (l : Value) : Calls Tryz.prog 13 #[.pointer none, l] w fun e w' => e = .returned (.int .i64 1) ∧ w' = w := by
  go_enter Tryz.func13, Tryz.ntmps13
  go_wp2
  go_ret
  exact ⟨rfl, rfl⟩
theorem ylen_nil (w : World) : Calls Tryz.prog 30 #[.pointer none] w fun e w' => e = .returned (.int .i64 0) ∧ w' = w := by
  go_enter Tryz.func30, Tryz.ntmps30
  go_wp2
  go_ret
  exact ⟨rfl, rfl⟩
theorem ynames_nil (w : World) : Calls Tryz.prog 26 #[.pointer none] w fun e w' => e = .returned (.slice none 0 0) ∧ w' = w := by
  go_enter Tryz.func26, Tryz.ntmps26
  go_wp2
  go_ret
  exact ⟨rfl, rfl⟩
theorem ykeys_nil (w : World) : Calls Tryz.prog 18 #[.pointer none] w fun e w' => e = .returned (.slice none 0 0) ∧ w' = w := by
  have hns := ynames_nil w
  go_enter Tryz.func18, Tryz.ntmps18
  go_wp2_with fail
  refine hns.mono ?_
  clear hns
  rintro e w1 ⟨rfl, hw1⟩
  subst hw1
  go_wp2_with fail
  go_loopw [3, 11] (fun v i wr => v = .slice none 0 0 ∧ i = .int .i64 0 ∧ wr = w1) (fun _ _ _ => 0)
  case atStart => exact ⟨rfl, rfl, rfl⟩
  case round =>
    obtain ⟨rfl, rfl, rfl⟩ := hrel
    go_wp2
    go_ret
    exact ⟨rfl, rfl⟩
set_option maxRecDepth 100000 in
set_option maxHeartbeats 8000000 in
theorem ysources_nil (w : World) (t : Nat) :
    Calls Tryz.prog 29 #[.pointer none, .int .u64 (t : Int)] w fun e w' => e = .returned (.slice none 0 0) ∧ Below w.heap.size w w' := by
  obtain ⟨w3, hw3⟩ : ∃ w3, w3 = ((w.alloc (.cells #[.int .u64 (t : Int)] 23)).alloc (.cells #[.slice none 0 0] 47)).alloc (.cells #[.pointer none] 28) := ⟨_, rfl⟩
  have hB3 : Below w.heap.size w w3 := by rw [hw3]; exact (((Below.refl _ w).alloc (Nat.le_refl _) _).alloc (by simp) _).alloc (by simp; omega) _
  have hs3' : w3.heap.size = w.heap.size + 3 := by rw [hw3]; simp
  have bf3 : Boxed w3 (w.heap.size + 1) 47 (.slice none 0 0) := by
    rw [hw3]
    have := (Boxed.new (w.alloc (.cells #[.int .u64 (t : Int)] 23)) 47 (.slice none 0 0)).alloc (.cells #[.pointer none] 28)
    rwa [World.size_alloc] at this
  have bm3 : Boxed w3 (w.heap.size + 2) 28 (.pointer none) := by
    rw [hw3]
    have := Boxed.new ((w.alloc (.cells #[.int .u64 (t : Int)] 23)).alloc (.cells #[.slice none 0 0] 47)) 28 (.pointer none)
    rwa [World.size_alloc, World.size_alloc] at this
  have H3 : Hid (Boxed w3 (w.heap.size + 2) 28 (.pointer none) ∧ Below w.heap.size w w3 ∧ Boxed w3 (w.heap.size + 1) 47 (.slice none 0 0) ∧ w.heap.size + 3 ≤ w3.heap.size) := ⟨bm3, hB3, bf3, by omega⟩
  clear hB3 hs3' bf3 bm3
  refine (callsIn_wide (n := 5)).1 ?_
  refine callsIn_of_wp_marks Tryz.func29 rfl trivial ?_ rfl
  simp only [Tryz.ntmps29, List.size_toArray, List.length_cons, List.length_nil, Nat.reduceAdd, Nat.reduceSub, Array.replicate_succ, Array.replicate_zero, List.push_toArray, List.append_toArray, List.nil_append, List.cons_append]
  refine wpIn_wide.2 ?_
  go_wp2_with fail
  refine (meach_any _ _).mono ?_
  rintro e w' ⟨rfl, rfl⟩
  rw [← hw3]
  clear hw3
  go_wp2_with fail
  refine (wpIn_wide (n := 5)).1 ?_
  refine range_boxed (w := w3) rfl (by omega) (gf := 66) (lb := #[.pointer (some ⟨w.heap.size + 1 + 1, 0, none⟩)]) rfl trivial (enters_of Tryz.func66 (by kernel_rfl) rfl)
    (meach_tells_nil w3 (w.heap.size + 1 + 1) H3.out.1 4) (fun _ => rfl) (fun k hk => by have := H3.out.2.2.2; omega)
    (fun _ W => Turn (fun _ => False) w3 W) (fun _ _ _ => False)
    (vturn_own (β := List Pr)) (fun _ _ _ _ _ h _ _ => h) (fun _ _ _ _ _ _ h _ _ => h) (Turn.refl _ _)
    (fun x => .cells #[.int .u64 (x.1 : Int), .int .u64 (x.2 : Int)] 39) ?act ?assign ?body ?done ?stop
  case assign =>
    intro l x b W K hb hK
    unfold prE
    gi_wp2
    exact hK
  case body =>
    intro l pre x bx W hl3 hb3 hbx hT hx
    exact hx.elim
  case done =>
    rintro D xs W hD hxs hTW hK
    have bf := (hTW.block _ H3.out.2.2.1.lt id).trans H3.out.2.2.1
    have cf : W.cell? ⟨w.heap.size + 1, 0, none⟩ = some (.slice none 0 0) := Boxed.cell bf
    have HD : Hid (w3.heap.size ≤ D ∧ W.heap[D]? = some (.deferred (some [])) ∧ Turn (fun _ => False) w3 W) := ⟨hD, hK, hTW⟩
    clear hTW hK bf
    go_wp2_with fail
    obtain ⟨hD, hK, hTW⟩ := HD.out
    refine vfin_m (v := .slice none 0 0) hK ?_ ?_
    · simp [results, Tryz.results29, go_sem]
    exact ⟨rfl, H3.out.2.1.trans ((vturn_put (.deferred none) hTW hD).below (B := w.heap.size) (by have := H3.out.2.2.2; omega) (fun k e => e.elim))⟩
  case stop => exact fun D c pre W hD h hK => h.elim
end Go.Proofs.YtdjodigimhgklaaGreatDoor
