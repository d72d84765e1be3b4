import Derived.Test.YtgcbbnmjomhngaaK17
import Derived.Test.YtgcbbnmjomhngaaK18
import Derived.Test.YtgcbbnmjomhngaaK19
import Derived.Test.YtgcbbnmjomhngaaK20
import Derived.RangeFuncBox
import Derived.RangeFuncWrites
/- The law's told: are these just the pairs that a run tells? -/
namespace Go.Proofs.Ytgcbbnmjomhngaa
open Go.RowKit Go.Shelf Go.Maps

attribute [local go_sem] Oper.semAt_some

theorem vfin_m {n D : Nat} {f : Func} {W : World} {v : Value} {tmps : Array Value} {P : Ending → World → Prop} (hK : W.heap[D]? = some (.deferred (some []))) (hr : (results f tmps).run Try.prog (W.putObj D (.deferred none)) = .ok v (W.putObj D (.deferred none))) (hP : P (.returned v) (W.putObj D (.deferred none))) :
    bodyPostM Fence.wide n Try.prog f P Exit.ret { tmps := tmps, defers := [{ target := .collected D, args := #[] }] } W := ⟨by simp, .inl ⟨_, _, rfl, run_takeDeferred hK, ⟨v, hr, hP⟩⟩⟩
theorem vturn_put {X : Nat → Prop} {w W : World} {D : Nat} (o : Obj) (h : Turn X w W) (hD : w.heap.size ≤ D) : Turn X w (W.putObj D o) :=
  ⟨h.os, h.tape, h.output, by simpa using h.size, fun k hk hn => (World.putObj_heap_other (by omega)).trans (h.block k hk hn)⟩
theorem vkeeps_turn {X : Nat → Prop} {W W' : World} {B : Nat} (h : Turn X W W') (hX : ∀ k, X k → k < B) : KeepsFrom B W W' :=
  ⟨h.size, fun k o hB hk _ => (h.block k (Array.getElem?_eq_some_iff.1 hk).1 (fun hx => by have := hX k hx; omega)).trans hk⟩
theorem vturn_own {X : Nat → Prop} {β : Type} {w3 : World} : OwnFrom w3.heap.size (fun (_ : β) W => Turn X w3 W) := fun _ _ _ _ hT hgr hr =>
  ⟨hgr.os.trans hT.os, hgr.tape.trans hT.tape, hgr.output.trans hT.output, Nat.le_trans hT.size hgr.size, fun k hk hn => (hgr.block k (Nat.lt_of_lt_of_le hk hT.size) (fun e => by have := (hr k e.symm).1; omega)).trans (hT.block k hk hn)⟩
theorem vbox_own {β : Type} {w3 : World} {g : Nat} {t : TypeId} (hg : g < w3.heap.size) (f : β → Value) : OwnFrom w3.heap.size (fun (s : β) W => Boxed W g t (f s)) := fun _ _ _ _ h hgr hr =>
  h.kept hgr (fun e => by have := (hr g e.symm).1; omega)
/-- what stands while pairs are held against a list -/
def ToldI (bn : Nat) (w3 : World) (L2 : List Pr) (pre : List Pr) (W : World) : Prop := Boxed W bn 3 (.int .i64 (pre.length : Int)) ∧ Turn (fun k => k = bn) w3 W ∧ pre = L2.take pre.length ∧ pre.length ≤ L2.length
theorem toldI_own (bn : Nat) (w3 : World) (L2 : List Pr) (h : bn < w3.heap.size) : OwnFrom w3.heap.size (ToldI bn w3 L2) := fun s X Y row hs hgr hr =>
  ⟨vbox_own h (fun s : List Pr => Value.int .i64 (s.length : Int)) s X Y row hs.1 hgr hr, vturn_own (β := List Pr) s X Y row hs.2.1 hgr hr, hs.2.2⟩

set_option maxRecDepth 100000 in
set_option maxHeartbeats 8000000 in
theorem told_any (w : World) (a : Option Addr) (n c : Nat) (b : List UInt8) (hb : Bytes w a n b) (hnil : a = none → n = 0) (hcap : n ≤ c) (hn : n ≤ 1000000000) (la : Option Addr) (ln lc : Nat) (L2 : List Pr) (hl : Prs w la ln L2) (hln : ln ≤ 1000000) :
    Calls Try.prog 14 #[.slice a n c, .slice la ln lc] w fun e w' => e = .returned (.bool (decide (eachL b = L2))) ∧ Below w.heap.size w w' := by
  have hmx : Try.prog.follows .mixedOrders = true := by kernel_rfl
  obtain ⟨w0, hw0⟩ : ∃ w0, w0 = ((w.alloc (.cells #[.slice la ln lc] 22)).alloc (.cells #[.bool false] 4)).alloc (.cells #[.int .i64 0] 3) := ⟨_, rfl⟩
  have hB0 : Below w.heap.size w w0 := by rw [hw0]; exact (((Below.refl _ w).alloc (Nat.le_refl _) _).alloc (by simp) _).alloc (by simp; omega) _
  have hs0 : w0.heap.size = w.heap.size + 3 := by rw [hw0]; simp
  have bl0 : Boxed w0 w.heap.size 22 (.slice la ln lc) := by rw [hw0]; exact ((Boxed.new w _ _).alloc _).alloc _
  have br0 : Boxed w0 (w.heap.size + 1) 4 (.bool false) := by
    rw [hw0]
    have := (Boxed.new (w.alloc (.cells #[.slice la ln lc] 22)) 4 (.bool false)).alloc (.cells #[.int .i64 0] 3)
    rwa [World.size_alloc] at this
  have bn0 : Boxed w0 (w.heap.size + 2) 3 (.int .i64 0) := by
    rw [hw0]
    have := Boxed.new ((w.alloc (.cells #[.slice la ln lc] 22)).alloc (.cells #[.bool false] 4)) 3 (.int .i64 0)
    rwa [World.size_alloc, World.size_alloc] at this
  have he := each_any w0 a n c b (vbytes_below hb hB0) hnil hcap hn
  have HW0 : Hid (Below w.heap.size w w0 ∧ w0.heap.size = w.heap.size + 3 ∧ Boxed w0 w.heap.size 22 (.slice la ln lc) ∧ Boxed w0 (w.heap.size + 1) 4 (.bool false) ∧ Boxed w0 (w.heap.size + 2) 3 (.int .i64 0) ∧ Prs w0 la ln L2) := ⟨hB0, hs0, bl0, br0, bn0, hl.kept hB0⟩
  have HLa : Hid (∀ x, 0 < ln → la = some x → x.block < w.heap.size) := fun x h0 e => by
    obtain ⟨b1, o1, e1, hc⟩ := hl.2 h0
    rw [e] at e1
    cases e1
    obtain ⟨t1, _⟩ := hc 0 _ (List.getElem?_eq_getElem (by rw [hl.1]; exact h0))
    exact World.block_lt_of_cell? w _ t1
  have HL2 : Hid (L2.length = ln) := hl.1
  clear hB0 hs0 bl0 br0 bn0 hb hnil hl
  refine (callsIn_wide (n := 5)).1 ?_
  refine callsIn_of_wp_marks Try.func14 rfl trivial ?_ rfl
  simp only [Try.ntmps14, List.size_toArray, List.length_cons, List.length_nil, Nat.reduceAdd, Nat.reduceSub, Array.replicate_succ, Array.replicate_zero, List.push_toArray, List.append_toArray, List.nil_append, List.cons_append]
  refine wpIn_wide.2 ?_
  go_wp2_with (go_at_call 15; rw [← hw0]; refine he.mono ?_; clear he; rintro e w3 ⟨Bx, G, v, rfl, hE, hBx, hG, hB3⟩)
  have H3 : Hid (EachAt w3 Bx G v (eachL b) ∧ w0.heap.size ≤ Bx ∧ w0.heap.size ≤ G ∧ Below w.heap.size w w3 ∧ Boxed w3 w.heap.size 22 (.slice la ln lc) ∧ Boxed w3 (w.heap.size + 1) 4 (.bool false) ∧ Boxed w3 (w.heap.size + 2) 3 (.int .i64 0) ∧ Prs w3 la ln L2 ∧ w.heap.size + 3 ≤ w3.heap.size) := by
    have hs := HW0.out.2.1
    have h3 := hB3.size
    exact ⟨hE, hBx, hG, HW0.out.1.trans (hB3.mono HW0.out.1.size), (hB3.block _ (by omega)).trans HW0.out.2.2.1, (hB3.block _ (by omega)).trans HW0.out.2.2.2.1, (hB3.block _ (by omega)).trans HW0.out.2.2.2.2.1, HW0.out.2.2.2.2.2.kept hB3, by omega⟩
  have HS : Hid (w0.heap.size = w.heap.size + 3) := HW0.out.2.1
  clear hE hBx hG hB3 HW0 hw0
  generalize hL : eachL b = L at *
  have HLb : Hid (eachL b = L) := hL
  clear hL
  refine (wpIn_wide (n := 5)).1 ?_
  refine range_boxed (w := w3) rfl (by omega) (gf := 33) (lb := #[.pointer (some ⟨Bx, 0, none⟩)]) rfl trivial (enters_of Try.func33 (by kernel_rfl) rfl)
    (each_tells w3 Bx G v L H3.out.1 4 (by omega)) (fun _ => rfl) (fun k hk => hk.elim (fun e => by rw [e]; exact H3.out.1.box.lt) (fun e => by rw [e]; exact H3.out.1.glt))
    (ToldI (w.heap.size + 2) w3 L2)
    (fun c _ W => c = .ret ∧ L ≠ L2 ∧ Boxed W (w.heap.size + 1) 4 (.bool false) ∧ Turn (fun k => k = w.heap.size + 2 ∨ k = w.heap.size + 1) w3 W)
    (toldI_own _ _ _ (by have := H3.out.2.2.2.2.2.2.2.2; omega)) ?ix (fun _ _ _ _ _ _ h _ _ => h) ⟨H3.out.2.2.2.2.2.2.1, Turn.refl _ _, by simp, Nat.zero_le _⟩
    (fun x => .cells #[.int .u64 (x.1 : Int), .int .u64 (x.2 : Int)] 47) ?act ?assign ?body ?done ?stop
  case assign =>
    intro l x b W K hb hK
    unfold prE
    gi_wp2
    exact hK
  case ix =>
    rintro c pre X Y row ⟨h1, h2, h3, hT⟩ hg hr
    have hs3 := H3.out.2.2.2.2.2.2.2.2
    exact ⟨h1, h2, vbox_own (β := Unit) (w3 := w3) (by omega) (fun _ => .bool false) () X Y row h3 hg hr, vturn_own (β := Unit) () X Y row hT hg hr⟩
  case body =>
    rintro l pre ⟨x, y⟩ bx W hl3 hb3 (hbx : BoxV W bx x y) ⟨hbn, hTW, hpre, hpl⟩ hx
    have hs3 := H3.out.2.2.2.2.2.2.2.2
    have hsW := hTW.size
    have bl : Boxed W w.heap.size 22 (.slice la ln lc) := (hTW.block _ (by omega) (by omega)).trans H3.out.2.2.2.2.1
    have br : Boxed W (w.heap.size + 1) 4 (.bool false) := (hTW.block _ (by omega) (by omega)).trans H3.out.2.2.2.2.2.1
    have bp1 := hbx
    have bl1 := bl
    have br1 := br
    have bn1 := hbn
    have hT1 := hTW
    have HP : Hid (pre = L2.take pre.length ∧ pre.length ≤ L2.length ∧ L[pre.length]? = some (x, y)) := ⟨hpre, hpl, hx⟩
    have STOP : L ≠ L2 → ∀ nq, KeepsFrom w3.heap.size W ((W.drewN nq).setCell ⟨w.heap.size + 1, 0, none⟩ (.bool false)) ∧ Code.ret = Code.ret ∧ L ≠ L2 ∧ Boxed ((W.drewN nq).setCell ⟨w.heap.size + 1, 0, none⟩ (.bool false)) (w.heap.size + 1) 4 (.bool false) ∧ Turn (fun k => k = w.heap.size + 2 ∨ k = w.heap.size + 1) w3 ((W.drewN nq).setCell ⟨w.heap.size + 1, 0, none⟩ (.bool false)) := fun hne nq => by
      have hT2 : Turn (fun k => k = w.heap.size + 2 ∨ k = w.heap.size + 1) W ((W.drewN nq).setCell ⟨w.heap.size + 1, 0, none⟩ (.bool false)) := by
        have := (turn_setCell (W.drewN nq) (w.heap.size + 1) 0 (.bool false)).wide (Gp := fun k => k = w.heap.size + 2 ∨ k = w.heap.size + 1) (fun k e => .inr e)
        exact ⟨this.os, this.tape, this.output, this.size, this.block⟩
      exact ⟨vkeeps_turn hT2 (fun k e => by omega), rfl, hne, Boxed.set (W := W.drewN nq) (v := .bool false) _ br1, (hT1.wide (fun k e => .inl e)).trans hT2 (fun _ _ e => e)⟩
    have HSTOP : Hid (L ≠ L2 → ∀ nq, KeepsFrom w3.heap.size W ((W.drewN nq).setCell ⟨w.heap.size + 1, 0, none⟩ (.bool false)) ∧ Code.ret = Code.ret ∧ L ≠ L2 ∧ Boxed ((W.drewN nq).setCell ⟨w.heap.size + 1, 0, none⟩ (.bool false)) (w.heap.size + 1) 4 (.bool false) ∧ Turn (fun k => k = w.heap.size + 2 ∨ k = w.heap.size + 1) w3 ((W.drewN nq).setCell ⟨w.heap.size + 1, 0, none⟩ (.bool false))) := STOP
    have cp := bp1.cell
    obtain ⟨cp0, cp1⟩ := cp
    have cl := bl1.cell
    have cr := br1.cell
    have fr := br1.frozen
    have cn := bn1.cell
    have fn := bn1.frozen
    have hpn := HL2.out
    rw [hpn] at hpl
    by_cases hlt : pre.length < ln
    · obtain ⟨⟨x2, y2⟩, hx2⟩ : ∃ p, L2[pre.length]? = some p := ⟨_, List.getElem?_eq_getElem (by rw [hpn]; exact hlt)⟩
      have hPr : Prs W la ln L2 := by
        refine ⟨H3.out.2.2.2.2.2.2.2.1.1, fun h0 => ?_⟩
        obtain ⟨b1, o1, e1, hc⟩ := H3.out.2.2.2.2.2.2.2.1.2 h0
        refine ⟨b1, o1, e1, fun j p hp => ?_⟩
        obtain ⟨t1, t2⟩ := hc j p hp
        have hb1 := HLa.out _ h0 e1
        simp only at hb1
        exact ⟨hT1.cell t1 (by show ¬ b1 = _; omega), hT1.cell t2 (by show ¬ b1 = _; omega)⟩
      obtain ⟨b1, o1, rfl, hc1⟩ := hPr.2 (by omega)
      obtain ⟨q1, q2⟩ := hc1 _ _ hx2
      have i1 : (pre.length : Int) < (ln : Int) := by omega
      have i2 : ¬ ln ≤ pre.length := by omega
      simp only at q1 q2
      by_cases heq : (x, y) = (x2, y2)
      · have hnv : ∀ w, (binOp .neq 47 (.agg #[.int .u64 (x : Int), .int .u64 (y : Int)]) (.agg #[.int .u64 (x2 : Int), .int .u64 (y2 : Int)])).run Try.prog w = .ok (.bool false) w := fun w => by
          rw [neV]
          cases heq
          simp
        have HGo : Hid (∀ nq, KeepsFrom w3.heap.size W ((W.drewN nq).setCell ⟨w.heap.size + 2, 0, none⟩ (.int .i64 ((pre.length : Int) + 1))) ∧ Keep (fun k => k = Bx ∨ k = G) W ((W.drewN nq).setCell ⟨w.heap.size + 2, 0, none⟩ (.int .i64 ((pre.length : Int) + 1))) ∧ ToldI (w.heap.size + 2) w3 L2 (pre ++ [(x, y)]) ((W.drewN nq).setCell ⟨w.heap.size + 2, 0, none⟩ (.int .i64 ((pre.length : Int) + 1)))) := fun nq => by
          have hT2 : Turn (fun k => k = w.heap.size + 2) W ((W.drewN nq).setCell ⟨w.heap.size + 2, 0, none⟩ (.int .i64 ((pre.length : Int) + 1))) := by
            have := turn_setCell (W.drewN nq) (w.heap.size + 2) 0 (.int .i64 ((pre.length : Int) + 1))
            exact ⟨this.os, this.tape, this.output, this.size, this.block⟩
          have hT3 := hT2
          refine ⟨vkeeps_turn hT3 (fun k e => by omega), ⟨hT3.size, fun k hk => hT3.block k ?_ ?_⟩, ?_, hT1.trans hT2 (fun _ _ e => e), ?_, ?_⟩
          · have h1 := H3.out.1.box.lt
            have h2 := H3.out.1.glt
            omega
          · have h1 := H3.out.2.1
            have h2 := H3.out.2.2.1
            have h4 := HS.out
            omega
          · have e : ((pre ++ [(x, y)]).length : Int) = (pre.length : Int) + 1 := by simp
            rw [e]
            exact Boxed.set (W := W.drewN nq) (v := .int .i64 (pre.length : Int)) _ bn1
          · have e : (pre ++ [(x, y)]).length = pre.length + 1 := by simp
            rw [e, take_getV hx2, heq, ← hpre]
          · simp; omega
        clear hx hx2 hpre hpl bp1 bl1 br1 bn1 hT1 hbn hTW bl br hbx hPr hc1 STOP heq
        gi_wp2
        refine region_quiet_round (F := Fence.wide) rfl hmx (by kernel_rfl) (by kernel_rfl) ?_
        repeat (gi_big_quiet_step (fail))
        refine wpQuietIn_nil ?_
        rintro _ ⟨nq, rfl⟩
        gi_wp2
        exact HGo.out nq
      · have hnv : ∀ w, (binOp .neq 47 (.agg #[.int .u64 (x : Int), .int .u64 (y : Int)]) (.agg #[.int .u64 (x2 : Int), .int .u64 (y2 : Int)])).run Try.prog w = .ok (.bool true) w := fun w => by
          rw [neV]
          have : ¬ ((x : Int) = (x2 : Int) ∧ (y : Int) = (y2 : Int)) := fun ⟨h1, h2⟩ => heq (by rw [show x = x2 by omega, show y = y2 by omega])
          have hb : ((x : Int) == (x2 : Int) && (y : Int) == (y2 : Int)) = false := by
            rw [Bool.eq_false_iff]
            intro h
            rw [Bool.and_eq_true, beq_iff_eq, beq_iff_eq] at h
            exact this h
          rw [hb]
          rfl
        have hne : L ≠ L2 := fun e => heq (by rw [e, hx2] at hx; exact (Option.some.inj hx).symm)
        have HSt := HSTOP.out hne
        have HSt2 : Hid (∀ nq, KeepsFrom w3.heap.size W ((W.drewN nq).setCell ⟨w.heap.size + 1, 0, none⟩ (.bool false)) ∧ Code.ret = Code.ret ∧ L ≠ L2 ∧ Boxed ((W.drewN nq).setCell ⟨w.heap.size + 1, 0, none⟩ (.bool false)) (w.heap.size + 1) 4 (.bool false) ∧ Turn (fun k => k = w.heap.size + 2 ∨ k = w.heap.size + 1) w3 ((W.drewN nq).setCell ⟨w.heap.size + 1, 0, none⟩ (.bool false))) := HSt
        clear hx hx2 hpre hpl bp1 bl1 br1 bn1 hT1 hbn hTW bl br hbx hPr hc1 STOP heq HSTOP hne HSt
        gi_wp2
        refine region_quiet_round (F := Fence.wide) rfl hmx (by kernel_rfl) (by kernel_rfl) ?_
        repeat (gi_big_quiet_step (fail))
        refine wpQuietIn_nil ?_
        rintro _ ⟨nq, rfl⟩
        gi_wp2
        exact ⟨(HSt2.out nq).1, rfl, (HSt2.out nq).2.2⟩
    · have i1 : ¬ (pre.length : Int) < (ln : Int) := by omega
      have i2 : (ln : Int) ≤ (pre.length : Int) := by omega
      have hne : L ≠ L2 := fun e => by
        rw [e] at hx
        have := (List.getElem?_eq_some_iff.1 hx).1
        omega
      have HSt := HSTOP.out hne
      have HSt2 : Hid (∀ nq, KeepsFrom w3.heap.size W ((W.drewN nq).setCell ⟨w.heap.size + 1, 0, none⟩ (.bool false)) ∧ Code.ret = Code.ret ∧ L ≠ L2 ∧ Boxed ((W.drewN nq).setCell ⟨w.heap.size + 1, 0, none⟩ (.bool false)) (w.heap.size + 1) 4 (.bool false) ∧ Turn (fun k => k = w.heap.size + 2 ∨ k = w.heap.size + 1) w3 ((W.drewN nq).setCell ⟨w.heap.size + 1, 0, none⟩ (.bool false))) := HSt
      clear hx hpre hpl bp1 bl1 br1 bn1 hT1 hbn hTW bl br hbx STOP HSTOP hne HSt
      gi_wp2
      refine region_quiet_round (F := Fence.wide) rfl hmx (by kernel_rfl) (by kernel_rfl) ?_
      repeat (gi_big_quiet_step (fail))
      refine wpQuietIn_nil ?_
      rintro _ ⟨nq, rfl⟩
      gi_wp2
      exact ⟨(HSt2.out nq).1, rfl, (HSt2.out nq).2.2⟩
  case done =>
    rintro D xs W hD rfl ⟨hbn, hTW, hpre, hpl⟩ hK
    have hs3 := H3.out.2.2.2.2.2.2.2.2
    have bl : Boxed W w.heap.size 22 (.slice la ln lc) := (hTW.block _ (by omega) (by omega)).trans H3.out.2.2.2.2.1
    have br : Boxed W (w.heap.size + 1) 4 (.bool false) := (hTW.block _ (by omega) (by omega)).trans H3.out.2.2.2.2.2.1
    have cl := bl.cell
    have cr := br.cell
    have fr := br.frozen
    have cn := hbn.cell
    have HA : Hid ((((xs.length : Int) == (ln : Int)) = decide (xs = L2))) := by
      show _ = _
      have h2 := HL2.out
      by_cases e : xs.length = ln
      · have e2 : xs = L2 := by rw [hpre, e, ← h2, List.take_length]
        rw [decide_eq_true e2]
        simp [e]
      · have e2 : xs ≠ L2 := fun h => e (by rw [h, h2])
        rw [decide_eq_false e2]
        simp; omega
    have HD : Hid (w3.heap.size ≤ D ∧ W.heap[D]? = some (.deferred (some [])) ∧ Boxed W (w.heap.size + 1) 4 (.bool false) ∧ Turn (fun k => k = w.heap.size + 2) w3 W) := ⟨hD, hK, br, hTW⟩
    clear hbn hTW hpre hpl hK bl br
    go_wp2_with fail
    obtain ⟨hD, hK, br, hTW⟩ := HD.out
    have br2 := br.set (.bool ((xs.length : Int) == (ln : Int)))
    have hK2 : (W.setCell ⟨w.heap.size + 1, 0, none⟩ (.bool ((xs.length : Int) == (ln : Int)))).heap[D]? = some (.deferred (some [])) := by
      rw [Below.heap_setCell _ _ _ _ (by show D ≠ w.heap.size + 1; omega)]; exact hK
    have k1 := (br2.kept (grownBy_putObj' _ D (.deferred none)) (by simp; omega)).cell
    have hT2 : Turn (fun k => k = w.heap.size + 2 ∨ k = w.heap.size + 1) w3 (W.setCell ⟨w.heap.size + 1, 0, none⟩ (.bool ((xs.length : Int) == (ln : Int)))) :=
      (hTW.wide (fun k e => .inl e)).trans (turn_setCell W (w.heap.size + 1) 0 (.bool ((xs.length : Int) == (ln : Int)))) (fun _ _ e => .inr e)
    refine vfin_m (v := .bool ((xs.length : Int) == (ln : Int))) hK2 ?_ ?_
    · simp [results, Try.results14, go_sem, k1]
    refine ⟨by rw [HA.out, HLb.out], ?_⟩
    have hfin := (vturn_put (.deferred none) hT2 hD).below (B := w.heap.size) (by have := H3.out.2.2.2.1.size; omega) (fun k e => by omega)
    exact H3.out.2.2.2.1.trans hfin
  case stop =>
    rintro D c pre W hD ⟨rfl, hne, hbr, hTW⟩ hK
    have hs3 := H3.out.2.2.2.2.2.2.2.2
    have HD : Hid (w3.heap.size ≤ D ∧ W.heap[D]? = some (.deferred (some [])) ∧ Boxed W (w.heap.size + 1) 4 (.bool false) ∧ Turn (fun k => k = w.heap.size + 2 ∨ k = w.heap.size + 1) w3 W ∧ L ≠ L2) := ⟨hD, hK, hbr, hTW, hne⟩
    clear hbr hTW hK
    gi_wp2
    go_wp2_with fail
    obtain ⟨hD, hK, br, hTW, hne⟩ := HD.out
    have k1 := (br.kept (grownBy_putObj' _ D (.deferred none)) (by simp; omega)).cell
    refine vfin_m (v := .bool false) hK ?_ ?_
    · simp [results, Try.results14, go_sem, k1]
    refine ⟨by rw [HLb.out, decide_eq_false hne], ?_⟩
    have hfin := (vturn_put (.deferred none) hTW hD).below (B := w.heap.size) (by have := H3.out.2.2.2.1.size; omega) (fun k e => by omega)
    exact H3.out.2.2.2.1.trans hfin
end Go.Proofs.Ytgcbbnmjomhngaa
