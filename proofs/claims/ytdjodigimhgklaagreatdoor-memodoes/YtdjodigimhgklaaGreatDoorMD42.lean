import Derived.Test.YtdjodigimhgklaaGreatDoorMD40
import Derived.Deep.CutRange
import Derived.Deep.CutBlock
import Derived.Deep.LoopGhost
/- The law's same: a memo is what the document's is. -/
namespace Go.Proofs.YtdjodigimhgklaaGreatDoor
open Go.RowKit Go.Shelf Go.Maps

attribute [local go_sem] Oper.semAt_some

theorem wrap_nat (x : Int) : ∃ z : Nat, IntKind.u64.wrap x = (z : Int) := by
  have h0 : 0 ≤ IntKind.u64.wrap x := by simp [IntKind.wrap, IntKind.bits, IntKind.signed]; omega
  exact ⟨(IntKind.u64.wrap x).toNat, (Int.toNat_of_nonneg h0).symm⟩
set_option maxRecDepth 100000 in
set_option maxHeartbeats 16000000 in
theorem same_any (w : World) (m d j : Nat) (g : Me) (vr : Value) (ma : Option Addr) (mc : Nat) (F : Nat → Prop) (hme : MeAt w m d j g vr ma mc F) (hl : g.ps.length ≤ 2000) (h0 : ∀ p ∈ g.ps, p.1 ≠ 0)
    (Q : Nat → Prop) (pa : Option Addr) (pc : Nat) (ja : Option Addr) (jc : Nat) (mm : Wm) (hW : WmV w Q pa pc ja jc mm) (hr : g.runs = mm.nums) (hlk : ∀ x, lookP g.ps x = lookP mm.flat x) (hfl : mm.flat.length ≤ 2000) (hp4 : mm.parts.length ≤ 4) :
    Calls Tryz.prog 16 #[.pointer (some ⟨m, 0, none⟩), wmVal pa pc ja jc mm] w fun e w' => e = .returned (.bool true) ∧ Below w.heap.size w w' := by
  have hmx : Tryz.prog.follows .mixedOrders = true := by kernel_rfl
  obtain ⟨w0, hw0⟩ : ∃ w0, w0 = (w.alloc (.cells #[.slice pa mm.parts.length pc, .int .i64 (mm.last : Int), .slice ja mm.jn.length jc] 35)).alloc (.cells #[.bool false] 4) := ⟨_, rfl⟩
  have hB0 : Below w.heap.size w w0 := by rw [hw0]; exact ((Below.refl _ w).alloc (Nat.le_refl _) _).alloc (by simp) _
  have hs0 : w0.heap.size = w.heap.size + 2 := by rw [hw0]; simp
  have hb3 : w0.heap[w.heap.size]? = some (.cells #[.slice pa mm.parts.length pc, .int .i64 (mm.last : Int), .slice ja mm.jn.length jc] 35) := by
    rw [hw0]
    exact (Below.heap_alloc _ _ _ (by simp)).trans (World.alloc_heap_new w _)
  have hb4 : Boxed w0 (w.heap.size + 1) 4 (.bool false) := by
    rw [hw0]
    have := Boxed.new (w.alloc (.cells #[.slice pa mm.parts.length pc, .int .i64 (mm.last : Int), .slice ja mm.jn.length jc] 35)) 4 (.bool false)
    rwa [World.size_alloc] at this
  have c30 : w0.cell? ⟨w.heap.size, 0, none⟩ = some (.slice pa mm.parts.length pc) := by simp [World.cell?, hb3]
  have c31 : w0.cell? ⟨w.heap.size, 1, none⟩ = some (.int .i64 (mm.last : Int)) := by simp [World.cell?, hb3]
  have c32 : w0.cell? ⟨w.heap.size, 2, none⟩ = some (.slice ja mm.jn.length jc) := by simp [World.cell?, hb3]
  have hpp := dpairs_any w0 Q pa pc ja jc mm (hW.below hB0) g.ps hme.ris hlk (by omega) hp4
  have H0 : Hid (Below w.heap.size w w0 ∧ w0.heap.size = w.heap.size + 2 ∧ w0.heap[w.heap.size]? = some (.cells #[.slice pa mm.parts.length pc, .int .i64 (mm.last : Int), .slice ja mm.jn.length jc] 35) ∧ Boxed w0 (w.heap.size + 1) 4 (.bool false) ∧ MeAt w0 m d j g vr ma mc F ∧ WmV w0 Q pa pc ja jc mm) := ⟨hB0, hs0, hb3, hb4, hme.below hB0, hW.below hB0⟩
  have HP : Hid (g.ps.length ≤ 2000 ∧ (∀ p ∈ g.ps, p.1 ≠ 0) ∧ g.runs = mm.nums ∧ mm.parts.length ≤ 4) := ⟨hl, h0, hr, hp4⟩
  clear hB0 hs0 hb3 hb4 hme hW hr hlk hfl h0
  refine (callsIn_wide (n := 9)).1 ?_
  refine callsIn_of_wp_marks Tryz.func16 rfl trivial ?_ rfl
  simp only [Tryz.ntmps16, List.size_toArray, List.length_cons, List.length_nil, Nat.reduceAdd, Nat.reduceSub, Array.replicate_succ, Array.replicate_zero, List.push_toArray, List.append_toArray, List.nil_append, List.cons_append]
  refine wpIn_wide.2 ?_
  go_upto_region 3 with first
    | (go_at_call 28; refine (meach_any _ _).mono ?_; rintro e w3 ⟨rfl, rfl⟩)
    | (go_at_call 45; rw [← hw0]; refine hpp.mono ?_; clear hpp; rintro e w2 ⟨la, lc, rfl, hpp, hB2⟩; have H2 : Hid (PrV w2 la g.ps.length lc g.ps ∧ Below w0.heap.size w0 w2) := ⟨hpp, hB2⟩; clear hpp hB2)
  obtain ⟨w4, hw4⟩ : ∃ w4, w4 = (w2.alloc (.cells #[.slice la g.ps.length lc] 36)).alloc (.cells #[.pointer (some ⟨m, 0, none⟩)] 28) := ⟨_, rfl⟩
  have H4 : Hid (SmI w w4 m d j g vr ma mc F Q pa pc ja jc mm w2.heap.size la lc) := by
    have hB4 : Below w2.heap.size w2 w4 := by rw [hw4]; exact ((Below.refl _ w2).alloc (Nat.le_refl _) _).alloc (by simp) _
    have hs4 : w4.heap.size = w2.heap.size + 2 := by rw [hw4]; simp
    have hs2 := H2.out.2.size
    have hs0 := H0.out.2.1
    have hB : Below w0.heap.size w0 w4 := H2.out.2.trans (hB4.mono hs2)
    refine ⟨H0.out.1.trans (hB.mono H0.out.1.size), (hB.block _ (by omega)).trans H0.out.2.2.1, (hB.block _ (by omega)).trans H0.out.2.2.2.1, ?_, ?_, H2.out.1.kept hB4, H0.out.2.2.2.2.1.below hB, H0.out.2.2.2.2.2.below hB, by omega, by omega⟩
    · rw [hw4]; exact (Boxed.new w2 _ _).alloc _
    · rw [hw4]
      have := Boxed.new (w2.alloc (.cells #[.slice la g.ps.length lc] 36)) 28 (.pointer (some ⟨m, 0, none⟩))
      rwa [World.size_alloc] at this
  rw [← hw4]
  generalize w2.heap.size = B5 at *
  have hb5 := H4.out.b5
  have c5 := hb5.cell
  have hsn := run_seq_nilY
  clear hw4 hw0 H2 H0 c30 c31 c32
  have hlen : ∀ W, Below w4.heap.size w4 W → Calls Tryz.prog 30 #[.pointer (some ⟨m, 0, none⟩)] W fun e w' => e = .returned (.int .i64 (g.ps.length : Int)) ∧ w' = W := fun W hB => mlen_any W m d j g vr ma mc F (H4.out.me.below hB)
  have HBr : Hid (Below w4.heap.size w4 w4) := Below.refl _ _
  go_quiet ((go_at_call 30; refine Calls.quiet_of_same (hlen _ (vbelow_drewN HBr.out _))))
  have H5 : Hid (SmI w (w4.drewN nq) m d j g vr ma mc F Q pa pc ja jc mm B5 la lc) := H4.out.kept (vbelow_drewN (Below.refl _ _) nq)
  generalize w4.drewN nq = w5 at *
  clear H4 hsn c5 hb5 hlen HBr
  go_wp2_with fail
  refine wp_loop (fun a W => ∃ (k : Nat) (Ds : List Nat), k ≤ 2 ∧ (∃ u, a = lfY u (.pointer (some ⟨m, 0, none⟩)) (.pointer (some ⟨w.heap.size, 0, none⟩)) (.pointer (some ⟨w.heap.size + 1, 0, none⟩)) (.pointer (some ⟨B5, 0, none⟩)) (.func (.func 66) #[] #[.pointer (some ⟨B5 + 1, 0, none⟩)]) (.int .i64 (k : Int)) Ds) ∧
      w5.heap.size ≤ W.heap.size ∧ Below w5.heap.size w5 W ∧ Ds.Nodup ∧ (∀ D ∈ Ds, w5.heap.size ≤ D ∧ W.heap[D]? = some (.deferred (some [])))) (fun a _ => 2 - (intOf (a.tmps.getD 7 undef)).toNat) ?_ ?_
  · exact ⟨0, [], by omega, lfY_of _ rfl, Nat.le_refl _, Below.refl _ _, List.nodup_nil, fun D h => by cases h⟩
  · rintro a W ⟨k, Ds, hk, ⟨u, rfl⟩, hWs, hWB, hnd, hDs⟩
    by_cases hk3 : k < 2
    · have ik : (k : Int) < 2 := by omega
      have HW : Hid (w5.heap.size ≤ W.heap.size ∧ Below w5.heap.size w5 W ∧ Ds.Nodup ∧ (∀ D ∈ Ds, w5.heap.size ≤ D ∧ W.heap[D]? = some (.deferred (some [])))) := ⟨hWs, hWB, hnd, hDs⟩
      have HSW : Hid (SmI w W m d j g vr ma mc F Q pa pc ja jc mm B5 la lc) := H5.out.kept hWB
      have HM : Hid (SmI w (W.alloc (.cells #[.int .i64 0] 3)) m d j g vr ma mc F Q pa pc ja jc mm B5 la lc ∧ Boxed (W.alloc (.cells #[.int .i64 0] 3)) W.heap.size 3 (.int .i64 0)) := ⟨HSW.out.kept ((Below.refl _ W).alloc (Nat.le_refl _) _), Boxed.new W _ _⟩
      clear hWB hnd hDs
      go_wp2
      obtain ⟨X0, hX0⟩ : ∃ X0, X0 = W.alloc (.cells #[.int .i64 0] 3) := ⟨_, rfl⟩
      have hX0s : X0.heap.size = W.heap.size + 1 := by rw [hX0]; simp
      have hX0B : Below W.heap.size W X0 := by rw [hX0]; exact (Below.refl _ W).alloc (Nat.le_refl _) _
      rw [← hX0] at HM ⊢
      have HX0 : Hid (X0.heap.size = W.heap.size + 1 ∧ Below W.heap.size W X0) := ⟨hX0s, hX0B⟩
      clear hX0 hX0B
      refine (wpIn_wide (n := 9)).1 ?_
      refine range_boxed (w := X0) rfl (by omega) (gf := 66) (lb := #[.pointer (some ⟨B5 + 1, 0, none⟩)]) rfl trivial (enters_of Tryz.func66 (by kernel_rfl) rfl)
        (meach_tells X0 m d j g vr ma mc F HM.out.1.me (B5 + 1) HM.out.1.bm 8 (by omega)) (fun _ => rfl) (fun k hk => hk.elim (fun e => by rw [e]; exact HM.out.1.bm.lt) (fun e => HM.out.1.me.lt k e))
        (ToldI W.heap.size X0 g.ps) (fun _ _ _ => False) (toldI_own _ _ _ (by omega)) ?ixA (fun _ _ _ _ _ _ h _ _ => h) ⟨HM.out.2, Turn.refl _ _, by simp, Nat.zero_le _⟩
        (fun x => .cells #[.int .u64 (x.1 : Int), .int .u64 (x.2 : Int)] 39) ?actA ?assignA ?bodyA ?doneA ?stopA
      case ixA => exact fun c pre X Y row h _ _ => h.elim
      case assignA =>
        intro l x b W K hb hK
        unfold prE
        gi_wp2
        exact hK
      case bodyA =>
        rintro l pre ⟨x, y⟩ bx X hl3 hb3 (hbx : BoxV X bx x y) ⟨hbn, hTX, hpre, hpl⟩ hx
        have hsX := hTX.size
        have hs2 := HSW.out.s2
        have b5X : Boxed X B5 36 (.slice la g.ps.length lc) := (hTX.block _ (by omega) (by omega)).trans HM.out.1.b5
        have c5 := b5X.cell
        have hlt := (List.getElem?_eq_some_iff.1 hx).1
        have hBX : Below W.heap.size W X := HX0.out.2.trans (hTX.below (by omega) fun k e => by omega)
        obtain ⟨b1, o1, rfl, hc1⟩ := (HSW.out.row.kept hBX).prs.2 (by omega)
        obtain ⟨q1, q2⟩ := hc1 _ _ hx
        simp only at q1 q2
        have cp := hbx.cell
        obtain ⟨cp0, cp1⟩ := cp
        have cn := hbn.cell
        have fn := hbn.frozen
        have i1 : (pre.length : Int) < (g.ps.length : Int) := by omega
        have i2 : ¬ g.ps.length ≤ pre.length := by omega
        have hpl2 : pre.length ≤ 2000 := by have := HP.out.1; omega
        have hnv : ∀ w, (binOp .neq 39 (.agg #[.int .u64 (x : Int), .int .u64 (y : Int)]) (.agg #[.int .u64 (x : Int), .int .u64 (y : Int)])).run Tryz.prog w = .ok (.bool false) w := fun w => by
          rw [neV]; simp
        have HGo : Hid (∀ nq, KeepsFrom X0.heap.size X ((X.drewN nq).setCell ⟨W.heap.size, 0, none⟩ (.int .i64 ((pre.length : Int) + 1))) ∧ Keep (fun k => k = B5 + 1 ∨ F k) X ((X.drewN nq).setCell ⟨W.heap.size, 0, none⟩ (.int .i64 ((pre.length : Int) + 1))) ∧ ToldI W.heap.size X0 g.ps (pre ++ [(x, y)]) ((X.drewN nq).setCell ⟨W.heap.size, 0, none⟩ (.int .i64 ((pre.length : Int) + 1)))) := fun nq => by
          have hT2 : Turn (fun k => k = W.heap.size) X ((X.drewN nq).setCell ⟨W.heap.size, 0, none⟩ (.int .i64 ((pre.length : Int) + 1))) := by
            have := turn_setCell (X.drewN nq) W.heap.size 0 (.int .i64 ((pre.length : Int) + 1))
            exact ⟨this.os, this.tape, this.output, this.size, this.block⟩
          refine ⟨vkeeps_turn hT2 (fun k e => by omega), ⟨hT2.size, fun k hk => hT2.block k ?_ ?_⟩, ?_, hTX.trans hT2 (fun _ _ e => e), ?_, ?_⟩
          · rcases hk with rfl | hk
            · omega
            · have := HSW.out.me.lt k hk; omega
          · rcases hk with rfl | hk
            · omega
            · have := HSW.out.me.lt k hk; omega
          · have e : ((pre ++ [(x, y)]).length : Int) = (pre.length : Int) + 1 := by simp
            rw [e]
            exact Boxed.set (W := X.drewN nq) (v := .int .i64 (pre.length : Int)) _ hbn
          · have e : (pre ++ [(x, y)]).length = pre.length + 1 := by simp
            rw [e, take_getV hx, ← hpre]
          · simp; omega
        clear hx hpre hpl hbn hTX hbx b5X hc1 hBX
        gi_wp2
        refine region_quiet_round (F := Fence.wide) rfl hmx (by kernel_rfl) (by kernel_rfl) ?_
        repeat (gi_big_quiet_step (fail))
        refine wpQuietIn_nil ?_
        rintro _ ⟨nq, rfl⟩
        gi_wp2
        exact HGo.out nq
      case doneA =>
        rintro D xs X hD rfl ⟨hbn, hTX, hpre, hpl⟩ hK
        have hBX : Below W.heap.size W X := HX0.out.2.trans (hTX.below (by omega) fun k e => by omega)
        have HF : Hid (LoopY w5 W X D Ds ∧ SmI w X m d j g vr ma mc F Q pa pc ja jc mm B5 la lc) := ⟨⟨HW.out, hBX, by omega, hK⟩, HSW.out.kept hBX⟩
        have cN := hbn.cell
        have b5X := HF.out.2.b5
        have c5 := b5X.cell
        clear hbn hTX hpre hpl hK hBX b5X HM HSW HW
        gi_wp2
        go_wp2_with fail
        refine (wpIn_wide (n := 9)).1 ?_
        refine range_both (w := X) rfl (by omega) (gf := 66) (lb := #[.pointer (some ⟨B5 + 1, 0, none⟩)]) rfl trivial (enters_of Tryz.func66 (by kernel_rfl) rfl)
          (meach_tells X m d j g vr ma mc F HF.out.2.me (B5 + 1) HF.out.2.bm 8 (by omega)) (fun _ => rfl) (fun k hk => hk.elim (fun e => by rw [e]; exact HF.out.2.bm.lt) (fun e => HF.out.2.me.lt k e))
          (fun _ Y => Turn (fun _ => False) X Y) (fun c _ Y => c = .exit 4 ∧ Turn (fun _ => False) X Y) (vturn_own (β := List Pr)) ?ixB (fun _ _ _ _ _ _ h _ _ => h) (Turn.refl _ _) ?actB ?assignB ?bodyB ?doneB ?stopB
        case ixB =>
          rintro c pre X1 Y row ⟨h1, hT⟩ hg hr
          exact ⟨h1, vturn_own (β := Unit) () X1 Y row hT hg hr⟩
        case assignB =>
          intro l x W K hK
          unfold prE
          gi_wp2
          exact hK
        case bodyB =>
          intro l pre x X2 hX2 hN2 hsp2
          have HN2 : Hid (Turn (fun _ => False) X X2) := hN2
          clear hN2 hsp2
          gi_wp2
          exact ⟨vkeeps_turn (Turn.refl (fun _ => False) _) (fun k e => e.elim), rfl, HN2.out⟩
        case doneB =>
          intro D2 xs X2 hD2 hS2 hN2 hK2
          have HE : Hid (LoopY w5 X X2 D2 (D :: Ds)) := ⟨HF.out.1.next, hN2.below (Nat.le_refl _) (fun k e => e.elim), hD2, hK2⟩
          clear hN2 hK2 hS2 HF
          gi_wp2
          go_wp2_with fail
          refine ⟨⟨k + 1, D2 :: D :: Ds, by omega, lfY_of _ (by simp only [lfY]; rfl), HE.out.next⟩, ?_⟩
          simp [intOf]; omega
        case stopB =>
          rintro D2 c pre X2 hD2 ⟨rfl, hN2⟩ hK2
          have HE : Hid (LoopY w5 X X2 D2 (D :: Ds)) := ⟨HF.out.1.next, hN2.below (Nat.le_refl _) (fun k e => e.elim), hD2, hK2⟩
          clear hN2 hK2 HF
          gi_wp2
          go_wp2_with fail
          refine ⟨⟨k + 1, D2 :: D :: Ds, by omega, lfY_of _ (by simp only [lfY]; rfl), HE.out.next⟩, ?_⟩
          simp [intOf]; omega
      case stopA =>
        rintro D c pre X hD h hK
        exact h.elim
    · obtain rfl : k = 2 := by omega
      have HS : Hid (SmI w W m d j g vr ma mc F Q pa pc ja jc mm B5 la lc) := H5.out.kept hWB
      have HW : Hid (w5.heap.size ≤ W.heap.size ∧ Below w5.heap.size w5 W ∧ Ds.Nodup ∧ (∀ D ∈ Ds, w5.heap.size ≤ D ∧ W.heap[D]? = some (.deferred (some [])))) := ⟨hWs, hWB, hnd, hDs⟩
      have hb5 := HS.out.b5
      have c5 := hb5.cell
      have HB0 : Hid (Below W.heap.size W W) := Below.refl _ _
      have hn2 : g.ps.length ≤ 2000 := HP.out.1
      clear hWB hnd hDs hWs hk hk3 hb5
      go_wp2_with fail
      go_loopg [61] g.ps.length (fun gk i wx => ∃ k2 : Nat, k2 + gk = g.ps.length ∧ i = .int .i64 (k2 : Int) ∧ Hid (Below W.heap.size W wx))
      case atStart => exact ⟨0, by omega, rfl, HB0⟩
      case round =>
        clear HB0 c5
        obtain ⟨k2, hk2, rfl, HI⟩ := hrel
        cases gk with
        | zero =>
          obtain rfl : k2 = g.ps.length := by omega
          have i5 : ¬ ((g.ps.length : Nat) : Int) < (g.ps.length : Int) := by omega
          clear hk2
          have hSr := HS.out.kept HI.out
          have hrn := mruns_any wr m d j g vr ma mc F hSr.me (by have := HP.out.2.2.1; rw [this]; unfold Wm.nums; rw [List.length_map]; have := HP.out.2.2.2; omega)
          have HR : Hid (SmI w wr m d j g vr ma mc F Q pa pc ja jc mm B5 la lc ∧ Below W.heap.size W wr) := ⟨hSr, HI.out⟩
          have hrl : g.runs.length = mm.parts.length := by rw [HP.out.2.2.1]; exact List.length_map _
          rw [hrl] at hrn
          clear hSr HI hrl
          go_upto_region 30 with (go_at_call 31; refine hrn.mono ?_; clear hrn; rintro e w6 ⟨ra, rc, rfl, hor, hB6⟩; have HT : Hid (SmI w w6 m d j g vr ma mc F Q pa pc ja jc mm B5 la lc ∧ Below W.heap.size W w6 ∧ w6.ownsRow wr.heap.size 3 1 (.slice ra mm.parts.length rc) mm.parts.length (mm.nums.map nV) ∧ W.heap.size ≤ wr.heap.size ∧ wr.heap.size ≤ w6.heap.size) := ⟨HR.out.1.kept hB6, HR.out.2.trans (hB6.mono HR.out.2.size), by rw [← HP.out.2.2.1]; exact hor, HR.out.2.size, hB6.size⟩; clear hor hB6 HR)
          have hb3 := HT.out.1.b3
          have c30 : w6.cell? ⟨w.heap.size, 0, none⟩ = some (.slice pa mm.parts.length pc) := by simp [World.cell?, hb3]
          have hb5 := HT.out.1.b5
          have c5 := hb5.cell
          have hsr := srclaw_any w6 m d (fun _ => False) g.ps g.failed ⟨j, g, vr, ma, mc, F, HT.out.1.me, rfl, rfl, fun _ _ e => e⟩ la lc HT.out.1.row (by omega) 12345
          clear hb3 hb5
          go_upto_if 122 with (go_at_call 49; refine hsr.mono ?_; clear hsr; rintro e w7 ⟨rfl, hB7⟩; have HU : Hid (SmI w w7 m d j g vr ma mc F Q pa pc ja jc mm B5 la lc ∧ Below W.heap.size W w7 ∧ w7.ownsRow wr.heap.size 3 1 (.slice ra mm.parts.length rc) mm.parts.length (mm.nums.map nV) ∧ W.heap.size ≤ wr.heap.size ∧ wr.heap.size ≤ w7.heap.size) := ⟨HT.out.1.kept hB7, HT.out.2.1.trans (hB7.mono HT.out.2.1.size), irow_moved HT.out.2.2.1 fun q hq => hB7.block q (irow_block HT.out.2.2.1 q hq).2.1, HT.out.2.2.2.1, Nat.le_trans HT.out.2.2.2.2 hB7.size⟩; clear hB7 HT)
          have hb3 := HU.out.1.b3
          have c30 : w7.cell? ⟨w.heap.size, 0, none⟩ = some (.slice pa mm.parts.length pc) := by simp [World.cell?, hb3]
          have hnl : mm.nums.length = mm.parts.length := List.length_map _
          have HV : Hid (Below W.heap.size W w7 ∧ SmI w w7 m d j g vr ma mc F Q pa pc ja jc mm B5 la lc ∧ (mm.parts.length = 0 ∨ ∃ rb cur, ra = some ⟨rb, 0, none⟩ ∧ W.heap.size ≤ rb ∧ w7.heap[rb]? = some (.cells cur 3 (0, 0)) ∧ mm.parts.length ≤ cur.size ∧ ∀ q v, 0 ≤ q → mm.nums[q]? = some v → cur[q]? = some (nV v))) := by
            refine ⟨HU.out.2.1, HU.out.1, ?_⟩
            rcases HU.out.2.2.1.2 with ⟨_, h0⟩ | ⟨gg, cap, cur, e, hb, hg, hcap, _, hsz, htk⟩
            · exact .inl h0
            · cases e
              refine .inr ⟨gg, cur, rfl, Nat.le_trans HU.out.2.2.2.1 hb, hg, by omega, fun q v _ hv => ?_⟩
              have hq := (List.getElem?_eq_some_iff.1 hv).1
              have h1 : (mm.nums.map nV)[q]? = some (nV v) := by rw [List.getElem?_map, hv]; rfl
              rw [← htk, List.getElem?_take_of_lt (by omega)] at h1
              rw [← h1]; simp
          clear hb3 hnl HU
          go_wp2_with fail
          go_loopg [126] mm.parts.length (fun gk i wx => ∃ k3 : Nat, k3 + gk = mm.parts.length ∧ i = .int .i64 (k3 : Int) ∧ Hid (Below W.heap.size W wx ∧ SmI w wx m d j g vr ma mc F Q pa pc ja jc mm B5 la lc ∧ (mm.parts.length = 0 ∨ ∃ rb cur, ra = some ⟨rb, 0, none⟩ ∧ W.heap.size ≤ rb ∧ wx.heap[rb]? = some (.cells cur 3 (0, 0)) ∧ mm.parts.length ≤ cur.size ∧ ∀ q v, k3 ≤ q → mm.nums[q]? = some v → cur[q]? = some (nV v))))
          case atStart => exact ⟨0, by omega, rfl, HV⟩
          case round =>
            clear HV c30
            obtain ⟨k3, hk3, rfl, HJ⟩ := hrel
            cases gk with
            | zero =>
              obtain rfl : k3 = mm.parts.length := by omega
              have i6 : ¬ ((mm.parts.length : Nat) : Int) < (mm.parts.length : Int) := by omega
              have hb4 := HJ.out.2.1.b4
              have c4 := hb4.cell
              have f4 := hb4.frozen
              have HF : Hid (Below W.heap.size W wr ∧ Boxed wr (w.heap.size + 1) 4 (.bool false)) := ⟨HJ.out.1, hb4⟩
              clear hk3 HJ hb4
              go_wp2_with fail
              obtain ⟨hWs, hWB, hnd, hDs⟩ := HW.out
              have hs5 := H5.out.s1
              have hs52 := H5.out.s2
              refine bool_retY (k := 4) (base := w5.heap.size) (p := w.heap.size + 1) rfl rfl (by omega) Ds _ (HF.out.2.set _) hnd (fun D hD => ⟨(hDs D hD).1, ?_⟩) (fun W' h => ⟨rfl, ?_⟩)
              · rw [Below.heap_setCell _ _ _ _ (by show D ≠ w.heap.size + 1; have := (hDs D hD).1; omega)]
                exact (HF.out.1.block _ ((Array.getElem?_eq_some_iff.1 (hDs D hD).2).1)).trans (hDs D hD).2
              · exact ((H5.out.below.trans ((hWB.trans (HF.out.1.mono hWs)).mono H5.out.below.size)).setCell (p := ⟨w.heap.size + 1, 0, none⟩) (by show w.heap.size ≤ w.heap.size + 1; omega) _).trans (h.mono H5.out.below.size)
            | succ g3 =>
              obtain ⟨x, hx⟩ : ∃ x, mm.parts[k3]? = some x := ⟨_, List.getElem?_eq_getElem (by omega)⟩
              obtain ⟨b, o, rfl, _, _, hcs⟩ := HJ.out.2.1.wm.parts.cells (by omega)
              obtain ⟨xa, xc, q1, q2, _⟩ := hcs k3 x hx
              obtain ⟨xn, xl⟩ := x
              simp only at q1 q2
              have hmn : mm.nums[k3]? = some xn := by unfold Wm.nums; rw [List.getElem?_map, hx]; rfl
              have i6 : (k3 : Int) < (mm.parts.length : Int) := by omega
              obtain ⟨hBw, hSm, hcase⟩ := HJ.out
              rcases hcase with h0 | ⟨rb, cur, rfl, hrb, hcur, hsz, hall⟩
              · omega
              have hk3s : k3 < cur.size := by omega
              obtain ⟨wb, hwb⟩ : ∃ wb, wb = wr.alloc (.cells #[.int .i64 (xn : Int), .slice xa xl.length xc] 99) := ⟨_, rfl⟩
              have hBa : Below wr.heap.size wr wb := by rw [hwb]; exact (Below.refl _ wr).alloc (Nat.le_refl _) _
              have hbb : wb.heap[wr.heap.size]? = some (.cells #[.int .i64 (xn : Int), .slice xa xl.length xc] 99) := by rw [hwb]; exact World.alloc_heap_new wr _
              have cb0 : wb.cell? ⟨wr.heap.size, 0, none⟩ = some (.int .i64 (xn : Int)) := by simp [World.cell?, hbb]
              have hcurb : wb.heap[rb]? = some (.cells cur 3 (0, 0)) := (hBa.block rb (Array.getElem?_eq_some_iff.1 hcur).1).trans hcur
              have hck : wb.cell? ⟨rb, k3, none⟩ = some (.int .i64 (xn : Int)) := by
                have := hall k3 xn (Nat.le_refl _) hmn
                simp [World.cell?, hcurb, this]
              have hkp : k3 < 5 := by have := HP.out.2.2.2; omega
              have i7 : ¬ mm.parts.length ≤ k3 := by omega
              have HN : Hid (∀ nq, (Below W.heap.size W ((wb.drewN nq).setCell ⟨rb, k3, none⟩ (.int .i64 (-1))) ∧ SmI w ((wb.drewN nq).setCell ⟨rb, k3, none⟩ (.int .i64 (-1))) m d j g vr ma mc F Q (some ⟨b, o, none⟩) pc ja jc mm B5 la lc ∧ (mm.parts.length = 0 ∨ ∃ rb' cur, (some ⟨rb, 0, none⟩ : Option Addr) = some ⟨rb', 0, none⟩ ∧ W.heap.size ≤ rb' ∧ ((wb.drewN nq).setCell ⟨rb, k3, none⟩ (.int .i64 (-1))).heap[rb']? = some (.cells cur 3 (0, 0)) ∧ mm.parts.length ≤ cur.size ∧ ∀ q v, k3 + 1 ≤ q → mm.nums[q]? = some v → cur[q]? = some (nV v)))) := fun nq => by
                have hBt : Below W.heap.size W (wb.drewN nq) := vbelow_drewN (hBw.trans (hBa.mono hBw.size)) nq
                have hBs : Below W.heap.size W ((wb.drewN nq).setCell ⟨rb, k3, none⟩ (.int .i64 (-1))) := hBt.setCell (p := ⟨rb, k3, none⟩) hrb _
                refine ⟨hBs, HS.out.kept hBs, .inr ⟨rb, cur.setIfInBounds k3 (.int .i64 (-1)), rfl, hrb, ?_, by simpa using hsz, fun q v hq hv => ?_⟩⟩
                · simp [World.setCell, Array.getElem?_modify, hcurb, Array.setIfInBounds]
                · rw [Array.getElem?_setIfInBounds_ne (by omega)]
                  exact hall q v (by omega) hv
              have hfz : ∀ nq, (wb.drewN nq).frozen? ⟨rb, k3, none⟩ = false := fun nq => by
                simp [World.frozen?, hcurb]
              have hcd : ∀ nq, (wb.drewN nq).cell? ⟨rb, k3, none⟩ = some (.int .i64 (xn : Int)) := fun nq => hck
              have HFZ : Hid ((∀ nq, (wb.drewN nq).frozen? ⟨rb, k3, none⟩ = false) ∧ ∀ nq, (wb.drewN nq).cell? ⟨rb, k3, none⟩ = some (.int .i64 (xn : Int))) := ⟨hfz, hcd⟩
              clear hcs hx hmn hBw hSm hcur hsz hall hBa hbb hcurb HJ hfz hcd hk3s hrb
              go_upto_region 35 with fail
              rw [← hwb]
              clear hwb q1 q2
              go_quiet (fail)
              have HN2 := HN.out nq
              have HN3 : Hid _ := HN2
              have f1 := HFZ.out.1 nq
              have f2 := HFZ.out.2 nq
              clear HN HN2
              go_wp2_with fail
              go_roundg g3
              case measure => omega
              case rel => exact ⟨k3 + 1, by omega, by go_num, HN3.out⟩
        | succ g2 =>
          obtain ⟨⟨x, y⟩, hx⟩ : ∃ x, g.ps[k2]? = some x := ⟨_, List.getElem?_eq_getElem (by omega)⟩
          have hSr := HS.out.kept HI.out
          obtain ⟨lb, lo, rfl, hcs⟩ := hSr.row.prs.2 (by omega)
          obtain ⟨q1, q2⟩ := hcs k2 _ hx
          simp only at q1 q2
          have i5 : (k2 : Int) < (g.ps.length : Int) := by omega
          obtain ⟨wb, hwb⟩ : ∃ wb, wb = wr.alloc (.cells #[.int .u64 (x : Int), .int .u64 (y : Int)] 39) := ⟨_, rfl⟩
          have hBa : Below wr.heap.size wr wb := by rw [hwb]; exact (Below.refl _ wr).alloc (Nat.le_refl _) _
          have hbx : BoxV wb wr.heap.size x y := by rw [hwb]; exact BoxV.new wr _ _
          obtain ⟨cb0, cb1⟩ := hbx.cell
          have HX : Hid (SmI w wb m d j g vr ma mc F Q pa pc ja jc mm B5 (some ⟨lb, lo, none⟩) lc ∧ Below W.heap.size W wb ∧ BoxV wb wr.heap.size x y) := ⟨hSr.kept hBa, HI.out.trans (hBa.mono HI.out.size), hbx⟩
          have hly : lookP g.ps x = some y := ris_mem_look hSr.me.ris (List.mem_of_getElem? hx)
          have hst : Calls Tryz.prog 27 #[.pointer (some ⟨m, 0, none⟩), .int .u64 (x : Int)] wb fun e w' => e = .returned (.tuple #[.int .u64 (y : Int), .bool true]) ∧ Below wb.heap.size wb w' := by
            have := standin_any wb m d j g vr ma mc F HX.out.1.me x
            rw [hly] at this
            exact this
          clear hSr hcs hx hBa hbx HI hly
          go_upto_region 20 with fail
          rw [← hwb]
          clear hwb q1 q2
          go_upto_if 87 with first
            | (go_at_call 49; refine hsr.mono ?_; clear hsr; rintro e w7 ⟨rfl, hB7⟩; have HZ : Hid (SmI w w7 m d j g vr ma mc F Q pa pc ja jc mm B5 (some ⟨lb, lo, none⟩) lc ∧ Below W.heap.size W w7 ∧ BoxV w7 wr.heap.size x y) := ⟨HY.out.1.kept hB7, HY.out.2.1.trans (hB7.mono HY.out.2.1.size), HY.out.2.2.below hB7 HY.out.2.2.lt⟩; clear hB7)
            | (go_at_call 27; refine hst.mono ?_; clear hst; rintro e w6 ⟨rfl, hB6⟩; have HY : Hid (SmI w w6 m d j g vr ma mc F Q pa pc ja jc mm B5 (some ⟨lb, lo, none⟩) lc ∧ Below W.heap.size W w6 ∧ BoxV w6 wr.heap.size x y) := ⟨HX.out.1.kept hB6, HX.out.2.1.trans (hB6.mono HX.out.2.1.size), HX.out.2.2.below hB6 HX.out.2.2.lt⟩; obtain ⟨d0, d1⟩ := HY.out.2.2.cell; have hb56 := HY.out.1.b5; have d5 := hb56.cell; have hsr := srclaw_any w6 m d (fun _ => False) g.ps g.failed ⟨j, g, vr, ma, mc, F, HY.out.1.me, rfl, rfl, fun _ _ e => e⟩ (some ⟨lb, lo, none⟩) lc HY.out.1.row (by omega) y; clear hB6 hb56)
          obtain ⟨d0, d1⟩ := HZ.out.2.2.cell
          have hb57 := HZ.out.1.b5
          have d5 := hb57.cell
          clear HX HY hb57
          obtain ⟨z, hz⟩ : ∃ z : Nat, IntKind.u64.wrap ((x : Int) + 1) = (z : Int) := wrap_nat _
          have hf := rfind_any w7 (some ⟨lb, lo, none⟩) g.ps.length lc z g.ps HZ.out.1.row.prs (by omega)
          have HB7 : Hid (Below W.heap.size W w7) := HZ.out.2.1
          have hk65 : k2 < 2000 := by omega
          cases hlz : lookP g.ps z with
          | none =>
            have hix := idxF_none g.ps z 0 hlz
            rw [hix] at hf
            have hst : Calls Tryz.prog 27 #[.pointer (some ⟨m, 0, none⟩), .int .u64 (z : Int)] w7 fun e w' => e = .returned (.tuple #[.int .u64 0, .bool false]) ∧ Below w7.heap.size w7 w' := by
              have := standin_any w7 m d j g vr ma mc F HZ.out.1.me z
              rw [hlz] at this
              exact this
            clear hix hlz HZ
            go_wp2_with first
              | (go_at_call 27; refine hst.mono ?_; clear hst; rintro e w8 ⟨rfl, hB8⟩; have HN : Hid (Below W.heap.size W w8) := HB7.out.trans (hB8.mono HB7.out.size); clear hB8)
              | (go_at_call 46; refine hf.mono ?_; clear hf; rintro e w8 ⟨rfl, hw8⟩; subst w8)
            go_roundg g2
            case measure => omega
            case rel => exact ⟨k2 + 1, by omega, by go_num, HN⟩
          | some v =>
            obtain ⟨jj, hj1, _⟩ := idxF_some g.ps z 0 v hlz
            rw [Nat.zero_add] at hj1
            rw [hj1] at hf
            have i6 : ¬ ((jj : Int) < 0) := by omega
            clear hj1 hlz HZ
            go_wp2_with (go_at_call 46; refine hf.mono ?_; clear hf; rintro e w8 ⟨rfl, hw8⟩; subst w8)
            go_roundg g2
            case measure => omega
            case rel => exact ⟨k2 + 1, by omega, by go_num, HB7⟩
end Go.Proofs.YtdjodigimhgklaaGreatDoor
