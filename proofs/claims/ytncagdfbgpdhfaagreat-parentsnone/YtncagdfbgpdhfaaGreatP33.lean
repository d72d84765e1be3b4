import Derived.Test.YtncagdfbgpdhfaaGreatP32
import Derived.Deep.LoopGhost
import Derived.WalkMore
import Derived.Deep.Cut
/- The walk of follow: the commits of a history, gone through by a pile. -/
namespace Go.Proofs.YtncagdfbgpdhfaaGreat
open Go.RowKit Go.Maps

attribute [local go_sem] Oper.semAt_some

/-- how follow ends -/
def FOut (w : World) (h s mb : Nat) (ov0 : Value) (os : List Ob) (c0 : Nat) (R : GR) (e : Ending) (w' : World) : Prop := match R with
  | .bad er => e = .returned (.int .i64 er) ∧ er ≠ 0
  | .ok gs => e = .returned (.int .i64 0) ∧ ∃ ov ms K c, HAt w' h s mb ov os gs.been c ms K ∧ ms.map Mb.id = gs.ord ∧ c ≤ c0 ∧ ms.length ≤ c0 ∧ (∀ g, ov.ownBlock = some g → ov0.ownBlock = some g ∨ w.heap.size ≤ g)
theorem FI.row' {w : World} {h s d mb : Nat} {ov0 : Value} {os : List Ob} {sz : Nat} {cut : Bool} {F : Nat → Prop} {C : Nat} {wr : World} {pv ov : Value} {gs : GS} {c : Nat} {ms : List Mb} {K : Nat → Prop} {fs : List Fr}
    (I : FI w h s d mb ov0 os sz cut F C wr pv ov gs c ms K fs) (hne : fs ≠ []) : ∃ g cap, pv = .slice (some ⟨g, 0, none⟩) fs.length cap ∧ fs.length ≤ cap := by
  rcases I.row.2 with ⟨_, h0⟩ | ⟨g, cap, cur, h0, _, _, hc, _⟩
  · exact absurd (List.eq_nil_of_length_eq_zero h0) hne
  · exact ⟨g, cap, h0, hc⟩
/-- the cells of the frame at the pile's top -/
theorem FI.top {w : World} {h s d mb : Nat} {ov0 : Value} {os : List Ob} {sz : Nat} {cut : Bool} {F : Nat → Prop} {C : Nat} {wr : World} {ov : Value} {gs : GS} {c : Nat} {ms : List Mb} {K : Nat → Prop} {r : List Fr} {f : Fr} {g n cap : Nat}
    (I : FI w h s d mb ov0 os sz cut F C wr (.slice (some ⟨g, 0, none⟩) n cap) ov gs c ms K (r ++ [f])) (hn : n = r.length + 1) :
    wr.cell? ⟨g, r.length * 7, none⟩ = some (.int .u64 f.m.id) ∧ wr.cell? ⟨g, r.length * 7 + 1, none⟩ = some (.int .u64 f.m.t) ∧ wr.cell? ⟨g, r.length * 7 + 2, none⟩ = some (.slice f.m.pa f.m.pn f.m.pc) ∧ wr.cell? ⟨g, r.length * 7 + 3, none⟩ = some (.string f.m.au) ∧ wr.cell? ⟨g, r.length * 7 + 4, none⟩ = some (.int .i64 f.m.d) ∧ wr.cell? ⟨g, r.length * 7 + 5, none⟩ = some (.string f.m.tx) ∧ wr.cell? ⟨g, r.length * 7 + 6, none⟩ = some (.slice f.la f.ln f.lc) ∧ wr.frozen? ⟨g, r.length * 7 + 6, none⟩ = false := by
  have hr := I.row
  have hlen : (r ++ [f]).length = n := by simp [hn]
  rw [hlen] at hr
  obtain ⟨h0, h1, h2, h3, h4, h5, h6⟩ := frCells_last r f
  refine ⟨?_, ?_, ?_, ?_, ?_, ?_, ?_, hr.frozenAt _⟩
  · rw [hr.cellAt _ (by omega)]; exact h0
  · rw [hr.cellAt _ (by omega)]; exact h1
  · rw [hr.cellAt _ (by omega)]; exact h2
  · rw [hr.cellAt _ (by omega)]; exact h3
  · rw [hr.cellAt _ (by omega)]; exact h4
  · rw [hr.cellAt _ (by omega)]; exact h5
  · rw [hr.cellAt _ (by omega)]; exact h6
theorem cells_frame_new (w : World) (f : Fr) : ∀ j u, (frCells [f])[j]? = some u → (w.alloc (.cells #[.int .u64 f.m.id, .int .u64 f.m.t, .slice f.m.pa f.m.pn f.m.pc, .string f.m.au, .int .i64 f.m.d, .string f.m.tx, .slice f.la f.ln f.lc] 171)).cell? ((⟨w.heap.size, 0, none⟩ : Addr).add j) = some u := by
  intro j u hj
  have hb := World.alloc_heap_new w (.cells #[.int .u64 f.m.id, .int .u64 f.m.t, .slice f.m.pa f.m.pn f.m.pc, .string f.m.au, .int .i64 f.m.d, .string f.m.tx, .slice f.la f.ln f.lc] 171)
  generalize w.alloc (.cells #[.int .u64 f.m.id, .int .u64 f.m.t, .slice f.m.pa f.m.pn f.m.pc, .string f.m.au, .int .i64 f.m.d, .string f.m.tx, .slice f.la f.ln f.lc] 171) = W at hb
  rw [Addr.add_lit]
  match j, hj with
  | 0, hj => simp [frCells] at hj; subst hj; simp [World.cell?, hb]
  | 1, hj => simp [frCells] at hj; subst hj; simp [World.cell?, hb]
  | 2, hj => simp [frCells] at hj; subst hj; simp [World.cell?, hb]
  | 3, hj => simp [frCells] at hj; subst hj; simp [World.cell?, hb]
  | 4, hj => simp [frCells] at hj; subst hj; simp [World.cell?, hb]
  | 5, hj => simp [frCells] at hj; subst hj; simp [World.cell?, hb]
  | 6, hj => simp [frCells] at hj; subst hj; simp [World.cell?, hb]
  | j + 7, hj => simp [frCells] at hj
theorem cells_member_new (w : World) (m : Mb) : ∀ j u, (mbCells [m])[j]? = some u → (w.alloc (.cells #[.int .u64 m.id, .int .u64 m.t, .slice m.pa m.pn m.pc, .string m.au, .int .i64 m.d, .string m.tx] 137)).cell? ((⟨w.heap.size, 0, none⟩ : Addr).add j) = some u := by
  intro j u hj
  have hb := World.alloc_heap_new w (.cells #[.int .u64 m.id, .int .u64 m.t, .slice m.pa m.pn m.pc, .string m.au, .int .i64 m.d, .string m.tx] 137)
  generalize w.alloc (.cells #[.int .u64 m.id, .int .u64 m.t, .slice m.pa m.pn m.pc, .string m.au, .int .i64 m.d, .string m.tx] 137) = W at hb
  rw [Addr.add_lit]
  match j, hj with
  | 0, hj => simp [mbCells] at hj; subst hj; simp [World.cell?, hb]
  | 1, hj => simp [mbCells] at hj; subst hj; simp [World.cell?, hb]
  | 2, hj => simp [mbCells] at hj; subst hj; simp [World.cell?, hb]
  | 3, hj => simp [mbCells] at hj; subst hj; simp [World.cell?, hb]
  | 4, hj => simp [mbCells] at hj; subst hj; simp [World.cell?, hb]
  | 5, hj => simp [mbCells] at hj; subst hj; simp [World.cell?, hb]
  | j + 6, hj => simp [mbCells] at hj
theorem row_shapeN {w : World} {e : TypeId} {B n z : Nat} {v : Value} {xs : List Value} (h : w.ownsRow B e z v n xs) : ∃ ad c, v = .slice ad n c ∧ n ≤ c ∧ (ad = none → n = 0 ∧ c = 0) := by
  rcases h.2 with ⟨rfl, rfl⟩ | ⟨g, cap, cur, rfl, _, _, hc, _⟩
  · exact ⟨none, 0, rfl, Nat.le_refl _, fun _ => ⟨rfl, rfl⟩⟩
  · exact ⟨_, _, rfl, hc, fun h => by cases h⟩
/-- a member appended to a row of one's own, in a region that draws -/
theorem step_appM (w : World) {ops : Array Oper} {o : Oper} {a : Act} {K : Act → World → Prop} {Q : Exit → Act → World → Prop} {E : Prop} (hgd : o.guard = none) (s x : Operand)
    (ho : o.op = .call { callee := .builtin .append, args := #[s, x], argTypes := #[101, 101] }) (i0 : TypeInfo) (z : Value) (hi : Tryz.prog.info? 137 = some i0) (hz0 : i0.zero = some z) (hz1 : i0.size = 6) (hz2 : i0.bytes = 80) (hzc : z.cells.size = 6)
    (v : Value) (n : Nat) (xs : List Value) (hs : a.eval s = v) (hown : w.ownsRow 0 137 6 v n xs) (ad : Addr) (m : Mb) (hx : a.eval x = .slice (some ad) 1 1) (hm : ∀ j u, (mbCells [m])[j]? = some u → w.cell? (ad.add j) = some u) (hn : n ≤ 1000000000000)
    (h : ∀ v' w', w'.ownsRow 0 137 6 v' (n + 1) (xs ++ mbCells [m]) → w.grownBy w' v.ownBlock → (v'.ownBlock = v.ownBlock ∨ v'.ownBlock = some w.heap.size) → K (a.put o.dst v') w') :
    if Region.wanted o (yielded ops a.tmps) = true then Oper.wp Tryz.prog o a w K Q else E := by
  have hw : Region.wanted o (yielded ops a.tmps) = true := by simp [Region.wanted, hgd]
  rw [if_pos hw]
  obtain ⟨v', w', hr, h2, h3, _, h4⟩ := run_append_own_at (P := Tryz.prog) w 0 101 o.type 137 i0 z 6 80 Tryz.underlying101 hi hz0 hz1 hz2 hzc (by omega) v n xs hown ad 1 1 (mbCells [m]) rfl hm (mbCells_one _) (by unfold maxLen; omega) (by omega) (Nat.zero_le _)
  unfold Oper.wp execOp
  simp only [ho, resolve, invoke, builtin, Sem.run_bind, Sem.run_pure, Result.andThen_ok, List.map_toArray, List.map_cons, List.map_nil, hs, hx, hr]
  exact h v' w' h2 h3 h4
theorem infoVisit : (Tryz.prog.info? 171).map (fun i => (i.zero, i.size, i.bytes)) = some (some (.agg #[.int .u64 0, .int .u64 0, .slice none 0 0, .string ⟨#[]⟩, .int .i64 0, .string ⟨#[]⟩, .slice none 0 0]), 7, 104) := by kernel_rfl
theorem infoMember : (Tryz.prog.info? 137).map (fun i => (i.zero, i.size, i.bytes)) = some (some (.agg #[.int .u64 0, .int .u64 0, .slice none 0 0, .string ⟨#[]⟩, .int .i64 0, .string ⟨#[]⟩]), 6, 80) := by kernel_rfl
set_option maxRecDepth 100000 in
set_option maxHeartbeats 8000000 in
theorem follow_any (w : World) (h s d mb : Nat) (ov0 : Value) (os : List Ob) (sz : Nat) (cut : Bool) (F : Nat → Prop) (been : Int → Int) (c0 : Nat) (ms0 : List Mb) (K0 : Nat → Prop) (hS : IsSt w s d os sz cut F) (H : HAt w h s mb ov0 os been c0 ms0 K0) (hfx : ∀ k, HX h mb ov0 k → ¬ F k)
    (a : Option Addr) (n c : Nat) (l : List Int) (hl : HI K0 w a n l) (hr : ∀ x ∈ l, 0 ≤ x ∧ x ≤ 18446744073709551615) (hnc : n ≤ c) (hb3 : ∀ x, been x = 0 ∨ been x = 1 ∨ been x = 2) (C : Nat) (hC1 : c0 + (n + 1 + restO been os) ≤ C) (hC2 : ms0.length + (n + 1 + restO been os) ≤ C) (hC : C ≤ 1000000000000) (hos : os.length ≤ 65536) :
    Calls Tryz.prog 60 #[.pointer (some ⟨h, 0, none⟩), .slice a n c] w fun e w' => Turn (HX h mb ov0) w w' ∧ FOut w h s mb ov0 os C (goL (visit (parsO os) (errO os) (os.length + 2)) l ⟨been, ms0.map Mb.id⟩) e w' := by
  have hll := hl.get.1
  have I0 : FI w h s d mb ov0 os sz cut F C (w.alloc (.cells #[.int .u64 0, .int .u64 0, .slice none 0 0, .string ⟨#[]⟩, .int .i64 0, .string ⟨#[]⟩, .slice a n c] 171)) (.slice (some ⟨w.heap.size, 0, none⟩) 1 1) ov0 ⟨been, ms0.map Mb.id⟩ c0 ms0 K0 [⟨Mb.none, a, n, c, l⟩] := by
    have hB : Below w.heap.size w (w.alloc (.cells #[.int .u64 0, .int .u64 0, .slice none 0 0, .string ⟨#[]⟩, .int .i64 0, .string ⟨#[]⟩, .slice a n c] 171)) := (Below.refl _ w).alloc (Nat.le_refl _) _
    exact
    { st := hS.below hB
      H := H.below hB
      row := World.ownsRow_lit w #[.int .u64 0, .int .u64 0, .slice none 0 0, .string ⟨#[]⟩, .int .i64 0, .string ⟨#[]⟩, .slice a n c] 1 (Nat.le_refl _) (by unfold maxLen; omega) rfl
      fr := fun f hf => by
        simp at hf
        subst hf
        exact ⟨hl.kept fun k hK => hB.block k (H.klt k hK), hnc, hr⟩
      mem := fun f hf => by simp at hf
      pb := fun g hg => by
        cases hg
        exact ⟨fun e => by have := H.xlt _ e; simp only at this; omega, fun e => by have := H.klt _ e; simp only at this; omega, fun e => by have := hS.lt _ e; simp only at this; omega⟩
      fx := hfx
      T := Turn.of_below _ hB
      ovn := fun g hg => .inl hg
      pile := ⟨by simp [toldP], by simp [toldP], by simp [toldP]⟩
      ord := rfl
      b3 := hb3
      cc := by simp [toldP, leftP, hll]; omega
      mc := by simp [toldP, leftP, hll]; omega }
  obtain ⟨E, hE⟩ : ∃ E, E = goL (visit (parsO os) (errO os) (os.length + 2)) l ⟨been, ms0.map Mb.id⟩ := ⟨_, rfl⟩
  rw [← hE]
  have HE0 : Hid (E = finish (parsO os) (errO os) (os.length + 2) (toldP [⟨Mb.none, a, n, c, l⟩]) ⟨been, ms0.map Mb.id⟩) := by
    show E = finish (parsO os) (errO os) (os.length + 2) [(_, l)] _
    rw [finish_start]; exact hE
  have HC : Hid (C ≤ 1000000000000 ∧ os.length ≤ 65536) := ⟨hC, hos⟩
  have HI0 : Hid (FI w h s d mb ov0 os sz cut F C (w.alloc (.cells #[.int .u64 0, .int .u64 0, .slice none 0 0, .string ⟨#[]⟩, .int .i64 0, .string ⟨#[]⟩, .slice a n c] 171)) (.slice (some ⟨w.heap.size, 0, none⟩) 1 1) ov0 ⟨been, ms0.map Mb.id⟩ c0 ms0 K0 [⟨Mb.none, a, n, c, l⟩]) := I0
  clear I0 hE hC hos hC1 hC2 hb3 hS H hfx hl hr hnc hll
  go_enter Tryz.func60, Tryz.ntmps60
  go_wp2
  go_step3
  go_wp2
  go_step3
  go_wp2
  go_loopg [5] (leftP (toldP [(⟨Mb.none, a, n, c, l⟩ : Fr)]) + restO been os) (fun g p wr => ∃ (ov : Value) (gs : GS) (cc : Nat) (ms : List Mb) (K : Nat → Prop) (fs : List Fr), Hid (FI w h s d mb ov0 os sz cut F C wr p ov gs cc ms K fs ∧ E = finish (parsO os) (errO os) (os.length + 2) (toldP fs) gs ∧ g = leftP (toldP fs) + restO gs.been os))
  case atStart => exact ⟨_, _, _, _, _, _, HI0.out, HE0.out, rfl⟩
  case round =>
    clear HE0 HI0
    obtain ⟨ov, gs, cc, ms, K, fs, HR⟩ := hrel
    obtain ⟨I, hE, hg⟩ := HR.out
    clear HR
    have hne : fs ≠ [] := fun e => I.pile.ne (by rw [e]; rfl)
    obtain ⟨r, f, rfl⟩ : ∃ r f, fs = r ++ [f] := ⟨_, _, (List.dropLast_concat_getLast hne).symm⟩
    obtain ⟨pg, cap, rfl, hcap⟩ := I.row' hne
    have hdep := I.pile.depth
    rw [toldP_len] at hdep
    have hlen : (r ++ [f]).length = r.length + 1 := by simp
    obtain ⟨hC, hos⟩ := HC.out
    generalize hnp : (r ++ [f]).length = np at *
    have hN1 : (np : Int) - 1 = (r.length : Int) := by omega
    have hN2 : (r.length : Int) < (np : Int) := by omega
    have hN3 : r.length < np := by omega
    have hN4 : (0 : Int) ≤ (r.length : Int) := by omega
    have hN5 : -9223372036854775808 ≤ (r.length : Int) := by omega
    have hN6 : (r.length : Int) ≤ 9223372036854775807 := by omega
    have HI1 : Hid (FI w h s d mb ov0 os sz cut F C wr (.slice (some ⟨pg, 0, none⟩) np cap) ov gs cc ms K (r ++ [f]) ∧ E = finish (parsO os) (errO os) (os.length + 2) (toldP (r ++ [f])) gs ∧ gk = leftP (toldP (r ++ [f])) + restO gs.been os ∧ np = r.length + 1 ∧ np ≤ os.length + 1 ∧ os.length ≤ 65536) := ⟨I, hE, hg, by omega, by omega, hos⟩
    clear I hE hg hne hcap hdep hlen hC hos hnp
    generalize hNN : r.length = N at *
    have HNN : Hid (r.length = N) := hNN
    clear hNN
    go_wp2
    go_loopg [5] gk (fun g2 p wy => ∃ (f' : Fr), p = .slice (some ⟨pg, 0, none⟩) np cap ∧ Hid (FI w h s d mb ov0 os sz cut F C wy (.slice (some ⟨pg, 0, none⟩) np cap) ov gs cc ms K (r ++ [f']) ∧ E = finish (parsO os) (errO os) (os.length + 2) (toldP (r ++ [f'])) gs ∧ g2 = leftP (toldP (r ++ [f'])) + restO gs.been os ∧ g2 ≤ gk ∧ np = N + 1 ∧ np ≤ os.length + 1 ∧ os.length ≤ 65536))
    case atStart => exact ⟨f, rfl, HI1.out.1, HI1.out.2.1, HI1.out.2.2.1, Nat.le_refl _, HI1.out.2.2.2⟩
    case round =>
      clear HI1
      obtain ⟨f', rfl, HR⟩ := hrel
      obtain ⟨I, hE, hg2, hgk, hnp, hnp2, hos⟩ := HR.out
      clear HR
      have hrN := HNN.out
      obtain ⟨t0, t1, t2, t3, t4, t5, t6, t7⟩ := I.top (by omega)
      rw [hrN] at t0 t1 t2 t3 t4 t5 t6 t7
      have hfr := I.fr f' (by simp)
      have hI0 := hfr.1.get.1
      cases hfl : f'.l with
      | nil =>
        have hln : f'.ln = 0 := by rw [hfl] at hI0; exact hI0.symm
        rw [hln] at t6
        obtain ⟨⟨mid, mt, mpa, mpn, mpc, mau, md, mtx, mps⟩, la, ln, lc, fl⟩ := f'
        simp only at t0 t1 t2 t3 t4 t5 t6 t7 hfl hln hI0
        subst hfl hln
        rcases List.eq_nil_or_concat r with hr | ⟨r2, q, hr⟩
        · subst hr
          have hN0 : N = 0 := by rw [← hrN]; rfl
          subst hN0
          have hnp1 : np = 1 := by omega
          subst hnp1
          have HEb : Hid (E = .ok gs) := hE.trans finish_end
          have HI2 : Hid (FI w h s d mb ov0 os sz cut F C wr (.slice (some ⟨pg, 0, none⟩) 1 cap) ov gs cc ms K ([] ++ [⟨⟨mid, mt, mpa, mpn, mpc, mau, md, mtx, mps⟩, la, 0, lc, []⟩])) := I
          clear I hE hg2 hgk hnp hnp2 hos hrN hfr hI0 HNN hN1 hN2 hN3 hN4 hN5 hN6
          go_wp2
          try rw [Exit.noGoto_ret]
          go_ret
          rw [HEb.out]
          exact ⟨HI2.out.T, rfl, ov, ms, K, cc, HI2.out.H, HI2.out.ord, by have := HI2.out.cc; omega, by have := HI2.out.mc; omega, HI2.out.ovn⟩
        · rw [List.concat_eq_append] at hr
          subst hr
          have hr2 : r2.length + 1 = N := by rw [← hrN]; simp
          have hM := I.mem _ (show (⟨⟨mid, mt, mpa, mpn, mpc, mau, md, mtx, mps⟩, la, 0, lc, []⟩ : Fr) ∈ ((r2 ++ [q]) ++ [(⟨⟨mid, mt, mpa, mpn, mpc, mau, md, mtx, mps⟩, la, 0, lc, []⟩ : Fr)]).tail by cases r2 <;> simp)
          obtain ⟨hm0, hm1⟩ := hM.rng
          simp only at hm0 hm1
          have hcc := I.cc
          have hmc := I.mc
          obtain ⟨hC1, _⟩ := HC.out
          have hbnD : BnAt wr.drew mb gs.been cc := I.H.bn.kept rfl
          obtain ⟨w2, hupd, hbn2, hgD⟩ := hbnD.put mid hm0 hm1 (by unfold maxLen; omega) 2
          have hg2' : wr.grownBy w2 (some mb) := ⟨hgD.os, hgD.tape, hgD.output, hgD.size, hgD.block⟩
          have hpb := I.pb pg rfl
          have hnpm : some pg ≠ some mb := fun e => hpb.1 (.inr (.inl (Option.some.inj e)))
          have hnhm : some h ≠ some mb := fun e => I.H.hm (Option.some.inj e)
          have c1 := I.H.c1
          have k0 := hg2'.cell t0 hnpm
          have k1 := hg2'.cell t1 hnpm
          have k2 := hg2'.cell t2 hnpm
          have k3 := hg2'.cell t3 hnpm
          have k4 := hg2'.cell t4 hnpm
          have k5 := hg2'.cell t5 hnpm
          have e1 := hg2'.cell c1 hnhm
          have e2 := hg2'.cell I.H.c2 hnhm
          obtain ⟨oa, oc, hov, _⟩ := row_shapeN I.H.row
          subst hov
          have hrow2 : w2.ownsRow 0 137 6 (.slice oa ms.length oc) ms.length (mbCells ms) := row_moved I.H.row fun z hz => hg2'.block z (I.H.row.lt z hz).2 (by simpa using (I.H.vo z hz).2.1)
          have hrowA := hrow2.drew.alloc (.cells #[.int .u64 mid, .int .u64 mt, .slice mpa mpn mpc, .string mau, .int .i64 md, .string mtx] 137)
          obtain ⟨i0, hi, hz0, hz1, hz2⟩ := info_parts infoMember
          have hcapN : N ≤ cap := by
            have e0 : ((r2 ++ [q]) ++ [(⟨⟨mid, mt, mpa, mpn, mpc, mau, md, mtx, mps⟩, la, 0, lc, []⟩ : Fr)]).length = np := by simp; omega
            have h1 := I.row
            rw [e0] at h1
            obtain ⟨a9, c9, e9, h9, _⟩ := row_shapeN h1
            cases e9
            omega
          have HEb : Hid (E = finish (parsO os) (errO os) (os.length + 2) (toldP (r2 ++ [q])) (gs.plc mid)) := by
            have h1 := hE
            rw [toldP_snoc (r2 ++ [q]), toldP_snoc] at h1
            rw [toldP_snoc]
            exact h1.trans finish_pop
          have HGe : Hid (leftP (toldP (r2 ++ [q])) + restO (gs.plc mid).been os < gk) := by
            have h1 : restO (gs.plc mid).been os ≤ restO gs.been os := restO_le os (fun x hx => by
              simp only [GS.plc, setG]
              split
              · decide
              · exact hx)
            have h2 := hg2
            rw [toldP_snoc (r2 ++ [q])] at h2
            simp only [leftP, List.length_nil] at h2
            show _ < _
            omega
          have hend : ∀ v' w3, w3.ownsRow 0 137 6 v' (ms.length + 1) (mbCells ms ++ mbCells [⟨mid, mt, mpa, mpn, mpc, mau, md, mtx, mps⟩]) → (w2.drew.alloc (.cells #[.int .u64 mid, .int .u64 mt, .slice mpa mpn mpc, .string mau, .int .i64 md, .string mtx] 137)).grownBy w3 (Value.slice oa ms.length oc).ownBlock → (v'.ownBlock = (Value.slice oa ms.length oc).ownBlock ∨ v'.ownBlock = some (w2.drew.alloc (.cells #[.int .u64 mid, .int .u64 mt, .slice mpa mpn mpc, .string mau, .int .i64 md, .string mtx] 137)).heap.size) →
              w3.cell? ⟨h, 2, none⟩ = some (.slice oa ms.length oc) ∧ w3.frozen? ⟨h, 2, none⟩ = false ∧ Hid (FI w h s d mb ov0 os sz cut F C (w3.setCell ⟨h, 2, none⟩ v') (.slice (some ⟨pg, 0, none⟩) N cap) v' (gs.plc mid) (cc + 1) (ms ++ [⟨mid, mt, mpa, mpn, mpc, mau, md, mtx, mps⟩]) K (r2 ++ [q])) := by
            intro v' w3 ho3 hg3 hat3
            have hT3 : Turn (fun k => (Value.slice oa ms.length oc).ownBlock = some k) w2 w3 := by
              have h1 : Turn (fun k => (Value.slice oa ms.length oc).ownBlock = some k) w2 (w2.drew.alloc (.cells #[.int .u64 mid, .int .u64 mt, .slice mpa mpn mpc, .string mau, .int .i64 md, .string mtx] 137)) := Turn.of_below _ ((⟨rfl, rfl, rfl, Nat.le_refl _, fun _ _ => rfl⟩ : Below w2.heap.size w2 w2.drew).alloc (Nat.le_refl _) _)
              exact h1.trans (Turn.of_grownBy (Fp := fun k => (Value.slice oa ms.length oc).ownBlock = some k) hg3 (fun k hk => .inl hk)) (fun _ _ e => e)
            have hhl2 : h < w2.heap.size := Nat.lt_of_lt_of_le I.H.hlt hg2'.size
            have kh : w3.heap[h]? = w2.heap[h]? := hT3.block h hhl2 (fun e => (I.H.vo h e).1 rfl)
            have hf2 : w2.frozen? ⟨h, 2, none⟩ = false := by rw [World.frozen?_of_block (hg2'.block h I.H.hlt hnhm)]; exact I.H.f2
            refine ⟨(World.cell?_of_block kh).trans e2, (World.frozen?_of_block kh).trans hf2, ?_⟩
            have hP := I.pop (by omega) rfl hbn2 hg2' v' ho3 hT3 (fun z hz => hat3.elim (fun e => .inl (by rw [← e]; exact hz)) (fun e => .inr (by
              rw [e] at hz
              cases hz
              rw [World.size_alloc]
              exact Nat.le_succ _)))
            rw [hr2] at hP
            exact hP
          have HEnd : Hid _ := hend
          have e2a : (w2.alloc (.cells #[.int .u64 mid, .int .u64 mt, .slice mpa mpn mpc, .string mau, .int .i64 md, .string mtx] 137)).cell? ⟨h, 2, none⟩ = some (.slice oa ms.length oc) := by
            have hhl2 : h < w2.heap.size := Nat.lt_of_lt_of_le I.H.hlt hg2'.size
            rw [World.cell?_of_block (w := w2) (Below.heap_alloc _ _ _ hhl2)]
            exact e2
          have j1 : ¬ np = 1 := by omega
          have j2 : (N : Int) ≤ (cap : Int) := by omega
          have hmc2 : ms.length ≤ 1000000000000 := by omega
          clear hend hrow2 hbn2 hgD hg2' hbnD hM I hE hg2 hnp hnp2 hos hrN hfr hI0 hcc hmc hC1 hpb hnpm hnhm hr2 HNN
          generalize hMS : ms.length = MS at *
          have HMS : Hid (ms.length = MS) := hMS
          clear hMS
          go_wp2
          go_region_held3 (fun W => W.cell? ⟨h, 1, none⟩ = some (.map (some mb)) ∧ W.cell? ⟨pg, N * 7, none⟩ = some (.int .u64 mid))
            (first
              | (go_split_ands
                 refine ⟨by go_keep, by go_keep⟩)
              | (exact ⟨e1, k0⟩))
            (fail)
          go_wp2
          go_region_law ((refine step_appM _ (by rfl) _ _ (by rfl) i0 _ hi hz0 hz1 hz2 rfl (.slice oa MS oc) MS (mbCells ms) (by rfl) hrowA ⟨w2.heap.size, 0, none⟩ ⟨mid, mt, mpa, mpn, mpc, mau, md, mtx, mps⟩ (by rfl) (cells_member_new w2.drew ⟨mid, mt, mpa, mpn, mpc, mau, md, mtx, mps⟩) hmc2 ?_; intro v' w3 ho3 hg3 hat3; obtain ⟨a4, c4, rfl, _, _⟩ := row_shapeN ho3; obtain ⟨hx0, hx1, hF3⟩ := HEnd.out _ w3 ho3 hg3 hat3))
          all_goals go_wp2
          all_goals (
            go_roundg (leftP (toldP (r2 ++ [q])) + restO (gs.plc mid).been os)
            case measure => have h1 := HGe.out; have h2 := hgk; omega
            case rel => exact ⟨_, _, _, _, _, _, hF3.out, HEb.out, rfl⟩)
      | cons x l2 =>
        obtain ⟨b1, o1, hla, hcl⟩ := hfr.1.get.2 (by rw [← hI0, hfl]; simp)
        have q0 := hcl 0 x (by rw [hfl]; rfl)
        obtain ⟨hx0, hx1⟩ := hfr.2.2 x (by rw [hfl]; simp)
        rw [Nat.add_zero] at q0
        have hlc := hfr.2.1
        rw [hfl, List.length_cons] at hI0
        obtain ⟨ln, hln⟩ : ∃ ln, ln = f'.ln := ⟨_, rfl⟩
        obtain ⟨lc, hlcE⟩ : ∃ lc, lc = f'.lc := ⟨_, rfl⟩
        rw [hla, ← hln, ← hlcE] at t6
        rw [← hln] at hI0 hlc
        rw [← hlcE] at hlc
        have i1 : (0 : Int) < (ln : Int) := by omega
        have i2 : 0 < ln := by omega
        have i3 : (1 : Int) ≤ (ln : Int) := by omega
        have i4 : 1 ≤ ln := by omega
        have i5 : (ln : Int) ≤ (lc : Int) := by omega
        have hpx := (I.pb pg rfl).1
        have n1 : pg ≠ h := fun e => hpx (.inl e)
        have n2 : h ≠ pg := fun e => n1 e.symm
        have n3 : mb ≠ pg := fun e => hpx (.inr (.inl e.symm))
        have c0 := I.H.c0
        have c1 := I.H.c1
        have HX2 : Hid (FI w h s d mb ov0 os sz cut F C wr (.slice (some ⟨pg, 0, none⟩) np cap) ov gs cc ms K (r ++ [f']) ∧ E = finish (parsO os) (errO os) (os.length + 2) (toldP (r ++ [f'])) gs ∧ gk = leftP (toldP (r ++ [f'])) + restO gs.been os ∧ np = N + 1 ∧ np ≤ os.length + 1 ∧ os.length ≤ 65536) := ⟨I, hE, hg2, hnp, hnp2, hos⟩
        have HF : Hid (f'.l = x :: l2 ∧ f'.la = some ⟨b1, o1, none⟩ ∧ ln = f'.ln ∧ lc = f'.lc ∧ l2.length + 1 = ln ∧ ln ≤ lc ∧ r.length = N) := ⟨hfl, hla, hln, hlcE, hI0, hlc, hrN⟩
        have HG : Hid (gk ≤ _) := hgk
        clear I hfr hcl hE hg2 hnp hnp2 hos hfl hla hln hlcE hI0 hrN hpx hgk
        by_cases hone : lc = 1
        · have hone2 : ln = 1 := by have := HF.out.2.2.2.2.2.1; omega
          subst hone hone2
          clear i1 i2 i3 i4 i5
          go_upto_region 6 with fail
          have I2 := HX2.out.1.next (by rw [HF.out.2.2.2.2.2.2]; exact HX2.out.2.2.2.1) x l2 HF.out.1 (some ⟨b1, o1, none⟩) 0 0 (by
            have h1 := (HX2.out.1.fr f' (by simp)).1
            rw [HF.out.1, HF.out.2.1, ← HF.out.2.2.1] at h1
            exact h1.tail0 rfl) (Nat.le_refl _)
          rw [HF.out.2.2.2.2.2.2] at I2
          clear c0 c1 t0 t1 t2 t3 t4 t5 t6 t7 q0
          generalize wr.setCell ⟨pg, N * 7 + 6, none⟩ (.slice (some ⟨b1, o1, none⟩) 0 0) = W2 at *
          have hE2 : Hid (E = finish (parsO os) (errO os) (os.length + 2) ((f'.m.id, x :: l2) :: toldP r) gs) := by
            have := HX2.out.2.1
            rw [toldP_snoc, HF.out.1] at this
            exact this
          have hg2 : Hid (gk = (x :: l2).length + 1 + leftP (toldP r) + restO gs.been os ∧ np = N + 1 ∧ np ≤ os.length + 1 ∧ os.length ≤ 65536 ∧ r.length = N) := by
            have h1 := HX2.out.2.2
            rw [toldP_snoc, HF.out.1] at h1
            exact ⟨h1.1, h1.2.1, h1.2.2.1, h1.2.2.2, HF.out.2.2.2.2.2.2⟩
          have hrl : (toldP r).length < os.length + 2 := by rw [toldP_len]; have := hg2.out; omega
          have c0 := I2.H.c0
          have c1 := I2.H.c1
          have hlook := I2.H.bn.look x hx0 hx1 W2 rfl
          have HI2 : Hid (FI w h s d mb ov0 os sz cut F C W2 (.slice (some ⟨pg, 0, none⟩) np cap) ov gs cc ms K (r ++ [⟨f'.m, some ⟨b1, o1, none⟩, 0, 0, l2⟩])) := I2
          have HRL : Hid ((toldP r).length < os.length + 2) := hrl
          clear HX2 HF hrl hN1 hN2 hN3 hN4 hN5 hN6 n1 n2 n3
          rcases I2.b3 x with hb | hb | hb
          · rw [hb] at hlook
            have HB0 : Hid (gs.been x = 0) := hb
            clear I2 hb
            cases hp : parsO os x with
            | none =>
              have her := errO_ne os x
              have hcm := gcom_no W2 s d os sz cut F HI2.out.st x hx0 hx1 hp
              have HEb : Hid (E = .bad (errO os x)) := by
                have h1 := finish_bad (P := parsO os) (ge := errO os) (N := os.length + 2) (i := f'.m.id) (x := x) (l := l2) (r := toldP r) (s := gs) HRL.out (by rw [HB0.out]; decide) (by rw [HB0.out]; decide) hp
                exact hE2.out.trans h1
              generalize errO os x = er at *
              have her2 : (er == 0) = false := beq_eq_false_iff_ne.2 her
              clear hp her
              go_wp2_with (go_at_call 81; refine hcm.mono ?_; clear hcm; rintro e w3 ⟨ct, ca, cn, cq, cau, cd, ctx, rfl, hB3⟩; have HB3 : Hid (Below W2.heap.size W2 w3) := hB3; clear hB3)
              rw [Exit.noGoto_ret]
              go_ret
              rw [HEb.out]
              exact ⟨HI2.out.T.trans (Turn.of_below (fun _ => False) (HB3.out.alloc HB3.out.size _)) (fun _ _ e => e.elim), rfl, beq_eq_false_iff_ne.1 her2⟩
            | some ps =>
              have HEb : Hid (E = finish (parsO os) (errO os) (os.length + 2) ((x, ps) :: (f'.m.id, l2) :: toldP r) (gs.opn x)) := by
                have h1 := finish_push (P := parsO os) (ge := errO os) (N := os.length + 2) (i := f'.m.id) (x := x) (l := l2) (r := toldP r) (s := gs) HRL.out (by rw [HB0.out]; decide) (by rw [HB0.out]; decide) hp
                exact hE2.out.trans h1
              have hcm := gcom_yes W2 s d os sz cut F HI2.out.st x hx0 hx1 ps hp
              have hccb : Hid (cc ≤ 1000000000000 ∧ np ≤ 1000000000000) := ⟨by have := HI2.out.cc; have := HC.out.1; omega, by have := hg2.out; omega⟩
              clear hp
              go_wp2_with first
                | (go_at_call 81
                   refine hcm.mono ?_
                   clear hcm
                   rintro e w3 ⟨⟨⟨mid, mt, mpa, mpn, mpc, mau, md, mtx, mps⟩, hmi, hmp, rfl, hmo⟩, hB3⟩
                   simp only at hmi hmp
                   have hmbl := HI2.out.H.bn.lt
                   have hB4 : Below W2.heap.size W2 (w3.alloc (.cells #[.int .u64 mt, .slice mpa mpn mpc, .string mau, .int .i64 md, .string mtx] 78)) := hB3.alloc hB3.size _
                   have c1a : w3.cell? ⟨h, 1, none⟩ = some (.map (some mb)) := (HI2.out.H.below hB3).c1
                   have c1b : (w3.alloc (.cells #[.int .u64 mt, .slice mpa mpn mpc, .string mau, .int .i64 md, .string mtx] 78)).cell? ⟨h, 1, none⟩ = some (.map (some mb)) := (HI2.out.H.below hB4).c1
                   obtain ⟨w4, hupd, hbn4, hg4⟩ := (HI2.out.H.bn.kept (hB4.block mb hmbl)).put x hx0 hx1 (by have := hccb.out; unfold maxLen; omega) 1
                   have hs3 := hB3.size
                   have hne4 : some w3.heap.size ≠ some mb := fun e => by have := Option.some.inj e; omega
                   have d0 : w4.cell? ⟨w3.heap.size, 0, none⟩ = some (.int .u64 mt) := hg4.cell (by simp only [World.cell?, World.alloc_heap_new]; rfl) hne4
                   have d1 : w4.cell? ⟨w3.heap.size, 1, none⟩ = some (.slice mpa mpn mpc) := hg4.cell (by simp only [World.cell?, World.alloc_heap_new]; rfl) hne4
                   have d2 : w4.cell? ⟨w3.heap.size, 2, none⟩ = some (.string mau) := hg4.cell (by simp only [World.cell?, World.alloc_heap_new]; rfl) hne4
                   have d3 : w4.cell? ⟨w3.heap.size, 3, none⟩ = some (.int .i64 md) := hg4.cell (by simp only [World.cell?, World.alloc_heap_new]; rfl) hne4
                   have d4 : w4.cell? ⟨w3.heap.size, 4, none⟩ = some (.string mtx) := hg4.cell (by simp only [World.cell?, World.alloc_heap_new]; rfl) hne4
                   have hmo4 : MbOk os (fun k => W2.heap.size ≤ k ∧ k < (w3.alloc (.cells #[.int .u64 mt, .slice mpa mpn mpc, .string mau, .int .i64 md, .string mtx] 78)).heap.size) (w3.alloc (.cells #[.int .u64 mt, .slice mpa mpn mpc, .string mau, .int .i64 md, .string mtx] 78)) ⟨mid, mt, mpa, mpn, mpc, mau, md, mtx, mps⟩ := (hmo.kept fun k hk => Below.heap_alloc _ _ _ hk.2).wide fun k hk => ⟨hk.1, by have := hk.2; rw [World.size_alloc]; omega⟩
                   have hr4 : w4.ownsRow w.heap.size 171 7 (.slice (some ⟨pg, 0, none⟩) np cap) np (frCells (r ++ [⟨f'.m, some ⟨b1, o1, none⟩, 0, 0, l2⟩])) := by
                     have e0 : (r ++ [(⟨f'.m, some ⟨b1, o1, none⟩, 0, 0, l2⟩ : Fr)]).length = np := by simp [hg2.out.2.2.2.2, hg2.out.2.1]
                     have h1 := HI2.out.row
                     rw [e0] at h1
                     have hpl := (h1.lt pg rfl).2
                     exact row_moved h1 fun z hz => by
                       cases hz
                       exact (hg4.block pg (Nat.lt_of_lt_of_le hpl hB4.size) (fun e => (HI2.out.pb pg rfl).1 (.inr (.inl (Option.some.inj e))))).trans (hB4.block pg hpl)
                   have hr5 := hr4.alloc (.cells #[.int .u64 x, .int .u64 mt, .slice mpa mpn mpc, .string mau, .int .i64 md, .string mtx, .slice mpa mpn mpc] 171)
                   have hsz4 : w.heap.size ≤ (w4.alloc (.cells #[.int .u64 x, .int .u64 mt, .slice mpa mpn mpc, .string mau, .int .i64 md, .string mtx, .slice mpa mpn mpc] 171)).heap.size := by
                     have h1 := HI2.out.T.size
                     have h2 := hB4.size
                     have h3 := hg4.size
                     rw [World.size_alloc]
                     omega
                   have HM : Hid (mid = x ∧ mps = ps ∧ Below W2.heap.size W2 (w3.alloc (.cells #[.int .u64 mt, .slice mpa mpn mpc, .string mau, .int .i64 md, .string mtx] 78)) ∧ MbOk os (fun k => W2.heap.size ≤ k ∧ k < (w3.alloc (.cells #[.int .u64 mt, .slice mpa mpn mpc, .string mau, .int .i64 md, .string mtx] 78)).heap.size) (w3.alloc (.cells #[.int .u64 mt, .slice mpa mpn mpc, .string mau, .int .i64 md, .string mtx] 78)) ⟨mid, mt, mpa, mpn, mpc, mau, md, mtx, mps⟩ ∧ BnAt w4 mb (setG gs.been x 1) (cc + 1) ∧ (w3.alloc (.cells #[.int .u64 mt, .slice mpa mpn mpc, .string mau, .int .i64 md, .string mtx] 78)).grownBy w4 (some mb)) := ⟨hmi, hmp, hB4, hmo4, hbn4, hg4⟩
                   have HS4 : Hid (w.heap.size ≤ (w4.alloc (.cells #[.int .u64 x, .int .u64 mt, .slice mpa mpn mpc, .string mau, .int .i64 md, .string mtx, .slice mpa mpn mpc] 171)).heap.size) := hsz4
                   clear hmi hmp hmo hB3 hB4 hbn4 hg4 hmo4 hr4 hs3 hne4 hmbl hsz4)
                | (at_builtin
                   obtain ⟨i0, hi, hz0, hz1, hz2⟩ := info_parts infoVisit
                   refine wpList_append_own_at _ rfl _ _ 172 rfl w.heap.size 171 i0 _ 7 104 Tryz.underlying172 hi hz0 hz1 hz2 rfl (by decide) _ np _ rfl hr5 ⟨w4.heap.size, 0, none⟩ 1 1 (frCells [⟨⟨x, mt, mpa, mpn, mpc, mau, md, mtx, mps⟩, mpa, mpn, mpc, mps⟩]) rfl rfl (cells_frame_new w4 ⟨⟨x, mt, mpa, mpn, mpc, mau, md, mtx, mps⟩, mpa, mpn, mpc, mps⟩) (frCells_one _) (by have := hccb.out; unfold maxLen; omega) (by have := hccb.out; omega) HS4.out ?_
                   intro v' w5 hown5 hgr5 _ hat5
                   have H5 : Hid (w5.ownsRow w.heap.size 171 7 v' (np + 1) (frCells (r ++ [⟨f'.m, some ⟨b1, o1, none⟩, 0, 0, l2⟩]) ++ frCells [⟨⟨x, mt, mpa, mpn, mpc, mau, md, mtx, mps⟩, mpa, mpn, mpc, mps⟩]) ∧ (w4.alloc (.cells #[.int .u64 x, .int .u64 mt, .slice mpa mpn mpc, .string mau, .int .i64 md, .string mtx, .slice mpa mpn mpc] 171)).grownBy w5 (some pg) ∧ (v'.ownBlock = some pg ∨ v'.ownBlock = some (w4.alloc (.cells #[.int .u64 x, .int .u64 mt, .slice mpa mpn mpc, .string mau, .int .i64 md, .string mtx, .slice mpa mpn mpc] 171)).heap.size)) := ⟨hown5, hgr5, hat5⟩
                   clear hgr5 hat5
                   obtain ⟨ad5, cp5, hv5, _⟩ := row_shapeN hown5
                   clear hown5
                   subst hv5)
              go_roundg (ps.length + 1 + (l2.length + 1 + leftP (toldP r)) + restO (gs.opn x).been os)
              case measure =>
                have h1 := HI2.out
                have h2 := hg2.out.1
                have h3 := HG.out
                have h4 : restO (gs.opn x).been os + ps.length + 2 ≤ restO gs.been os := restO_push (by omega) os x ps (by have := HM.out; rw [← this.1, ← this.2.1]; exact this.2.2.2.1.com) HB0.out
                simp only [List.length_cons] at h2
                omega
              case rel =>
                obtain ⟨h1, h2, h3, h4, h5, h6⟩ := HM.out
                subst h1 h2
                obtain ⟨g1, g2, g3⟩ := H5.out
                have hlen0 : (r ++ [(⟨f'.m, some ⟨b1, o1, none⟩, 0, 0, l2⟩ : Fr)]).length = np := by simp [hg2.out.2.2.2.2, hg2.out.2.1]
                have hP := HI2.out.push (by simp) h3 _ h4 HB0.out h5 h6 (.slice ad5 (np + 1) cp5) (w3 := w5) (by rw [hlen0]; exact g1) (Turn.trans (Turn.of_below (fun k => (Value.slice (some ⟨pg, 0, none⟩) np cap).ownBlock = some k) ((Below.refl _ w4).alloc (Nat.le_refl _) _)) (Turn.of_grownBy (Fp := fun k => (Value.slice (some ⟨pg, 0, none⟩) np cap).ownBlock = some k) g2 (fun k hk => .inl hk)) (fun _ _ e => e)) (fun z hz => by
                  rcases g3 with e | e
                  · exact .inl (by rw [← hz, e]; rfl)
                  · refine .inr ?_
                    rw [e] at hz
                    cases hz
                    rw [World.size_alloc]
                    omega)
                exact ⟨_, _, _, _, _, _, hP, by rw [toldP_snoc, toldP_snoc]; exact HEb.out, by rw [toldP_snoc, toldP_snoc]; simp [leftP]⟩
          · rw [hb] at hlook
            have HEb : Hid (E = .bad 210) := hE2.out.trans (finish_ring HRL.out hb)
            clear I2 hb
            go_wp2
            rw [Exit.noGoto_ret]
            go_ret
            rw [HEb.out]
            exact ⟨HI2.out.T, rfl, by decide⟩
          · rw [hb] at hlook
            have HEb : Hid (E = finish (parsO os) (errO os) (os.length + 2) ((f'.m.id, l2) :: toldP r) gs) := hE2.out.trans (finish_placed HRL.out hb)
            clear I2 hb
            go_wp2
            go_roundg (l2.length + 1 + leftP (toldP r) + restO gs.been os)
            case measure => have := hg2.out.1; simp only [List.length_cons] at this; omega
            case rel => exact ⟨⟨f'.m, some ⟨b1, o1, none⟩, 0, 0, l2⟩, rfl, HI2.out, by rw [toldP_snoc]; exact HEb.out, by rw [toldP_snoc]; rfl, by have h1 := hg2.out.1; have h2 := HG.out; simp only [List.length_cons] at h1; omega, hg2.out.2.1, hg2.out.2.2.1, hg2.out.2.2.2.1⟩
        · have i6 : (lc : Int) - 1 ≠ 0 := by omega
          have i7 : ¬ lc - 1 = 0 := by omega
          go_upto_region 6 with fail
          have I2 := HX2.out.1.next (by rw [HF.out.2.2.2.2.2.2]; exact HX2.out.2.2.2.1) x l2 HF.out.1 (some ⟨b1, o1 + 1, none⟩) (ln - 1) (lc - 1) (by
            have h1 := (HX2.out.1.fr f' (by simp)).1
            rw [HF.out.1, HF.out.2.1, ← HF.out.2.2.1] at h1
            exact h1.tail) (by have := HF.out.2.2.2.2.2.1; omega)
          rw [HF.out.2.2.2.2.2.2] at I2
          clear c0 c1 t0 t1 t2 t3 t4 t5 t6 t7 q0 i1 i2 i3 i4 i5 i6 i7 hone
          generalize wr.setCell ⟨pg, N * 7 + 6, none⟩ (.slice (some ⟨b1, o1 + 1, none⟩) (ln - 1) (lc - 1)) = W2 at *
          generalize (some ⟨b1, o1 + 1, none⟩ : Option Addr) = la2 at *
          generalize ln - 1 = ln2 at *
          generalize lc - 1 = lc2 at *
          have hE2 : Hid (E = finish (parsO os) (errO os) (os.length + 2) ((f'.m.id, x :: l2) :: toldP r) gs) := by
            have := HX2.out.2.1
            rw [toldP_snoc, HF.out.1] at this
            exact this
          have hg2 : Hid (gk = (x :: l2).length + 1 + leftP (toldP r) + restO gs.been os ∧ np = N + 1 ∧ np ≤ os.length + 1 ∧ os.length ≤ 65536 ∧ r.length = N) := by
            have h1 := HX2.out.2.2
            rw [toldP_snoc, HF.out.1] at h1
            exact ⟨h1.1, h1.2.1, h1.2.2.1, h1.2.2.2, HF.out.2.2.2.2.2.2⟩
          have hrl : (toldP r).length < os.length + 2 := by rw [toldP_len]; have := hg2.out; omega
          have c0 := I2.H.c0
          have c1 := I2.H.c1
          have hlook := I2.H.bn.look x hx0 hx1 W2 rfl
          have HI2 : Hid (FI w h s d mb ov0 os sz cut F C W2 (.slice (some ⟨pg, 0, none⟩) np cap) ov gs cc ms K (r ++ [⟨f'.m, la2, ln2, lc2, l2⟩])) := I2
          have HRL : Hid ((toldP r).length < os.length + 2) := hrl
          clear HX2 HF hrl hN1 hN2 hN3 hN4 hN5 hN6 n1 n2 n3
          rcases I2.b3 x with hb | hb | hb
          · rw [hb] at hlook
            have HB0 : Hid (gs.been x = 0) := hb
            clear I2 hb
            cases hp : parsO os x with
            | none =>
              have her := errO_ne os x
              have hcm := gcom_no W2 s d os sz cut F HI2.out.st x hx0 hx1 hp
              have HEb : Hid (E = .bad (errO os x)) := by
                have h1 := finish_bad (P := parsO os) (ge := errO os) (N := os.length + 2) (i := f'.m.id) (x := x) (l := l2) (r := toldP r) (s := gs) HRL.out (by rw [HB0.out]; decide) (by rw [HB0.out]; decide) hp
                exact hE2.out.trans h1
              generalize errO os x = er at *
              have her2 : (er == 0) = false := beq_eq_false_iff_ne.2 her
              clear hp her
              go_wp2_with (go_at_call 81; refine hcm.mono ?_; clear hcm; rintro e w3 ⟨ct, ca, cn, cq, cau, cd, ctx, rfl, hB3⟩; have HB3 : Hid (Below W2.heap.size W2 w3) := hB3; clear hB3)
              rw [Exit.noGoto_ret]
              go_ret
              rw [HEb.out]
              exact ⟨HI2.out.T.trans (Turn.of_below (fun _ => False) (HB3.out.alloc HB3.out.size _)) (fun _ _ e => e.elim), rfl, beq_eq_false_iff_ne.1 her2⟩
            | some ps =>
              have HEb : Hid (E = finish (parsO os) (errO os) (os.length + 2) ((x, ps) :: (f'.m.id, l2) :: toldP r) (gs.opn x)) := by
                have h1 := finish_push (P := parsO os) (ge := errO os) (N := os.length + 2) (i := f'.m.id) (x := x) (l := l2) (r := toldP r) (s := gs) HRL.out (by rw [HB0.out]; decide) (by rw [HB0.out]; decide) hp
                exact hE2.out.trans h1
              have hcm := gcom_yes W2 s d os sz cut F HI2.out.st x hx0 hx1 ps hp
              have hccb : Hid (cc ≤ 1000000000000 ∧ np ≤ 1000000000000) := ⟨by have := HI2.out.cc; have := HC.out.1; omega, by have := hg2.out; omega⟩
              clear hp
              go_wp2_with first
                | (go_at_call 81
                   refine hcm.mono ?_
                   clear hcm
                   rintro e w3 ⟨⟨⟨mid, mt, mpa, mpn, mpc, mau, md, mtx, mps⟩, hmi, hmp, rfl, hmo⟩, hB3⟩
                   simp only at hmi hmp
                   have hmbl := HI2.out.H.bn.lt
                   have hB4 : Below W2.heap.size W2 (w3.alloc (.cells #[.int .u64 mt, .slice mpa mpn mpc, .string mau, .int .i64 md, .string mtx] 78)) := hB3.alloc hB3.size _
                   have c1a : w3.cell? ⟨h, 1, none⟩ = some (.map (some mb)) := (HI2.out.H.below hB3).c1
                   have c1b : (w3.alloc (.cells #[.int .u64 mt, .slice mpa mpn mpc, .string mau, .int .i64 md, .string mtx] 78)).cell? ⟨h, 1, none⟩ = some (.map (some mb)) := (HI2.out.H.below hB4).c1
                   obtain ⟨w4, hupd, hbn4, hg4⟩ := (HI2.out.H.bn.kept (hB4.block mb hmbl)).put x hx0 hx1 (by have := hccb.out; unfold maxLen; omega) 1
                   have hs3 := hB3.size
                   have hne4 : some w3.heap.size ≠ some mb := fun e => by have := Option.some.inj e; omega
                   have d0 : w4.cell? ⟨w3.heap.size, 0, none⟩ = some (.int .u64 mt) := hg4.cell (by simp only [World.cell?, World.alloc_heap_new]; rfl) hne4
                   have d1 : w4.cell? ⟨w3.heap.size, 1, none⟩ = some (.slice mpa mpn mpc) := hg4.cell (by simp only [World.cell?, World.alloc_heap_new]; rfl) hne4
                   have d2 : w4.cell? ⟨w3.heap.size, 2, none⟩ = some (.string mau) := hg4.cell (by simp only [World.cell?, World.alloc_heap_new]; rfl) hne4
                   have d3 : w4.cell? ⟨w3.heap.size, 3, none⟩ = some (.int .i64 md) := hg4.cell (by simp only [World.cell?, World.alloc_heap_new]; rfl) hne4
                   have d4 : w4.cell? ⟨w3.heap.size, 4, none⟩ = some (.string mtx) := hg4.cell (by simp only [World.cell?, World.alloc_heap_new]; rfl) hne4
                   have hmo4 : MbOk os (fun k => W2.heap.size ≤ k ∧ k < (w3.alloc (.cells #[.int .u64 mt, .slice mpa mpn mpc, .string mau, .int .i64 md, .string mtx] 78)).heap.size) (w3.alloc (.cells #[.int .u64 mt, .slice mpa mpn mpc, .string mau, .int .i64 md, .string mtx] 78)) ⟨mid, mt, mpa, mpn, mpc, mau, md, mtx, mps⟩ := (hmo.kept fun k hk => Below.heap_alloc _ _ _ hk.2).wide fun k hk => ⟨hk.1, by have := hk.2; rw [World.size_alloc]; omega⟩
                   have hr4 : w4.ownsRow w.heap.size 171 7 (.slice (some ⟨pg, 0, none⟩) np cap) np (frCells (r ++ [⟨f'.m, la2, ln2, lc2, l2⟩])) := by
                     have e0 : (r ++ [(⟨f'.m, la2, ln2, lc2, l2⟩ : Fr)]).length = np := by simp [hg2.out.2.2.2.2, hg2.out.2.1]
                     have h1 := HI2.out.row
                     rw [e0] at h1
                     have hpl := (h1.lt pg rfl).2
                     exact row_moved h1 fun z hz => by
                       cases hz
                       exact (hg4.block pg (Nat.lt_of_lt_of_le hpl hB4.size) (fun e => (HI2.out.pb pg rfl).1 (.inr (.inl (Option.some.inj e))))).trans (hB4.block pg hpl)
                   have hr5 := hr4.alloc (.cells #[.int .u64 x, .int .u64 mt, .slice mpa mpn mpc, .string mau, .int .i64 md, .string mtx, .slice mpa mpn mpc] 171)
                   have hsz4 : w.heap.size ≤ (w4.alloc (.cells #[.int .u64 x, .int .u64 mt, .slice mpa mpn mpc, .string mau, .int .i64 md, .string mtx, .slice mpa mpn mpc] 171)).heap.size := by
                     have h1 := HI2.out.T.size
                     have h2 := hB4.size
                     have h3 := hg4.size
                     rw [World.size_alloc]
                     omega
                   have HM : Hid (mid = x ∧ mps = ps ∧ Below W2.heap.size W2 (w3.alloc (.cells #[.int .u64 mt, .slice mpa mpn mpc, .string mau, .int .i64 md, .string mtx] 78)) ∧ MbOk os (fun k => W2.heap.size ≤ k ∧ k < (w3.alloc (.cells #[.int .u64 mt, .slice mpa mpn mpc, .string mau, .int .i64 md, .string mtx] 78)).heap.size) (w3.alloc (.cells #[.int .u64 mt, .slice mpa mpn mpc, .string mau, .int .i64 md, .string mtx] 78)) ⟨mid, mt, mpa, mpn, mpc, mau, md, mtx, mps⟩ ∧ BnAt w4 mb (setG gs.been x 1) (cc + 1) ∧ (w3.alloc (.cells #[.int .u64 mt, .slice mpa mpn mpc, .string mau, .int .i64 md, .string mtx] 78)).grownBy w4 (some mb)) := ⟨hmi, hmp, hB4, hmo4, hbn4, hg4⟩
                   have HS4 : Hid (w.heap.size ≤ (w4.alloc (.cells #[.int .u64 x, .int .u64 mt, .slice mpa mpn mpc, .string mau, .int .i64 md, .string mtx, .slice mpa mpn mpc] 171)).heap.size) := hsz4
                   clear hmi hmp hmo hB3 hB4 hbn4 hg4 hmo4 hr4 hs3 hne4 hmbl hsz4)
                | (at_builtin
                   obtain ⟨i0, hi, hz0, hz1, hz2⟩ := info_parts infoVisit
                   refine wpList_append_own_at _ rfl _ _ 172 rfl w.heap.size 171 i0 _ 7 104 Tryz.underlying172 hi hz0 hz1 hz2 rfl (by decide) _ np _ rfl hr5 ⟨w4.heap.size, 0, none⟩ 1 1 (frCells [⟨⟨x, mt, mpa, mpn, mpc, mau, md, mtx, mps⟩, mpa, mpn, mpc, mps⟩]) rfl rfl (cells_frame_new w4 ⟨⟨x, mt, mpa, mpn, mpc, mau, md, mtx, mps⟩, mpa, mpn, mpc, mps⟩) (frCells_one _) (by have := hccb.out; unfold maxLen; omega) (by have := hccb.out; omega) HS4.out ?_
                   intro v' w5 hown5 hgr5 _ hat5
                   have H5 : Hid (w5.ownsRow w.heap.size 171 7 v' (np + 1) (frCells (r ++ [⟨f'.m, la2, ln2, lc2, l2⟩]) ++ frCells [⟨⟨x, mt, mpa, mpn, mpc, mau, md, mtx, mps⟩, mpa, mpn, mpc, mps⟩]) ∧ (w4.alloc (.cells #[.int .u64 x, .int .u64 mt, .slice mpa mpn mpc, .string mau, .int .i64 md, .string mtx, .slice mpa mpn mpc] 171)).grownBy w5 (some pg) ∧ (v'.ownBlock = some pg ∨ v'.ownBlock = some (w4.alloc (.cells #[.int .u64 x, .int .u64 mt, .slice mpa mpn mpc, .string mau, .int .i64 md, .string mtx, .slice mpa mpn mpc] 171)).heap.size)) := ⟨hown5, hgr5, hat5⟩
                   clear hgr5 hat5
                   obtain ⟨ad5, cp5, hv5, _⟩ := row_shapeN hown5
                   clear hown5
                   subst hv5)
              go_roundg (ps.length + 1 + (l2.length + 1 + leftP (toldP r)) + restO (gs.opn x).been os)
              case measure =>
                have h1 := HI2.out
                have h2 := hg2.out.1
                have h3 := HG.out
                have h4 : restO (gs.opn x).been os + ps.length + 2 ≤ restO gs.been os := restO_push (by omega) os x ps (by have := HM.out; rw [← this.1, ← this.2.1]; exact this.2.2.2.1.com) HB0.out
                simp only [List.length_cons] at h2
                omega
              case rel =>
                obtain ⟨h1, h2, h3, h4, h5, h6⟩ := HM.out
                subst h1 h2
                obtain ⟨g1, g2, g3⟩ := H5.out
                have hlen0 : (r ++ [(⟨f'.m, la2, ln2, lc2, l2⟩ : Fr)]).length = np := by simp [hg2.out.2.2.2.2, hg2.out.2.1]
                have hP := HI2.out.push (by simp) h3 _ h4 HB0.out h5 h6 (.slice ad5 (np + 1) cp5) (w3 := w5) (by rw [hlen0]; exact g1) (Turn.trans (Turn.of_below (fun k => (Value.slice (some ⟨pg, 0, none⟩) np cap).ownBlock = some k) ((Below.refl _ w4).alloc (Nat.le_refl _) _)) (Turn.of_grownBy (Fp := fun k => (Value.slice (some ⟨pg, 0, none⟩) np cap).ownBlock = some k) g2 (fun k hk => .inl hk)) (fun _ _ e => e)) (fun z hz => by
                  rcases g3 with e | e
                  · exact .inl (by rw [← hz, e]; rfl)
                  · refine .inr ?_
                    rw [e] at hz
                    cases hz
                    rw [World.size_alloc]
                    omega)
                exact ⟨_, _, _, _, _, _, hP, by rw [toldP_snoc, toldP_snoc]; exact HEb.out, by rw [toldP_snoc, toldP_snoc]; simp [leftP]⟩
          · rw [hb] at hlook
            have HEb : Hid (E = .bad 210) := hE2.out.trans (finish_ring HRL.out hb)
            clear I2 hb
            go_wp2
            rw [Exit.noGoto_ret]
            go_ret
            rw [HEb.out]
            exact ⟨HI2.out.T, rfl, by decide⟩
          · rw [hb] at hlook
            have HEb : Hid (E = finish (parsO os) (errO os) (os.length + 2) ((f'.m.id, l2) :: toldP r) gs) := hE2.out.trans (finish_placed HRL.out hb)
            clear I2 hb
            go_wp2
            go_roundg (l2.length + 1 + leftP (toldP r) + restO gs.been os)
            case measure => have := hg2.out.1; simp only [List.length_cons] at this; omega
            case rel => exact ⟨⟨f'.m, la2, ln2, lc2, l2⟩, rfl, HI2.out, by rw [toldP_snoc]; exact HEb.out, by rw [toldP_snoc]; rfl, by have h1 := hg2.out.1; have h2 := HG.out; simp only [List.length_cons] at h1; omega, hg2.out.2.1, hg2.out.2.2.1, hg2.out.2.2.2.1⟩
end Go.Proofs.YtncagdfbgpdhfaaGreat
