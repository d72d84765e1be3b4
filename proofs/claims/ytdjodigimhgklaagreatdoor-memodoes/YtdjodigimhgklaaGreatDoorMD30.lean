import Derived.Test.YtdjodigimhgklaaGreatDoorMD28
import Derived.Test.YtdjodigimhgklaaGreatDoorMD25
import Derived.Test.YtdjodigimhgklaaGreatDoorMD27
import Derived.Test.YtdjodigimhgklaaGreatDoorMD23
import Derived.Test.YtdjodigimhgklaaGreatDoorMD24
import Derived.Deep.CutRange
/- The memo's lay: new pairs written, and had from the record on that says so. -/
namespace Go.Proofs.YtdjodigimhgklaaGreatDoor
open Go.RowKit Go.Shelf Go.Maps

attribute [local go_sem] Oper.semAt_some

theorem infoI2 : (Tryz.prog.info? 3).map (fun i => (i.zero, i.size, i.bytes)) = some (some (.int .i64 0), 1, 8) := by kernel_rfl
set_option maxRecDepth 20000 in
theorem ystep_app (w : World) {ops : Array Oper} {o : Oper} {a : Act} {K : Act → World → Prop} {Q : Exit → Act → World → Prop} {E : Prop} (hw : Region.wanted o (yielded ops a.tmps) = true) (x0 x1 x2 : Nat) (ty0 ty1 ty2 : TypeId)
    (ho : o.op = .call { callee := .value (.func 20), args := #[.tmp x0, .tmp x1, .tmp x2], argTypes := #[ty0, ty1, ty2] }) (vx0 vx1 vx2 : Value) (hx0 : a.tmps[x0]?.getD undef = vx0) (hx1 : a.tmps[x1]?.getD undef = vx1) (hx2 : a.tmps[x2]?.getD undef = vx2) (R : Value → World → Prop)
    (hc : Calls Tryz.prog 20 #[vx0, vx1, vx2] w fun e w' => ∃ v, e = .returned v ∧ R v w') (hK : ∀ v w', R v w' → K (a.put o.dst v) w') :
    if Region.wanted o (yielded ops a.tmps) = true then Oper.wp Tryz.prog o a w K Q else E := by
  rw [if_pos hw]
  unfold Oper.wp execOp
  simp [ho, resolve, invoke, go_sem, hx0, hx1, hx2]
  refine hc.mono ?_
  rintro e w' ⟨v, rfl, hR⟩
  have := hK v w' hR
  simpa [go_sem] using this
set_option maxRecDepth 20000 in
theorem ystep_enc (w : World) {ops : Array Oper} {o : Oper} {a : Act} {K : Act → World → Prop} {Q : Exit → Act → World → Prop} {E : Prop} (hw : Region.wanted o (yielded ops a.tmps) = true) (x0 : Nat) (ty0 : TypeId)
    (ho : o.op = .call { callee := .value (.func 89), args := #[.tmp x0], argTypes := #[ty0] }) (vx0 : Value) (hx0 : a.tmps[x0]?.getD undef = vx0) (R : Value → World → Prop)
    (hc : Calls Tryz.prog 89 #[vx0] w fun e w' => ∃ v, e = .returned v ∧ R v w') (hK : ∀ v w', R v w' → K (a.put o.dst v) w') :
    if Region.wanted o (yielded ops a.tmps) = true then Oper.wp Tryz.prog o a w K Q else E := by
  rw [if_pos hw]
  unfold Oper.wp execOp
  simp [ho, resolve, invoke, go_sem, hx0]
  refine hc.mono ?_
  rintro e w' ⟨v, rfl, hR⟩
  have := hK v w' hR
  simpa [go_sem] using this
set_option maxRecDepth 20000 in
theorem ystep_japp (w : World) {ops : Array Oper} {o : Oper} {a : Act} {K : Act → World → Prop} {Q : Exit → Act → World → Prop} {E : Prop} (hw : Region.wanted o (yielded ops a.tmps) = true) (x0 x1 : Nat) (ty0 ty1 : TypeId)
    (ho : o.op = .call { callee := .value (.func 88), args := #[.tmp x0, .tmp x1], argTypes := #[ty0, ty1] }) (vx0 vx1 : Value) (hx0 : a.tmps[x0]?.getD undef = vx0) (hx1 : a.tmps[x1]?.getD undef = vx1) (R : Value → World → Prop)
    (hc : Calls Tryz.prog 88 #[vx0, vx1] w fun e w' => ∃ v, e = .returned v ∧ R v w') (hK : ∀ v w', R v w' → K (a.put o.dst v) w') :
    if Region.wanted o (yielded ops a.tmps) = true then Oper.wp Tryz.prog o a w K Q else E := by
  rw [if_pos hw]
  unfold Oper.wp execOp
  simp [ho, resolve, invoke, go_sem, hx0, hx1]
  refine hc.mono ?_
  rintro e w' ⟨v, rfl, hR⟩
  have := hK v w' hR
  simpa [go_sem] using this
theorem vstep_appI (w : World) {ops : Array Oper} {o : Oper} {a : Act} {K : Act → World → Prop} {Q : Exit → Act → World → Prop} {E : Prop} (hgd : o.guard = none) (s x : Operand)
    (ho : o.op = .call { callee := .builtin .append, args := #[s, x], argTypes := #[73, 73] }) (base n : Nat) (hbase : base ≤ w.heap.size)
    (v : Value) (k : List Nat) (hs : a.eval s = v) (hown : w.ownsRow base 3 1 v n (k.map nV)) (ad : Option Addr) (m c : Nat) (l : List Nat) (hx : a.eval x = .slice ad m c) (hb : NsV w ad m l) (hnil : ad = none → m = 0 ∧ c = 0) (hm : (n + m) * 8 ≤ 140737488355328)
    (hK : ∀ ad' c' w', w'.ownsRow base 3 1 (.slice ad' (n + m) c') (n + m) ((k ++ l).map nV) → w.grownBy w' v.ownBlock → K (a.put o.dst (.slice ad' (n + m) c')) w') :
    if Region.wanted o (yielded ops a.tmps) = true then Oper.wp Tryz.prog o a w K Q else E := by
  have hw : Region.wanted o (yielded ops a.tmps) = true := by simp [Region.wanted, hgd]
  rw [if_pos hw]
  obtain ⟨i0, hi, hz0, hz1, hz2⟩ := info_parts infoI2
  cases ad with
  | none =>
    obtain ⟨rfl, rfl⟩ := hnil rfl
    have hl : l = [] := List.eq_nil_of_length_eq_zero hb.1
    subst hl
    obtain ⟨ad', c', rfl, hc', _⟩ := nrow_shape hown
    have hr := run_append_owned_none (P := Tryz.prog) (w := w) base 73 o.type 3 i0 1 Tryz.underlying73 hi _ n _ hown
    unfold Oper.wp execOp
    simp only [ho, resolve, invoke, builtin, Sem.run_bind, Sem.run_pure, Result.andThen_ok, List.map_toArray, List.map_cons, List.map_nil, hs, hx, hr]
    exact hK ad' c' w (by simpa using hown) ⟨rfl, rfl, rfl, Nat.le_refl _, fun _ _ _ => rfl⟩
  | some ad =>
    obtain ⟨v', w', hr, h2, h3, h4, h5⟩ := run_append_own_at (P := Tryz.prog) w base 73 o.type 3 i0 _ 1 8 Tryz.underlying73 hi hz0 hz1 hz2 rfl (by omega) v n _ hown ad m c (l.map nV) (by rw [List.length_map, hb.1]; omega) (fun j u hj => by
      have hl := hb.1
      have hjl : j < l.length := by have := (List.getElem?_eq_some_iff.1 hj).1; rwa [List.length_map] at this
      obtain ⟨b, off, e, hc⟩ := hb.2 (by omega)
      cases e
      rw [List.getElem?_map] at hj
      cases hlj : l[j]? with
      | none => rw [hlj] at hj; cases hj
      | some y =>
        rw [hlj] at hj
        cases hj
        rw [Addr.add_lit]
        exact hc j y hlj) (fun u hu => by
      obtain ⟨y, _, rfl⟩ := List.mem_map.1 hu
      rfl) (by unfold maxLen; omega) hm hbase
    obtain ⟨ad', c', rfl, hc', _⟩ := nrow_shape h2
    unfold Oper.wp execOp
    simp only [ho, resolve, invoke, builtin, Sem.run_bind, Sem.run_pure, Result.andThen_ok, List.map_toArray, List.map_cons, List.map_nil, hs, hx, hr]
    exact hK ad' c' w' (by rw [List.map_append]; exact h2) h3
theorem make_good {d : List Pr} {w w' : World} {v : Value} {er : Int} (h : MakeE d w v er w') (hg : GoodV d) : er = 0 ∧ ∃ ad cp, v = .slice ad (runB d).length cp ∧ w'.ownsRow w.heap.size 5 1 (.slice ad (runB d).length cp) (runB d).length (cellsOf (runB d)) := by
  have hr := (risF_iff d 0).1 hg.ris
  rcases h with ⟨⟨p, hp, h0⟩, _⟩ | ⟨_, hn, _⟩ | ⟨d', ad, cp, hg', hp, _, ho, rfl, rfl, hown⟩
  · have := hr.2 p hp
    omega
  · exact absurd hr.1.once hn
  · have hr' := ((risF_iff d' 0).1 hg'.ris).1
    have e : d' = d := ris_ext d' d hr' hr.1 fun x => look_perm hr'.once hp x
    subst e
    exact ⟨rfl, ad, cp, rfl, hown⟩
/-- what is written: the new pairs, or all, if four runs count -/
def layN (g : Me) (news : List Pr) : List Pr := if g.runs.length = 4 then mergeM g.ps news else news
/-- the runs that count behind it -/
def layR (g : Me) : List Nat := (g.top + 1) :: (if g.runs.length = 4 then [] else g.runs)
/-- those that count no more -/
def layO (g : Me) : List Nat := if g.runs.length = 4 then g.runs else []
def layG (g : Me) (news : List Pr) : Me := { g with runs := layR g, top := g.top + 1, ps := mergeM g.ps news }
/-- the disk behind the run's file -/
def layS1 (g : Me) (news : List Pr) (S : DG) : DG × Int := S.app (nmB g.key (g.top + 1)) (runB (layN g news))
/-- the disk behind the record -/
def layS2 (g : Me) (news : List Pr) (S : DG) : DG × Int := (layS1 g news S).1.app (nmB g.key 0) (recB (encR (layR g)))
/-- what became of a memo -/
def LayR (g : Me) (news : List Pr) (rs : List (List UInt8)) (sz : Nat) (S : DG) (er : Int) (g' : Me) (rs' : List (List UInt8)) (sz' : Nat) (jc' : Bool) (S' : DG) : Prop :=
  ((layS1 g news S).2 ≠ 0 ∧ er = (layS1 g news S).2 ∧ g' = g ∧ rs' = rs ∧ sz' = sz ∧ jc' = false ∧ S' = (layS1 g news S).1) ∨
  ((layS1 g news S).2 = 0 ∧ (layS2 g news S).2 ≠ 0 ∧ er = (layS2 g news S).2 ∧ g' = g ∧ rs' = rs ∧ sz' = sz ∧ jc' = decide ((layS2 g news S).2 = 6) ∧ S' = (layS2 g news S).1) ∨
  ((layS1 g news S).2 = 0 ∧ (layS2 g news S).2 = 0 ∧ ∃ l', l'.Perm (layO g) ∧ (l'.Pairwise fun p q => p ≤ q) ∧ er = (remS g.key (layS2 g news S).1 l').2 ∧ g' = layG g news ∧ rs' = rs ++ [encR (layR g)] ∧ sz' = sz + (recB (encR (layR g))).length ∧ jc' = false ∧ S' = (remS g.key (layS2 g news S).1 l').1)
/-- what lay answers -/
def LayA (Q : Nat → Prop) (w : World) (m d j : Nat) (g : Me) (news : List Pr) (rs : List (List UInt8)) (sz : Nat) (S : DG) (e : Ending) (w' : World) : Prop :=
  Turn Q w w' ∧ ∃ er g' rs' sz' jc' S', e = .returned (.int .i64 er) ∧ LayR g news rs sz S er g' rs' sz' jc' S' ∧ MS (grow Q w w') w' m d j g' rs' sz' jc' S'

set_option maxRecDepth 100000 in
set_option maxHeartbeats 8000000 in
theorem lay_any (Q : Nat → Prop) (w : World) (m d j : Nat) (g : Me) (rs : List (List UInt8)) (sz : Nat) (S : DG) (h : MS Q w m d j g rs sz false S) (hQ : ∀ k, Q k → k < w.heap.size)
    (a : Option Addr) (n c : Nat) (news : List Pr) (hp : PrV w a n c news) (hr : Ris news) (hok : PrOk news) (h0 : ∀ p ∈ news, p.1 ≠ 0) (hps0 : ∀ p ∈ g.ps, p.1 ≠ 0) (hdj : ∀ p ∈ news, lookP g.ps p.1 = none) (hn : g.ps.length + n ≤ 65536)
    (hkey : g.key < 18446744073709551616) (htop : g.top + 1 < 100) (hruns : ∀ x ∈ g.runs, x < 100) (hrl : g.runs.length ≤ 4)
    (hbs : (S.bs (nmB g.key (g.top + 1))).length ≤ 4194304) (hSn : S.n ≤ 256) (hSw : S.wr < 4000000000000000000)
    (hS1 : (layS1 g news S).2 = 0 → ((layS1 g news S).1.bs (nmB g.key 0)).length ≤ 4194304 ∧ sz ≤ ((layS1 g news S).1.bs (nmB g.key 0)).length ∧ (layS1 g news S).1.n ≤ 256 ∧ (layS1 g news S).1.wr < 4000000000000000000)
    (hS2 : (layS2 g news S).2 = 0 → (layS2 g news S).1.wr < 4000000000000000000) :
    Calls Tryz.prog 43 #[.pointer (some ⟨m, 0, none⟩), .slice a n c] w (LayA Q w m d j g news rs sz S) := by
  have hmx : Tryz.prog.follows .mixedOrders = true := by kernel_rfl
  obtain ⟨vr, pa, pc, FM, FJ, G, hM, hJ, hD, hdis, hdis2, hsub⟩ := h
  obtain ⟨ra, rc, rfl, hrc, hrn⟩ := nrow_shape hM.row
  obtain ⟨c0, c1, c2, c3, c4, c5, c6⟩ := hM.cells
  have hjo := yjoin_any w pa a g.ps.length pc n c g.ps news hM.prs hp hM.ris (by have := hM.small; omega) (by omega)
  have HH : Hid (MeAt w m d j g (.slice ra g.runs.length rc) pa pc FM ∧ JAt w j d (nm0 g.key) rs sz false FJ ∧ IsDisk w d S G ∧ (∀ k, FM k → ¬ FJ k ∧ ¬ G k) ∧ (∀ k, FJ k → ¬ G k) ∧ (∀ k, (FM k ∨ FJ k ∨ G k) → Q k) ∧ PrV w a n c news) := ⟨hM, hJ, hD, hdis, hdis2, hsub, hp⟩
  have HW : Hid (GoodV (layN g news) ∧ (layN g news).length ≤ 65536) := by
    have hl := mergeM_len g.ps news
    have hnl := hp.prs.1
    have hlen : (layN g news).length ≤ 65536 := by
      unfold layN
      split <;> omega
    refine ⟨?_, hlen⟩
    unfold layN at hlen ⊢
    split
    · rename_i h4
      rw [if_pos h4] at hlen
      exact ris_good (mergeM_ris _ _ hM.ris hr hdj) (mergeM_ok hM.ok hok) (fun p hp => ((mergeM_mem _ _ p).1 hp).elim (hps0 p) (h0 p)) hlen
    · rename_i h4
      rw [if_neg h4] at hlen
      exact ris_good hr hok h0 hlen
  have HC : Hid (∀ Y, Below w.heap.size w Y → Y.cell? ⟨m, 0, none⟩ = some (.pointer (some ⟨d, 0, none⟩)) ∧ Y.cell? ⟨m, 1, none⟩ = some (.int .u64 (g.key : Int)) ∧ Y.cell? ⟨m, 2, none⟩ = some (.pointer (some ⟨j, 0, none⟩)) ∧ Y.cell? ⟨m, 3, none⟩ = some (.slice ra g.runs.length rc) ∧ Y.cell? ⟨m, 4, none⟩ = some (.int .i64 (g.top : Int))) := fun Y hY => by
    obtain ⟨q0, q1, q2, q3, q4, _⟩ := (hM.below hY).cells
    exact ⟨q0, q1, q2, q3, q4⟩
  clear hM hJ hD hdis hdis2 hsub hp c0 c1 c2 c4 c6 c3
  go_enter Tryz.func43, Tryz.ntmps43
  go_upto_region 2 with (go_at_call 81; refine hjo.mono ?_; clear hjo; rintro e w1 ⟨ja, jc, rfl, hown, hB1⟩)
  have H1 : Hid (w1.ownsRow w.heap.size 39 2 (.slice ja (g.ps.length + n) jc) (g.ps.length + n) (prCells (mergeM g.ps news)) ∧ Below w.heap.size w w1) := ⟨hown, hB1⟩
  obtain ⟨_, _, _, q3, _⟩ := HC.out w1 hB1
  clear hown hB1
  go_quiet (fail)
  clear q3
  have H2 : Hid ((w1.drewN nq).ownsRow w.heap.size 39 2 (.slice ja (g.ps.length + n) jc) (g.ps.length + n) (prCells (mergeM g.ps news)) ∧ Below w.heap.size w (w1.drewN nq)) := ⟨row_movedV H1.out.1 (fun r _ => rfl), vbelow_drewN H1.out.2 nq⟩
  clear H1
  generalize w1.drewN nq = w2 at *
  go_upto_if 28 with fail
  go_cut [6, 7] from 29 to 97 (fun v6 v7 wx => ∃ (wa : Option Addr) (wn wc st : Nat), v6 = .slice wa wn wc ∧ v7 = .int .i64 (st : Int) ∧ st = (if g.runs.length = 4 then 0 else g.runs.length) ∧ Hid (wx = w2 ∧ PrV w2 wa wn wc (layN g news)))
  case first =>
    by_cases h4 : g.runs.length = 4
    · have i1 : ((g.runs.length : Int) == 4) = true := by simp [h4]
      have HZ : Hid (PrV w2 ja (g.ps.length + n) jc (layN g news)) := by
        obtain ⟨ad', c', e', hpv, _⟩ := own_prv H2.out.1
        cases e'
        unfold layN
        rw [if_pos h4]
        exact hpv
      go_wp2
      go_meet
      exact ⟨ja, g.ps.length + n, jc, 0, by simp, rfl, by rw [if_pos h4], rfl, HZ.out⟩
    · have i1 : ((g.runs.length : Int) == 4) = false := by simp; omega
      have HZ : Hid (PrV w2 a n c (layN g news)) := by
        unfold layN
        rw [if_neg h4]
        exact HH.out.2.2.2.2.2.2.kept H2.out.2
      go_wp2
      go_meet
      exact ⟨a, n, c, g.runs.length, rfl, rfl, by rw [if_neg h4], rfl, HZ.out⟩
  case rest =>
    obtain ⟨wa, wn, wc', st, rfl, rfl, hst, HL0⟩ := hcut
    have HL : Hid (PrV w2 wa wn wc' (layN g news) ∧ st = (if g.runs.length = 4 then 0 else g.runs.length)) := ⟨HL0.out.2, hst⟩
    have hwc := HL0.out.1
    subst hwc
    clear HL0 hst
    obtain ⟨_, _, _, _, q4⟩ := HC.out wc H2.out.2
    have hmk := make_any wc wa wn wc' (layN g news) HL.out.1.prs HW.out.1.ok HL.out.1.nil (by have := HW.out.2; have := HL.out.1.prs.1; omega)
    go_upto_region 9 with (go_at_call 35; refine hmk.mono ?_; clear hmk; rintro e w4 ⟨v4, er4, rfl, hE4, hB4⟩; obtain ⟨rfl, ba, bc, rfl, hown4⟩ := make_good hE4 HW.out.1)
    have hgt : ((g.top : Int) + 1) = ((g.top + 1 : Nat) : Int) := by omega
    rw [hgt]
    obtain ⟨hby4, hbn4, hbc4⟩ := own_slice hown4
    obtain ⟨BL, hBL⟩ : ∃ BL, BL = (runB (layN g news)).length := ⟨_, rfl⟩
    have hBLn : BL ≤ 2000000 := by
      rw [hBL, runB_len]
      have := short_len (layN g news).length
      have := HW.out.2
      omega
    rw [← hBL] at hby4 hbn4 hbc4 ⊢
    have hbl : ∀ x, ba = some x → 0 < BL → w.heap.size ≤ x.block ∧ x.block < w4.heap.size := fun x e h0 => by
      obtain ⟨b, o, e2, hc⟩ := hby4.2 h0
      rw [e] at e2
      cases e2
      refine ⟨?_, World.block_lt_of_cell? w4 _ (hc 0 h0)⟩
      rcases hown4.2 with ⟨_, hz⟩ | ⟨g', cap, cur, e3, hg', _⟩
      · omega
      · rw [e] at e3
        cases e3
        exact Nat.le_trans H2.out.2.size hg'
    have hB4w : Below w.heap.size w w4 := H2.out.2.trans (hB4.mono H2.out.2.size)
    have HR4 : Hid (Bytes w4 ba BL (runB (layN g news)) ∧ (ba = none → BL = 0 ∧ bc = 0) ∧ BL ≤ bc ∧ (∀ x, ba = some x → 0 < BL → w.heap.size ≤ x.block ∧ x.block < w4.heap.size) ∧ Below w.heap.size w w4 ∧ w4.ownsRow w.heap.size 39 2 (.slice ja (g.ps.length + n) jc) (g.ps.length + n) (prCells (mergeM g.ps news))) := ⟨hby4, hbn4, hbc4, hbl, hB4w, row_keptV H2.out.1 hB4⟩
    have HQ4 : Hid (∀ k, (FM k ∨ FJ k ∨ G k) → k < w.heap.size) := fun k hk => hQ k (HH.out.2.2.2.2.2.1 k hk)
    have hst : st = (if g.runs.length = 4 then 0 else g.runs.length) := HL.out.2
    clear hby4 hbn4 hbc4 hbl hB4w hown4 hE4 hB4 hBL H2 HL q4 hgt
    have hBd : Below w.heap.size w w4.drew := ⟨HR4.out.2.2.2.2.1.os, HR4.out.2.2.2.2.1.tape, HR4.out.2.2.2.2.1.output, HR4.out.2.2.2.2.1.size, HR4.out.2.2.2.2.1.block⟩
    have HX : Hid (∀ Y, Below w4.heap.size w4 Y → Y.cell? ⟨m, 0, none⟩ = some (.pointer (some ⟨d, 0, none⟩)) ∧ Y.cell? ⟨m, 1, none⟩ = some (.int .u64 (g.key : Int))) := fun Y hY => by
      obtain ⟨q0, q1, _⟩ := HC.out Y (HR4.out.2.2.2.2.1.trans (hY.mono HR4.out.2.2.2.2.1.size))
      exact ⟨q0, q1⟩
    have hBe : Below w4.heap.size w4 w4.drew := ⟨rfl, rfl, rfl, Nat.le_refl _, fun _ _ => rfl⟩
    refine wp_region_G (S := SB 1000 (fun _ => True) (fun Y => Y.cell? ⟨m, 0, none⟩ = some (.pointer (some ⟨d, 0, none⟩)) ∧ Y.cell? ⟨m, 1, none⟩ = some (.int .u64 (g.key : Int)))) hmx ?_
    have hSB : SB 1000 (fun _ => True) (fun Y => Y.cell? ⟨m, 0, none⟩ = some (.pointer (some ⟨d, 0, none⟩)) ∧ Y.cell? ⟨m, 1, none⟩ = some (.int .u64 (g.key : Int))) (Array.replicate 13 false) w4.drew := SB.on trivial (HX.out _ hBe)
    refine wpAnyG_takeP (i := 0) (v := ?_) rfl (by kernel_rfl) (by kernel_rfl) (by kernel_rfl) (fun _ _ _ h => h) rfl (Or.inl ⟨by rfl, ?_⟩) (by assumption) ?_
    rotate_left
    · intro Y _; go_simp; try with_reducible rfl
    intro hSB0
    try simp only [Act.put, List.getElem_toArray, List.getElem_cons_zero, List.setIfInBounds_toArray, List.set_cons_zero, List.set_cons_succ]
    refine wpAnyG_takeP (i := 1) (v := ?_) rfl (by kernel_rfl) (by kernel_rfl) (by kernel_rfl) (fun _ _ _ h => h) rfl (Or.inl ⟨by rfl, ?_⟩) (by assumption) ?_
    rotate_left
    · intro Y _; go_simp; try with_reducible rfl
    intro hSB1
    try simp only [Act.put, List.getElem_toArray, List.getElem_cons_zero, List.getElem_cons_succ, List.setIfInBounds_toArray, List.set_cons_zero, List.set_cons_succ]
    refine wpAnyG_takeP (i := 2) (v := ?_) rfl (by kernel_rfl) (by kernel_rfl) (by kernel_rfl) (fun _ _ _ h => h) rfl (Or.inl ⟨by rfl, ?_⟩) (by assumption) ?_
    rotate_left
    · intro Y _; go_simp; try with_reducible rfl
    intro hSB2
    try simp only [Act.put, List.getElem_toArray, List.getElem_cons_zero, List.getElem_cons_succ, List.setIfInBounds_toArray, List.set_cons_zero, List.set_cons_succ]
    refine wpAnyG_takeP (i := 3) (v := ?_) rfl (by kernel_rfl) (by kernel_rfl) (by kernel_rfl) (fun _ _ _ h => h) rfl (Or.inl ⟨by rfl, ?_⟩) (by assumption) ?_
    rotate_left
    · intro Y hY; obtain ⟨y1, y2⟩ := hY; go_simp; try with_reducible rfl
    intro hSB3
    try simp only [Act.put, List.getElem_toArray, List.getElem_cons_zero, List.getElem_cons_succ, List.setIfInBounds_toArray, List.set_cons_zero, List.set_cons_succ]
    refine wpAnyG_takeP (i := 4) (v := ?_) rfl (by kernel_rfl) (by kernel_rfl) (by kernel_rfl) (fun _ _ _ h => h) rfl (Or.inl ⟨by rfl, ?_⟩) (by assumption) ?_
    rotate_left
    · intro Y _; go_simp; try with_reducible rfl
    intro hSB4
    try simp only [Act.put, List.getElem_toArray, List.getElem_cons_zero, List.getElem_cons_succ, List.setIfInBounds_toArray, List.set_cons_zero, List.set_cons_succ]
    refine wpAnyG_takeP (i := 5) (v := ?_) rfl (by kernel_rfl) (by kernel_rfl) (by kernel_rfl) (fun _ _ _ h => h) rfl (Or.inl ⟨by rfl, ?_⟩) (by assumption) ?_
    rotate_left
    · intro Y _; go_simp; try with_reducible rfl
    intro hSB5
    try simp only [Act.put, List.getElem_toArray, List.getElem_cons_zero, List.getElem_cons_succ, List.setIfInBounds_toArray, List.set_cons_zero, List.set_cons_succ]
    refine wpAnyG_takeP (i := 6) (v := ?_) rfl (by kernel_rfl) (by kernel_rfl) (by kernel_rfl) (fun _ _ _ h => h) rfl (Or.inl ⟨by rfl, ?_⟩) (by assumption) ?_
    rotate_left
    · intro Y _; go_simp; try with_reducible rfl
    intro hSB6
    try simp only [Act.put, List.getElem_toArray, List.getElem_cons_zero, List.getElem_cons_succ, List.setIfInBounds_toArray, List.set_cons_zero, List.set_cons_succ]
    refine wpAnyG_takeP (i := 7) (v := ?_) rfl (by kernel_rfl) (by kernel_rfl) (by kernel_rfl) (fun _ _ _ h => h) rfl (Or.inl ⟨by rfl, ?_⟩) (by assumption) ?_
    rotate_left
    · intro Y hY; obtain ⟨y1, y2⟩ := hY; go_simp; try with_reducible rfl
    intro hSB7
    try simp only [Act.put, List.getElem_toArray, List.getElem_cons_zero, List.getElem_cons_succ, List.setIfInBounds_toArray, List.set_cons_zero, List.set_cons_succ]
    refine wpAnyG_takeP (i := 8) (v := ?_) rfl (by kernel_rfl) (by kernel_rfl) (by kernel_rfl) (fun _ _ _ h => h) rfl (Or.inl ⟨by rfl, ?_⟩) (by assumption) ?_
    rotate_left
    · intro Y _; go_simp; try with_reducible rfl
    intro hSB8
    try simp only [Act.put, List.getElem_toArray, List.getElem_cons_zero, List.getElem_cons_succ, List.setIfInBounds_toArray, List.set_cons_zero, List.set_cons_succ]
    refine wpAnyG_takeP (i := 10) (v := ?_) rfl (by kernel_rfl) (by kernel_rfl) (by kernel_rfl) (fun _ _ _ h => h) rfl (Or.inl ⟨by rfl, ?_⟩) (by assumption) ?_
    rotate_left
    · intro Y _; go_simp; try with_reducible rfl
    intro hSB10
    try simp only [Act.put, List.getElem_toArray, List.getElem_cons_zero, List.getElem_cons_succ, List.setIfInBounds_toArray, List.set_cons_zero, List.set_cons_succ]
    refine wpAnyG_one (i := 9) (by kernel_rfl) rfl (fun K hK => ?_)
    refine ystep_name _ (by rfl) _ _ _ _ (by rfl) _ _ (by rfl) (by rfl) (fun v W => v = .string ⟨(nmB g.key (g.top + 1)).toArray⟩ ∧ Below w4.heap.size w4 W) ((fileName_any g.key (g.top + 1) w4.drew hkey htop).mono (fun e w' h => ⟨_, h.1, rfl, hBe.trans h.2⟩)) ?_
    rintro v w7 ⟨rfl, hB7⟩
    refine hK.out _ _ (SB.on trivial (HX.out _ hB7)) (fun hSB9 => ?_)
    clear hK K
    try simp only [Act.put, List.getElem_toArray, List.getElem_cons_zero, List.getElem_cons_succ, List.setIfInBounds_toArray, List.set_cons_zero, List.set_cons_succ]
    have hd7 : IsDisk w7 d S G := HH.out.2.2.1.below (HR4.out.2.2.2.2.1.trans (hB7.mono HR4.out.2.2.2.2.1.size))
    have hap := append_any d S G w7 ⟨(nmB g.key (g.top + 1)).toArray⟩ ba BL bc (runB (layN g news)) hd7 (by have := nm_len g.key (g.top + 1) htop; unfold maxLen; omega) (vbytes_below HR4.out.1 hB7) HR4.out.2.2.1 HR4.out.2.1 (fun h0 x e => ⟨fun hg => by have := HQ4.out _ (.inr (.inr hg)); have := (HR4.out.2.2.2.1 x e h0).1; omega, by have := (HR4.out.2.2.2.1 x e h0).2; have := hB7.size; omega⟩) (by rw [nm_list]; exact hbs) hSn hSw (by omega)
    rw [nm_list] at hap
    refine wpAnyG_one (i := 11) (by kernel_rfl) rfl (fun K hK => ?_)
    refine ystep_app _ (by rfl) _ _ _ _ _ _ (by rfl) _ _ _ (by rfl) (by rfl) (by rfl) (fun v W => ∃ er : Int, v = .int .i64 er ∧ Hid (er = (layS1 g news S).2) ∧ IsDisk W d (layS1 g news S).1 (grow G w7 W) ∧ Turn G w7 W) (hap.mono (fun e w' h => ⟨_, h.1, _, rfl, rfl, h.2.1, h.2.2⟩)) ?_
    rintro v w8 ⟨er9, rfl, hv, hd8, hT8⟩
    have hm8 : w8.cell? ⟨m, 0, none⟩ = some (.pointer (some ⟨d, 0, none⟩)) ∧ w8.cell? ⟨m, 1, none⟩ = some (.int .u64 (g.key : Int)) := ⟨hT8.cell (HX.out _ hB7).1 (HH.out.2.2.2.1 m HH.out.1.fm).2, hT8.cell (HX.out _ hB7).2 (HH.out.2.2.2.1 m HH.out.1.fm).2⟩
    refine hK.out _ _ (SB.on trivial hm8) (fun hSB11 => ?_)
    clear hK K
    try simp only [Act.put, List.getElem_toArray, List.getElem_cons_zero, List.getElem_cons_succ, List.setIfInBounds_toArray, List.set_cons_zero, List.set_cons_succ]
    refine wpAnyG_takeP (i := 12) (v := ?_) rfl (by kernel_rfl) (by kernel_rfl) (by kernel_rfl) (fun _ _ _ h => h) rfl (Or.inl ⟨by rfl, ?_⟩) (by assumption) ?_
    rotate_left
    · intro Y _; go_simp; try with_reducible rfl
    intro hSB12
    try simp only [Act.put, List.getElem_toArray, List.getElem_cons_zero, List.getElem_cons_succ, List.setIfInBounds_toArray, List.set_cons_zero, List.set_cons_succ]
    refine wpAnyG_done (by kernel_rfl) ?_ _
    clear hSB hSB0 hSB1 hSB2 hSB3 hSB4 hSB5 hSB6 hSB7 hSB8 hSB9 hSB10 hSB11 hSB12
    have HA9 : Hid (er9 = (layS1 g news S).2 ∧ IsDisk w8 d (layS1 g news S).1 (grow G w4 w8) ∧ Turn G w4 w8) := by
      have hs7 := hB7.size
      have hs8 := hT8.size
      refine ⟨hv.out, hd8.wide (fun k hk => hk.imp id (fun h => by omega)) (fun k hk => ?_), (Turn.of_below G hB7).trans hT8 (fun _ _ e => e)⟩
      rcases hk with hk | hk
      · have := HQ4.out k (.inr (.inr hk)); have := HR4.out.2.2.2.2.1.size; omega
      · omega
    clear hv hd8 hT8 hm8 hd7 hap hB7 HX
    obtain ⟨hv9, hD9, hT9⟩ := HA9.out
    by_cases he9 : er9 = 0
    · subst he9
      have hT8 : Turn G w w8 := (Turn.of_below G HR4.out.2.2.2.2.1).trans hT9 (fun _ _ e => e)
      have hJ8 : JAt w8 j d (nm0 g.key) rs sz false FJ := HH.out.2.1.kept hT8.size (fun k hk => hT8.block k (HH.out.2.1.lt k hk) (HH.out.2.2.2.2.1 k hk))
      have hM8 : MeAt w8 m d j g (.slice ra g.runs.length rc) pa pc FM := HH.out.1.turn hT8 (fun k hk => (HH.out.2.2.2.1 k hk).2)
      have hs4 := HR4.out.2.2.2.2.1.size
      have hs8 := hT9.size
      have hrow8 : w8.ownsRow w.heap.size 39 2 (.slice ja (g.ps.length + n) jc) (g.ps.length + n) (prCells (mergeM g.ps news)) := row_movedV HR4.out.2.2.2.2.2 (fun r hr => by
        have := row_blockV HR4.out.2.2.2.2.2 r hr
        exact hT9.block r this.2.1 (fun hg => by have := HQ4.out r (.inr (.inr hg)); omega))
      have H8 : Hid ((layS1 g news S).2 = 0 ∧ Turn G w w8 ∧ IsDisk w8 d (layS1 g news S).1 (grow G w4 w8) ∧ JAt w8 j d (nm0 g.key) rs sz false FJ ∧ MeAt w8 m d j g (.slice ra g.runs.length rc) pa pc FM ∧ w8.ownsRow w.heap.size 39 2 (.slice ja (g.ps.length + n) jc) (g.ps.length + n) (prCells (mergeM g.ps news)) ∧ (∀ r, (Value.slice ja (g.ps.length + n) jc).ownBlock = some r → w.heap.size ≤ r ∧ r < w4.heap.size)) := ⟨hv9.symm, hT8, hD9, hJ8, hM8, hrow8, fun r hr => by have z := row_blockV HR4.out.2.2.2.2.2 r hr; exact ⟨z.1, z.2.1⟩⟩
      have hC8 : ∀ Y, Below w8.heap.size w8 Y → Y.cell? ⟨m, 3, none⟩ = some (.slice ra g.runs.length rc) := fun Y hY => (hM8.below hY).cells.2.2.2.1
      have hml : m < w8.heap.size := hM8.mlt
      clear HA9 hv9 hD9 hT9 hT8 hJ8 hM8 hrow8 HR4 hBd
      go_upto_region 12 with fail
      have hNs : ∀ Y, Below w8.heap.size w8 Y → NsV Y ra g.runs.length g.runs := fun Y hY => (nrow_ns H8.out.2.2.2.2.1.row).below hY
      have hnr := (nrow_shape H8.out.2.2.2.2.1.row)
      have hrr : (ra = none → g.runs.length = 0 ∧ rc = 0) ∧ g.runs.length ≤ rc ∧ ∀ x, ra = some x → x.spot = none ∧ x.off = 0 ∧ FM x.block ∧ x.block ≠ m ∧ x.block < w8.heap.size ∧ ∀ i, w8.frozen? ⟨x.block, i, none⟩ = false := by
        obtain ⟨ad', c', e', h1, h2⟩ := hnr
        cases e'
        refine ⟨h2, h1, fun x e => ?_⟩
        subst e
        rcases H8.out.2.2.2.2.1.row.2 with ⟨e, _⟩ | ⟨g', cap, cur, e, _, hg', _⟩
        · cases e
        · cases e
          have hf := H8.out.2.2.2.2.1.fr g' rfl
          exact ⟨rfl, rfl, hf.1, hf.2, (Array.getElem?_eq_some_iff.1 hg').1, fun i => by simp [World.frozen?, hg']⟩
      have HRR : Hid ((ra = none → g.runs.length = 0 ∧ rc = 0) ∧ g.runs.length ≤ rc ∧ ∀ x, ra = some x → x.spot = none ∧ x.off = 0 ∧ FM x.block ∧ x.block ≠ m ∧ x.block < w8.heap.size ∧ ∀ i, w8.frozen? ⟨x.block, i, none⟩ = false) := hrr
      have hrc' := hrr.2.1
      clear hnr hrr
      go_cut [12, 13] from 29 to 97 (fun v12 v13 wx => ∃ (na : Option Addr) (rn nc : Nat) (ga : Option Addr) (gn gc : Nat), v12 = .slice na rn nc ∧ v13 = .slice ga gn gc ∧ Hid (Below w8.heap.size w8 wx ∧ rn = (layR g).length ∧ wx.ownsRow w8.heap.size 3 1 (.slice na rn nc) rn ((layR g).map nV) ∧ NsV wx ga gn (layO g) ∧ (ga = none → gn = 0) ∧ ∀ x, ga = some x → x.spot = none ∧ FM x.block ∧ x.block ≠ m ∧ x.block < w8.heap.size ∧ ∀ i, w8.frozen? ⟨x.block, i, none⟩ = false))
      case first =>
        by_cases h4 : g.runs.length = 4
        · rw [if_pos h4] at hst
          subst hst
          have HLr : Hid (layR g = [g.top + 1] ∧ layO g = g.runs) := ⟨by unfold layR; rw [if_pos h4], by unfold layO; rw [if_pos h4]⟩
          cases ra with
          | none => have := HRR.out.1 rfl; omega
          | some rx =>
            obtain ⟨xb, xo, xs⟩ := rx
            obtain ⟨h1, h2, _⟩ := HRR.out.2.2 _ rfl
            simp only at h1 h2
            subst h1
            subst h2
            have j1 : (0 : Int) ≤ (rc : Int) := by omega
            have j2 : (g.runs.length : Int) ≤ (rc : Int) := by omega
            clear h4
            refine wp_region_G (S := SB 1000 (fun _ => True) (fun Y => Y.cell? ⟨m, 3, none⟩ = some (.slice (some ⟨xb, 0, none⟩) g.runs.length rc))) hmx ?_
            have hSB : SB 1000 (fun _ => True) (fun Y => Y.cell? ⟨m, 3, none⟩ = some (.slice (some ⟨xb, 0, none⟩) g.runs.length rc)) (Array.replicate 17 false) w8.drew := SB.on trivial (hC8 _ ⟨rfl, rfl, rfl, Nat.le_refl _, fun _ _ => rfl⟩)
            refine wpAnyG_takeP (i := 0) (v := ?_) rfl (by kernel_rfl) (by kernel_rfl) (by kernel_rfl) (fun _ _ _ h => h) rfl (Or.inl ⟨by rfl, ?_⟩) (by assumption) ?_
            rotate_left
            · intro Y _; go_simp; try with_reducible rfl
            intro hSB0
            try simp only [Act.put, List.getElem_toArray, List.getElem_cons_zero, List.setIfInBounds_toArray, List.set_cons_zero, List.set_cons_succ]
            refine wpAnyG_takeP (i := 2) (v := ?_) rfl (by kernel_rfl) (by kernel_rfl) (by kernel_rfl) (fun _ _ _ h => h) rfl (Or.inl ⟨by rfl, ?_⟩) (by assumption) ?_
            rotate_left
            · intro Y _; go_simp; try with_reducible rfl
            intro hSB2
            try simp only [Act.put, List.getElem_toArray, List.getElem_cons_zero, List.getElem_cons_succ, List.setIfInBounds_toArray, List.set_cons_zero, List.set_cons_succ]
            refine wpAnyG_takeP (i := 3) (v := ?_) rfl (by kernel_rfl) (by kernel_rfl) (by kernel_rfl) (fun _ _ _ h => h) rfl (Or.inl ⟨by rfl, ?_⟩) (by assumption) ?_
            rotate_left
            · intro Y _; go_simp; try with_reducible rfl
            intro hSB3
            try simp only [Act.put, List.getElem_toArray, List.getElem_cons_zero, List.getElem_cons_succ, List.setIfInBounds_toArray, List.set_cons_zero, List.set_cons_succ]
            refine wpAnyG_takeP (i := 4) (v := ?_) rfl (by kernel_rfl) (by kernel_rfl) (by kernel_rfl) (fun _ _ _ h => h) rfl (Or.inl ⟨by rfl, ?_⟩) (by assumption) ?_
            rotate_left
            · intro Y _; go_simp; try with_reducible rfl
            intro hSB4
            try simp only [Act.put, List.getElem_toArray, List.getElem_cons_zero, List.getElem_cons_succ, List.setIfInBounds_toArray, List.set_cons_zero, List.set_cons_succ]
            refine wpAnyG_takeP (i := 5) (v := ?_) rfl (by kernel_rfl) (by kernel_rfl) (by kernel_rfl) (fun _ _ _ h => h) rfl (Or.inl ⟨by rfl, ?_⟩) (by assumption) ?_
            rotate_left
            · intro Y y1; go_simp; try with_reducible rfl
            intro hSB5
            try simp only [Act.put, List.getElem_toArray, List.getElem_cons_zero, List.getElem_cons_succ, List.setIfInBounds_toArray, List.set_cons_zero, List.set_cons_succ]
            refine wpAnyG_takeP (i := 6) (v := ?_) rfl (by kernel_rfl) (by kernel_rfl) (by kernel_rfl) (fun _ _ _ h => h) rfl (Or.inl ⟨by rfl, ?_⟩) (by assumption) ?_
            rotate_left
            · intro Y _; go_simp; try with_reducible rfl
            intro hSB6
            try simp only [Act.put, List.getElem_toArray, List.getElem_cons_zero, List.getElem_cons_succ, List.setIfInBounds_toArray, List.set_cons_zero, List.set_cons_succ]
            refine wpAnyG_takeP (i := 7) (v := ?_) rfl (by kernel_rfl) (by kernel_rfl) (by kernel_rfl) (fun _ _ _ h => h) rfl (Or.inl ⟨by rfl, ?_⟩) (by assumption) ?_
            rotate_left
            · intro Y _; go_simp; try with_reducible rfl
            intro hSB7
            try simp only [Act.put, List.getElem_toArray, List.getElem_cons_zero, List.getElem_cons_succ, List.setIfInBounds_toArray, List.set_cons_zero, List.set_cons_succ]
            refine wpAnyG_takeP (i := 9) (v := ?_) rfl (by kernel_rfl) (by kernel_rfl) (by kernel_rfl) (fun _ _ _ h => h) rfl (Or.inl ⟨by rfl, ?_⟩) (by assumption) ?_
            rotate_left
            · intro Y _; go_simp; try with_reducible rfl
            intro hSB9
            try simp only [Act.put, List.getElem_toArray, List.getElem_cons_zero, List.getElem_cons_succ, List.setIfInBounds_toArray, List.set_cons_zero, List.set_cons_succ]
            refine wpAnyG_takeP (i := 10) (v := ?_) rfl (by kernel_rfl) (by kernel_rfl) (by kernel_rfl) (fun _ _ _ h => h) rfl (Or.inl ⟨by rfl, ?_⟩) (by assumption) ?_
            rotate_left
            · intro Y _; go_simp; try with_reducible rfl
            intro hSB10
            try simp only [Act.put, List.getElem_toArray, List.getElem_cons_zero, List.getElem_cons_succ, List.setIfInBounds_toArray, List.set_cons_zero, List.set_cons_succ]
            refine wpAnyG_takeP (i := 11) (v := ?_) rfl (by kernel_rfl) (by kernel_rfl) (by kernel_rfl) (fun _ _ _ h => h) rfl (Or.inl ⟨by rfl, ?_⟩) (by assumption) ?_
            rotate_left
            · intro Y _; go_simp; try with_reducible rfl
            intro hSB11
            try simp only [Act.put, List.getElem_toArray, List.getElem_cons_zero, List.getElem_cons_succ, List.setIfInBounds_toArray, List.set_cons_zero, List.set_cons_succ]
            refine wpAnyG_takeP (i := 12) (v := ?_) rfl (by kernel_rfl) (by kernel_rfl) (by kernel_rfl) (fun _ _ _ h => h) rfl (Or.inl ⟨by rfl, ?_⟩) (by assumption) ?_
            rotate_left
            · intro Y y1; go_simp; try with_reducible rfl
            intro hSB12
            try simp only [Act.put, List.getElem_toArray, List.getElem_cons_zero, List.getElem_cons_succ, List.setIfInBounds_toArray, List.set_cons_zero, List.set_cons_succ]
            refine wpAnyG_takeP (i := 13) (v := ?_) rfl (by kernel_rfl) (by kernel_rfl) (by kernel_rfl) (fun _ _ _ h => h) rfl (Or.inl ⟨by rfl, ?_⟩) (by assumption) ?_
            rotate_left
            · intro Y _; go_simp; try with_reducible rfl
            intro hSB13
            try simp only [Act.put, List.getElem_toArray, List.getElem_cons_zero, List.getElem_cons_succ, List.setIfInBounds_toArray, List.set_cons_zero, List.set_cons_succ]
            refine wpAnyG_takeP (i := 14) (v := ?_) rfl (by kernel_rfl) (by kernel_rfl) (by kernel_rfl) (fun _ _ _ h => h) rfl (Or.inl ⟨by rfl, ?_⟩) (by assumption) ?_
            rotate_left
            · intro Y _; go_simp; try with_reducible rfl
            intro hSB14
            try simp only [Act.put, List.getElem_toArray, List.getElem_cons_zero, List.getElem_cons_succ, List.setIfInBounds_toArray, List.set_cons_zero, List.set_cons_succ]
            have hba : Below w8.heap.size w8 ((w8.drew).alloc (.cells #[nV (g.top + 1)] 3)) := (⟨rfl, rfl, rfl, Nat.le_refl _, fun _ _ => rfl⟩ : Below w8.heap.size w8 w8.drew).alloc (Nat.le_refl _) _
            refine wpAnyG_one (i := 1) (by kernel_rfl) rfl (fun K hK => ?_)
            go_simp
            refine hK.out _ _ (SB.on trivial (hC8 _ hba)) (fun hSB1 => ?_)
            clear hK K
            try simp only [Act.put, List.getElem_toArray, List.getElem_cons_zero, List.getElem_cons_succ, List.setIfInBounds_toArray, List.set_cons_zero, List.set_cons_succ]
            have hlit : ((w8.drew).alloc (.cells #[nV (g.top + 1)] 3)).ownsRow w8.heap.size 3 1 (.slice (some ⟨w8.heap.size, 0, none⟩) 1 1) 1 ([g.top + 1].map nV) := World.ownsRow_lit w8.drew #[nV (g.top + 1)] 1 (Nat.le_refl _) (by unfold maxLen; omega) rfl
            refine wpAnyG_one (i := 8) (by kernel_rfl) rfl (fun K hK => ?_)
            refine vstep_appI _ (by rfl) _ _ (by rfl) w8.heap.size 1 hba.size _ [g.top + 1] (by rfl) hlit _ 0 _ ([]) (by rfl) (⟨rfl, fun h => by omega⟩) (fun e => by cases e) (by omega) ?_
            intro ad6 c6 w6 hown6 hg6
            have hb6 : Below w8.heap.size w8 w6 := hba.grown hg6 (by simp) (fun k hk => by cases hk; exact Nat.le_refl _)
            refine hK.out _ _ (SB.on trivial (hC8 _ hb6)) (fun hSB8 => ?_)
            clear hK K
            try simp only [Act.put, List.getElem_toArray, List.getElem_cons_zero, List.getElem_cons_succ, List.setIfInBounds_toArray, List.set_cons_zero, List.set_cons_succ]
            refine wpAnyG_takeP (i := 15) (v := ?_) rfl (by kernel_rfl) (by kernel_rfl) (by kernel_rfl) (fun _ _ _ h => h) rfl (Or.inl ⟨by rfl, ?_⟩) (by assumption) ?_
            rotate_left
            · intro Y _; go_simp; try with_reducible rfl
            intro hSB15
            try simp only [Act.put, List.getElem_toArray, List.getElem_cons_zero, List.getElem_cons_succ, List.setIfInBounds_toArray, List.set_cons_zero, List.set_cons_succ]
            refine wpAnyG_takeP (i := 16) (v := ?_) rfl (by kernel_rfl) (by kernel_rfl) (by kernel_rfl) (fun _ _ _ h => h) rfl (Or.inl ⟨by rfl, ?_⟩) (by assumption) ?_
            rotate_left
            · intro Y _; go_simp; try with_reducible rfl
            intro hSB16
            try simp only [Act.put, List.getElem_toArray, List.getElem_cons_zero, List.getElem_cons_succ, List.setIfInBounds_toArray, List.set_cons_zero, List.set_cons_succ]
            refine wpAnyG_done (by kernel_rfl) ?_ _
            clear hSB hSB0 hSB1 hSB2 hSB3 hSB4 hSB5 hSB6 hSB7 hSB8 hSB9 hSB10 hSB11 hSB12 hSB13 hSB14 hSB15 hSB16
            have HZ : Hid (Below w8.heap.size w8 w6 ∧ w6.ownsRow w8.heap.size 3 1 (.slice ad6 (1 + 0) c6) (1 + 0) (([g.top + 1] ++ ([])).map nV)) := ⟨hb6, hown6⟩
            clear hba hlit hb6 hg6 hown6
            go_wp2
            go_meet
            exact ⟨ad6, 1, c6, (some ⟨xb, 0, none⟩), g.runs.length, rc, rfl, rfl, HZ.out.1, by rw [HLr.out.1]; rfl, by rw [HLr.out.1]; exact HZ.out.2, by rw [HLr.out.2]; exact hNs _ HZ.out.1, fun e => (by cases e), fun x e => (by cases e; have z := HRR.out.2.2 _ rfl; exact ⟨rfl, z.2.2.1, z.2.2.2.1, z.2.2.2.2.1, z.2.2.2.2.2⟩)⟩
        · rw [if_neg h4] at hst
          subst hst
          have HLr : Hid (layR g = [g.top + 1] ++ g.runs ∧ layO g = []) := ⟨by unfold layR; rw [if_neg h4]; rfl, by unfold layO; rw [if_neg h4]⟩
          cases ra with
          | none =>
            obtain ⟨h1, h2⟩ := HRR.out.1 rfl
            subst h2
            have HE : Hid (g.runs = []) := List.eq_nil_of_length_eq_zero h1
            generalize g.runs.length = RL at *
            subst h1
            refine wp_region_G (S := SB 1000 (fun _ => True) (fun Y => Y.cell? ⟨m, 3, none⟩ = some (.slice none 0 0))) hmx ?_
            have hSB : SB 1000 (fun _ => True) (fun Y => Y.cell? ⟨m, 3, none⟩ = some (.slice none 0 0)) (Array.replicate 17 false) w8.drew := SB.on trivial (hC8 _ ⟨rfl, rfl, rfl, Nat.le_refl _, fun _ _ => rfl⟩)
            refine wpAnyG_takeP (i := 0) (v := ?_) rfl (by kernel_rfl) (by kernel_rfl) (by kernel_rfl) (fun _ _ _ h => h) rfl (Or.inl ⟨by rfl, ?_⟩) (by assumption) ?_
            rotate_left
            · intro Y _; go_simp; try with_reducible rfl
            intro hSB0
            try simp only [Act.put, List.getElem_toArray, List.getElem_cons_zero, List.setIfInBounds_toArray, List.set_cons_zero, List.set_cons_succ]
            refine wpAnyG_takeP (i := 2) (v := ?_) rfl (by kernel_rfl) (by kernel_rfl) (by kernel_rfl) (fun _ _ _ h => h) rfl (Or.inl ⟨by rfl, ?_⟩) (by assumption) ?_
            rotate_left
            · intro Y _; go_simp; try with_reducible rfl
            intro hSB2
            try simp only [Act.put, List.getElem_toArray, List.getElem_cons_zero, List.getElem_cons_succ, List.setIfInBounds_toArray, List.set_cons_zero, List.set_cons_succ]
            refine wpAnyG_takeP (i := 3) (v := ?_) rfl (by kernel_rfl) (by kernel_rfl) (by kernel_rfl) (fun _ _ _ h => h) rfl (Or.inl ⟨by rfl, ?_⟩) (by assumption) ?_
            rotate_left
            · intro Y _; go_simp; try with_reducible rfl
            intro hSB3
            try simp only [Act.put, List.getElem_toArray, List.getElem_cons_zero, List.getElem_cons_succ, List.setIfInBounds_toArray, List.set_cons_zero, List.set_cons_succ]
            refine wpAnyG_takeP (i := 4) (v := ?_) rfl (by kernel_rfl) (by kernel_rfl) (by kernel_rfl) (fun _ _ _ h => h) rfl (Or.inl ⟨by rfl, ?_⟩) (by assumption) ?_
            rotate_left
            · intro Y _; go_simp; try with_reducible rfl
            intro hSB4
            try simp only [Act.put, List.getElem_toArray, List.getElem_cons_zero, List.getElem_cons_succ, List.setIfInBounds_toArray, List.set_cons_zero, List.set_cons_succ]
            refine wpAnyG_takeP (i := 5) (v := ?_) rfl (by kernel_rfl) (by kernel_rfl) (by kernel_rfl) (fun _ _ _ h => h) rfl (Or.inl ⟨by rfl, ?_⟩) (by assumption) ?_
            rotate_left
            · intro Y y1; go_simp; try with_reducible rfl
            intro hSB5
            try simp only [Act.put, List.getElem_toArray, List.getElem_cons_zero, List.getElem_cons_succ, List.setIfInBounds_toArray, List.set_cons_zero, List.set_cons_succ]
            refine wpAnyG_takeP (i := 6) (v := ?_) rfl (by kernel_rfl) (by kernel_rfl) (by kernel_rfl) (fun _ _ _ h => h) rfl (Or.inl ⟨by rfl, ?_⟩) (by assumption) ?_
            rotate_left
            · intro Y _; go_simp; try with_reducible rfl
            intro hSB6
            try simp only [Act.put, List.getElem_toArray, List.getElem_cons_zero, List.getElem_cons_succ, List.setIfInBounds_toArray, List.set_cons_zero, List.set_cons_succ]
            refine wpAnyG_takeP (i := 7) (v := ?_) rfl (by kernel_rfl) (by kernel_rfl) (by kernel_rfl) (fun _ _ _ h => h) rfl (Or.inl ⟨by rfl, ?_⟩) (by assumption) ?_
            rotate_left
            · intro Y _; go_simp; try with_reducible rfl
            intro hSB7
            try simp only [Act.put, List.getElem_toArray, List.getElem_cons_zero, List.getElem_cons_succ, List.setIfInBounds_toArray, List.set_cons_zero, List.set_cons_succ]
            refine wpAnyG_takeP (i := 9) (v := ?_) rfl (by kernel_rfl) (by kernel_rfl) (by kernel_rfl) (fun _ _ _ h => h) rfl (Or.inl ⟨by rfl, ?_⟩) (by assumption) ?_
            rotate_left
            · intro Y _; go_simp; try with_reducible rfl
            intro hSB9
            try simp only [Act.put, List.getElem_toArray, List.getElem_cons_zero, List.getElem_cons_succ, List.setIfInBounds_toArray, List.set_cons_zero, List.set_cons_succ]
            refine wpAnyG_takeP (i := 10) (v := ?_) rfl (by kernel_rfl) (by kernel_rfl) (by kernel_rfl) (fun _ _ _ h => h) rfl (Or.inl ⟨by rfl, ?_⟩) (by assumption) ?_
            rotate_left
            · intro Y _; go_simp; try with_reducible rfl
            intro hSB10
            try simp only [Act.put, List.getElem_toArray, List.getElem_cons_zero, List.getElem_cons_succ, List.setIfInBounds_toArray, List.set_cons_zero, List.set_cons_succ]
            refine wpAnyG_takeP (i := 11) (v := ?_) rfl (by kernel_rfl) (by kernel_rfl) (by kernel_rfl) (fun _ _ _ h => h) rfl (Or.inl ⟨by rfl, ?_⟩) (by assumption) ?_
            rotate_left
            · intro Y _; go_simp; try with_reducible rfl
            intro hSB11
            try simp only [Act.put, List.getElem_toArray, List.getElem_cons_zero, List.getElem_cons_succ, List.setIfInBounds_toArray, List.set_cons_zero, List.set_cons_succ]
            refine wpAnyG_takeP (i := 12) (v := ?_) rfl (by kernel_rfl) (by kernel_rfl) (by kernel_rfl) (fun _ _ _ h => h) rfl (Or.inl ⟨by rfl, ?_⟩) (by assumption) ?_
            rotate_left
            · intro Y y1; go_simp; try with_reducible rfl
            intro hSB12
            try simp only [Act.put, List.getElem_toArray, List.getElem_cons_zero, List.getElem_cons_succ, List.setIfInBounds_toArray, List.set_cons_zero, List.set_cons_succ]
            refine wpAnyG_takeP (i := 13) (v := ?_) rfl (by kernel_rfl) (by kernel_rfl) (by kernel_rfl) (fun _ _ _ h => h) rfl (Or.inl ⟨by rfl, ?_⟩) (by assumption) ?_
            rotate_left
            · intro Y _; go_simp; try with_reducible rfl
            intro hSB13
            try simp only [Act.put, List.getElem_toArray, List.getElem_cons_zero, List.getElem_cons_succ, List.setIfInBounds_toArray, List.set_cons_zero, List.set_cons_succ]
            refine wpAnyG_takeP (i := 14) (v := ?_) rfl (by kernel_rfl) (by kernel_rfl) (by kernel_rfl) (fun _ _ _ h => h) rfl (Or.inl ⟨by rfl, ?_⟩) (by assumption) ?_
            rotate_left
            · intro Y _; go_simp; try with_reducible rfl
            intro hSB14
            try simp only [Act.put, List.getElem_toArray, List.getElem_cons_zero, List.getElem_cons_succ, List.setIfInBounds_toArray, List.set_cons_zero, List.set_cons_succ]
            have hba : Below w8.heap.size w8 ((w8.drew).alloc (.cells #[nV (g.top + 1)] 3)) := (⟨rfl, rfl, rfl, Nat.le_refl _, fun _ _ => rfl⟩ : Below w8.heap.size w8 w8.drew).alloc (Nat.le_refl _) _
            refine wpAnyG_one (i := 1) (by kernel_rfl) rfl (fun K hK => ?_)
            go_simp
            refine hK.out _ _ (SB.on trivial (hC8 _ hba)) (fun hSB1 => ?_)
            clear hK K
            try simp only [Act.put, List.getElem_toArray, List.getElem_cons_zero, List.getElem_cons_succ, List.setIfInBounds_toArray, List.set_cons_zero, List.set_cons_succ]
            have hlit : ((w8.drew).alloc (.cells #[nV (g.top + 1)] 3)).ownsRow w8.heap.size 3 1 (.slice (some ⟨w8.heap.size, 0, none⟩) 1 1) 1 ([g.top + 1].map nV) := World.ownsRow_lit w8.drew #[nV (g.top + 1)] 1 (Nat.le_refl _) (by unfold maxLen; omega) rfl
            refine wpAnyG_one (i := 8) (by kernel_rfl) rfl (fun K hK => ?_)
            refine vstep_appI _ (by rfl) _ _ (by rfl) w8.heap.size 1 hba.size _ [g.top + 1] (by rfl) hlit _ 0 _ (g.runs) (by rfl) (hNs _ hba) (fun e => by exact ⟨rfl, rfl⟩) (by omega) ?_
            intro ad6 c6 w6 hown6 hg6
            have hb6 : Below w8.heap.size w8 w6 := hba.grown hg6 (by simp) (fun k hk => by cases hk; exact Nat.le_refl _)
            refine hK.out _ _ (SB.on trivial (hC8 _ hb6)) (fun hSB8 => ?_)
            clear hK K
            try simp only [Act.put, List.getElem_toArray, List.getElem_cons_zero, List.getElem_cons_succ, List.setIfInBounds_toArray, List.set_cons_zero, List.set_cons_succ]
            refine wpAnyG_takeP (i := 15) (v := ?_) rfl (by kernel_rfl) (by kernel_rfl) (by kernel_rfl) (fun _ _ _ h => h) rfl (Or.inl ⟨by rfl, ?_⟩) (by assumption) ?_
            rotate_left
            · intro Y _; go_simp; try with_reducible rfl
            intro hSB15
            try simp only [Act.put, List.getElem_toArray, List.getElem_cons_zero, List.getElem_cons_succ, List.setIfInBounds_toArray, List.set_cons_zero, List.set_cons_succ]
            refine wpAnyG_takeP (i := 16) (v := ?_) rfl (by kernel_rfl) (by kernel_rfl) (by kernel_rfl) (fun _ _ _ h => h) rfl (Or.inl ⟨by rfl, ?_⟩) (by assumption) ?_
            rotate_left
            · intro Y _; go_simp; try with_reducible rfl
            intro hSB16
            try simp only [Act.put, List.getElem_toArray, List.getElem_cons_zero, List.getElem_cons_succ, List.setIfInBounds_toArray, List.set_cons_zero, List.set_cons_succ]
            refine wpAnyG_done (by kernel_rfl) ?_ _
            clear hSB hSB0 hSB1 hSB2 hSB3 hSB4 hSB5 hSB6 hSB7 hSB8 hSB9 hSB10 hSB11 hSB12 hSB13 hSB14 hSB15 hSB16
            have HZ : Hid (Below w8.heap.size w8 w6 ∧ w6.ownsRow w8.heap.size 3 1 (.slice ad6 (1 + 0) c6) (1 + 0) (([g.top + 1] ++ (g.runs)).map nV)) := ⟨hb6, hown6⟩
            clear hba hlit hb6 hg6 hown6
            go_wp2
            go_meet
            exact ⟨ad6, 1, c6, none, 0, 0, rfl, rfl, HZ.out.1, by rw [HLr.out.1, HE.out]; rfl, by rw [HLr.out.1]; exact HZ.out.2, by rw [HLr.out.2]; exact ⟨rfl, fun h => by omega⟩, fun _ => rfl, fun x e => (by cases e)⟩
          | some rx =>
            obtain ⟨xb, xo, xs⟩ := rx
            obtain ⟨h1, h2, _⟩ := HRR.out.2.2 _ rfl
            simp only at h1 h2
            subst h1
            subst h2
            by_cases hrcn : rc = g.runs.length
            · subst hrcn
              refine wp_region_G (S := SB 1000 (fun _ => True) (fun Y => Y.cell? ⟨m, 3, none⟩ = some (.slice (some ⟨xb, 0, none⟩) g.runs.length g.runs.length))) hmx ?_
              have hSB : SB 1000 (fun _ => True) (fun Y => Y.cell? ⟨m, 3, none⟩ = some (.slice (some ⟨xb, 0, none⟩) g.runs.length g.runs.length)) (Array.replicate 17 false) w8.drew := SB.on trivial (hC8 _ ⟨rfl, rfl, rfl, Nat.le_refl _, fun _ _ => rfl⟩)
              refine wpAnyG_takeP (i := 0) (v := ?_) rfl (by kernel_rfl) (by kernel_rfl) (by kernel_rfl) (fun _ _ _ h => h) rfl (Or.inl ⟨by rfl, ?_⟩) (by assumption) ?_
              rotate_left
              · intro Y _; go_simp; try with_reducible rfl
              intro hSB0
              try simp only [Act.put, List.getElem_toArray, List.getElem_cons_zero, List.setIfInBounds_toArray, List.set_cons_zero, List.set_cons_succ]
              refine wpAnyG_takeP (i := 2) (v := ?_) rfl (by kernel_rfl) (by kernel_rfl) (by kernel_rfl) (fun _ _ _ h => h) rfl (Or.inl ⟨by rfl, ?_⟩) (by assumption) ?_
              rotate_left
              · intro Y _; go_simp; try with_reducible rfl
              intro hSB2
              try simp only [Act.put, List.getElem_toArray, List.getElem_cons_zero, List.getElem_cons_succ, List.setIfInBounds_toArray, List.set_cons_zero, List.set_cons_succ]
              refine wpAnyG_takeP (i := 3) (v := ?_) rfl (by kernel_rfl) (by kernel_rfl) (by kernel_rfl) (fun _ _ _ h => h) rfl (Or.inl ⟨by rfl, ?_⟩) (by assumption) ?_
              rotate_left
              · intro Y _; go_simp; try with_reducible rfl
              intro hSB3
              try simp only [Act.put, List.getElem_toArray, List.getElem_cons_zero, List.getElem_cons_succ, List.setIfInBounds_toArray, List.set_cons_zero, List.set_cons_succ]
              refine wpAnyG_takeP (i := 4) (v := ?_) rfl (by kernel_rfl) (by kernel_rfl) (by kernel_rfl) (fun _ _ _ h => h) rfl (Or.inl ⟨by rfl, ?_⟩) (by assumption) ?_
              rotate_left
              · intro Y _; go_simp; try with_reducible rfl
              intro hSB4
              try simp only [Act.put, List.getElem_toArray, List.getElem_cons_zero, List.getElem_cons_succ, List.setIfInBounds_toArray, List.set_cons_zero, List.set_cons_succ]
              refine wpAnyG_takeP (i := 5) (v := ?_) rfl (by kernel_rfl) (by kernel_rfl) (by kernel_rfl) (fun _ _ _ h => h) rfl (Or.inl ⟨by rfl, ?_⟩) (by assumption) ?_
              rotate_left
              · intro Y y1; go_simp; try with_reducible rfl
              intro hSB5
              try simp only [Act.put, List.getElem_toArray, List.getElem_cons_zero, List.getElem_cons_succ, List.setIfInBounds_toArray, List.set_cons_zero, List.set_cons_succ]
              refine wpAnyG_takeP (i := 6) (v := ?_) rfl (by kernel_rfl) (by kernel_rfl) (by kernel_rfl) (fun _ _ _ h => h) rfl (Or.inl ⟨by rfl, ?_⟩) (by assumption) ?_
              rotate_left
              · intro Y _; go_simp; try with_reducible rfl
              intro hSB6
              try simp only [Act.put, List.getElem_toArray, List.getElem_cons_zero, List.getElem_cons_succ, List.setIfInBounds_toArray, List.set_cons_zero, List.set_cons_succ]
              refine wpAnyG_takeP (i := 7) (v := ?_) rfl (by kernel_rfl) (by kernel_rfl) (by kernel_rfl) (fun _ _ _ h => h) rfl (Or.inl ⟨by rfl, ?_⟩) (by assumption) ?_
              rotate_left
              · intro Y _; go_simp; try with_reducible rfl
              intro hSB7
              try simp only [Act.put, List.getElem_toArray, List.getElem_cons_zero, List.getElem_cons_succ, List.setIfInBounds_toArray, List.set_cons_zero, List.set_cons_succ]
              refine wpAnyG_takeP (i := 9) (v := ?_) rfl (by kernel_rfl) (by kernel_rfl) (by kernel_rfl) (fun _ _ _ h => h) rfl (Or.inl ⟨by rfl, ?_⟩) (by assumption) ?_
              rotate_left
              · intro Y _; go_simp; try with_reducible rfl
              intro hSB9
              try simp only [Act.put, List.getElem_toArray, List.getElem_cons_zero, List.getElem_cons_succ, List.setIfInBounds_toArray, List.set_cons_zero, List.set_cons_succ]
              refine wpAnyG_takeP (i := 10) (v := ?_) rfl (by kernel_rfl) (by kernel_rfl) (by kernel_rfl) (fun _ _ _ h => h) rfl (Or.inl ⟨by rfl, ?_⟩) (by assumption) ?_
              rotate_left
              · intro Y _; go_simp; try with_reducible rfl
              intro hSB10
              try simp only [Act.put, List.getElem_toArray, List.getElem_cons_zero, List.getElem_cons_succ, List.setIfInBounds_toArray, List.set_cons_zero, List.set_cons_succ]
              refine wpAnyG_takeP (i := 11) (v := ?_) rfl (by kernel_rfl) (by kernel_rfl) (by kernel_rfl) (fun _ _ _ h => h) rfl (Or.inl ⟨by rfl, ?_⟩) (by assumption) ?_
              rotate_left
              · intro Y _; go_simp; try with_reducible rfl
              intro hSB11
              try simp only [Act.put, List.getElem_toArray, List.getElem_cons_zero, List.getElem_cons_succ, List.setIfInBounds_toArray, List.set_cons_zero, List.set_cons_succ]
              refine wpAnyG_takeP (i := 12) (v := ?_) rfl (by kernel_rfl) (by kernel_rfl) (by kernel_rfl) (fun _ _ _ h => h) rfl (Or.inl ⟨by rfl, ?_⟩) (by assumption) ?_
              rotate_left
              · intro Y y1; go_simp; try with_reducible rfl
              intro hSB12
              try simp only [Act.put, List.getElem_toArray, List.getElem_cons_zero, List.getElem_cons_succ, List.setIfInBounds_toArray, List.set_cons_zero, List.set_cons_succ]
              refine wpAnyG_takeP (i := 13) (v := ?_) rfl (by kernel_rfl) (by kernel_rfl) (by kernel_rfl) (fun _ _ _ h => h) rfl (Or.inl ⟨by rfl, ?_⟩) (by assumption) ?_
              rotate_left
              · intro Y _; go_simp; try with_reducible rfl
              intro hSB13
              try simp only [Act.put, List.getElem_toArray, List.getElem_cons_zero, List.getElem_cons_succ, List.setIfInBounds_toArray, List.set_cons_zero, List.set_cons_succ]
              refine wpAnyG_takeP (i := 14) (v := ?_) rfl (by kernel_rfl) (by kernel_rfl) (by kernel_rfl) (fun _ _ _ h => h) rfl (Or.inl ⟨by rfl, ?_⟩) (by assumption) ?_
              rotate_left
              · intro Y _; go_simp; try with_reducible rfl
              intro hSB14
              try simp only [Act.put, List.getElem_toArray, List.getElem_cons_zero, List.getElem_cons_succ, List.setIfInBounds_toArray, List.set_cons_zero, List.set_cons_succ]
              have hba : Below w8.heap.size w8 ((w8.drew).alloc (.cells #[nV (g.top + 1)] 3)) := (⟨rfl, rfl, rfl, Nat.le_refl _, fun _ _ => rfl⟩ : Below w8.heap.size w8 w8.drew).alloc (Nat.le_refl _) _
              refine wpAnyG_one (i := 1) (by kernel_rfl) rfl (fun K hK => ?_)
              go_simp
              refine hK.out _ _ (SB.on trivial (hC8 _ hba)) (fun hSB1 => ?_)
              clear hK K
              try simp only [Act.put, List.getElem_toArray, List.getElem_cons_zero, List.getElem_cons_succ, List.setIfInBounds_toArray, List.set_cons_zero, List.set_cons_succ]
              have hlit : ((w8.drew).alloc (.cells #[nV (g.top + 1)] 3)).ownsRow w8.heap.size 3 1 (.slice (some ⟨w8.heap.size, 0, none⟩) 1 1) 1 ([g.top + 1].map nV) := World.ownsRow_lit w8.drew #[nV (g.top + 1)] 1 (Nat.le_refl _) (by unfold maxLen; omega) rfl
              refine wpAnyG_one (i := 8) (by kernel_rfl) rfl (fun K hK => ?_)
              refine vstep_appI _ (by rfl) _ _ (by rfl) w8.heap.size 1 hba.size _ [g.top + 1] (by rfl) hlit _ g.runs.length _ (g.runs) (by rfl) (hNs _ hba) (fun e => by cases e) (by omega) ?_
              intro ad6 c6 w6 hown6 hg6
              have hb6 : Below w8.heap.size w8 w6 := hba.grown hg6 (by simp) (fun k hk => by cases hk; exact Nat.le_refl _)
              refine hK.out _ _ (SB.on trivial (hC8 _ hb6)) (fun hSB8 => ?_)
              clear hK K
              try simp only [Act.put, List.getElem_toArray, List.getElem_cons_zero, List.getElem_cons_succ, List.setIfInBounds_toArray, List.set_cons_zero, List.set_cons_succ]
              refine wpAnyG_takeP (i := 15) (v := ?_) rfl (by kernel_rfl) (by kernel_rfl) (by kernel_rfl) (fun _ _ _ h => h) rfl (Or.inl ⟨by rfl, ?_⟩) (by assumption) ?_
              rotate_left
              · intro Y _; go_simp; try with_reducible rfl
              intro hSB15
              try simp only [Act.put, List.getElem_toArray, List.getElem_cons_zero, List.getElem_cons_succ, List.setIfInBounds_toArray, List.set_cons_zero, List.set_cons_succ]
              refine wpAnyG_takeP (i := 16) (v := ?_) rfl (by kernel_rfl) (by kernel_rfl) (by kernel_rfl) (fun _ _ _ h => h) rfl (Or.inl ⟨by rfl, ?_⟩) (by assumption) ?_
              rotate_left
              · intro Y _; go_simp; try with_reducible rfl
              intro hSB16
              try simp only [Act.put, List.getElem_toArray, List.getElem_cons_zero, List.getElem_cons_succ, List.setIfInBounds_toArray, List.set_cons_zero, List.set_cons_succ]
              refine wpAnyG_done (by kernel_rfl) ?_ _
              clear hSB hSB0 hSB1 hSB2 hSB3 hSB4 hSB5 hSB6 hSB7 hSB8 hSB9 hSB10 hSB11 hSB12 hSB13 hSB14 hSB15 hSB16
              have HZ : Hid (Below w8.heap.size w8 w6 ∧ w6.ownsRow w8.heap.size 3 1 (.slice ad6 (1 + g.runs.length) c6) (1 + g.runs.length) (([g.top + 1] ++ (g.runs)).map nV)) := ⟨hb6, hown6⟩
              clear hba hlit hb6 hg6 hown6
              go_wp2
              go_meet
              exact ⟨ad6, (1 + g.runs.length), c6, (some ⟨xb, 0, none⟩), 0, 0, rfl, rfl, HZ.out.1, by rw [HLr.out.1, List.length_append]; rfl, by rw [HLr.out.1]; exact HZ.out.2, by rw [HLr.out.2]; exact ⟨rfl, fun h => by omega⟩, fun e => (by cases e), fun x e => (by cases e; have z := HRR.out.2.2 _ rfl; exact ⟨rfl, z.2.2.1, z.2.2.2.1, z.2.2.2.2.1, z.2.2.2.2.2⟩)⟩
            · have j1 : (g.runs.length : Int) ≤ (rc : Int) := by omega
              refine wp_region_G (S := SB 1000 (fun _ => True) (fun Y => Y.cell? ⟨m, 3, none⟩ = some (.slice (some ⟨xb, 0, none⟩) g.runs.length rc))) hmx ?_
              have hSB : SB 1000 (fun _ => True) (fun Y => Y.cell? ⟨m, 3, none⟩ = some (.slice (some ⟨xb, 0, none⟩) g.runs.length rc)) (Array.replicate 17 false) w8.drew := SB.on trivial (hC8 _ ⟨rfl, rfl, rfl, Nat.le_refl _, fun _ _ => rfl⟩)
              refine wpAnyG_takeP (i := 0) (v := ?_) rfl (by kernel_rfl) (by kernel_rfl) (by kernel_rfl) (fun _ _ _ h => h) rfl (Or.inl ⟨by rfl, ?_⟩) (by assumption) ?_
              rotate_left
              · intro Y _; go_simp; try with_reducible rfl
              intro hSB0
              try simp only [Act.put, List.getElem_toArray, List.getElem_cons_zero, List.setIfInBounds_toArray, List.set_cons_zero, List.set_cons_succ]
              refine wpAnyG_takeP (i := 2) (v := ?_) rfl (by kernel_rfl) (by kernel_rfl) (by kernel_rfl) (fun _ _ _ h => h) rfl (Or.inl ⟨by rfl, ?_⟩) (by assumption) ?_
              rotate_left
              · intro Y _; go_simp; try with_reducible rfl
              intro hSB2
              try simp only [Act.put, List.getElem_toArray, List.getElem_cons_zero, List.getElem_cons_succ, List.setIfInBounds_toArray, List.set_cons_zero, List.set_cons_succ]
              refine wpAnyG_takeP (i := 3) (v := ?_) rfl (by kernel_rfl) (by kernel_rfl) (by kernel_rfl) (fun _ _ _ h => h) rfl (Or.inl ⟨by rfl, ?_⟩) (by assumption) ?_
              rotate_left
              · intro Y _; go_simp; try with_reducible rfl
              intro hSB3
              try simp only [Act.put, List.getElem_toArray, List.getElem_cons_zero, List.getElem_cons_succ, List.setIfInBounds_toArray, List.set_cons_zero, List.set_cons_succ]
              refine wpAnyG_takeP (i := 4) (v := ?_) rfl (by kernel_rfl) (by kernel_rfl) (by kernel_rfl) (fun _ _ _ h => h) rfl (Or.inl ⟨by rfl, ?_⟩) (by assumption) ?_
              rotate_left
              · intro Y _; go_simp; try with_reducible rfl
              intro hSB4
              try simp only [Act.put, List.getElem_toArray, List.getElem_cons_zero, List.getElem_cons_succ, List.setIfInBounds_toArray, List.set_cons_zero, List.set_cons_succ]
              refine wpAnyG_takeP (i := 5) (v := ?_) rfl (by kernel_rfl) (by kernel_rfl) (by kernel_rfl) (fun _ _ _ h => h) rfl (Or.inl ⟨by rfl, ?_⟩) (by assumption) ?_
              rotate_left
              · intro Y y1; go_simp; try with_reducible rfl
              intro hSB5
              try simp only [Act.put, List.getElem_toArray, List.getElem_cons_zero, List.getElem_cons_succ, List.setIfInBounds_toArray, List.set_cons_zero, List.set_cons_succ]
              refine wpAnyG_takeP (i := 6) (v := ?_) rfl (by kernel_rfl) (by kernel_rfl) (by kernel_rfl) (fun _ _ _ h => h) rfl (Or.inl ⟨by rfl, ?_⟩) (by assumption) ?_
              rotate_left
              · intro Y _; go_simp; try with_reducible rfl
              intro hSB6
              try simp only [Act.put, List.getElem_toArray, List.getElem_cons_zero, List.getElem_cons_succ, List.setIfInBounds_toArray, List.set_cons_zero, List.set_cons_succ]
              refine wpAnyG_takeP (i := 7) (v := ?_) rfl (by kernel_rfl) (by kernel_rfl) (by kernel_rfl) (fun _ _ _ h => h) rfl (Or.inl ⟨by rfl, ?_⟩) (by assumption) ?_
              rotate_left
              · intro Y _; go_simp; try with_reducible rfl
              intro hSB7
              try simp only [Act.put, List.getElem_toArray, List.getElem_cons_zero, List.getElem_cons_succ, List.setIfInBounds_toArray, List.set_cons_zero, List.set_cons_succ]
              refine wpAnyG_takeP (i := 9) (v := ?_) rfl (by kernel_rfl) (by kernel_rfl) (by kernel_rfl) (fun _ _ _ h => h) rfl (Or.inl ⟨by rfl, ?_⟩) (by assumption) ?_
              rotate_left
              · intro Y _; go_simp; try with_reducible rfl
              intro hSB9
              try simp only [Act.put, List.getElem_toArray, List.getElem_cons_zero, List.getElem_cons_succ, List.setIfInBounds_toArray, List.set_cons_zero, List.set_cons_succ]
              refine wpAnyG_takeP (i := 10) (v := ?_) rfl (by kernel_rfl) (by kernel_rfl) (by kernel_rfl) (fun _ _ _ h => h) rfl (Or.inl ⟨by rfl, ?_⟩) (by assumption) ?_
              rotate_left
              · intro Y _; go_simp; try with_reducible rfl
              intro hSB10
              try simp only [Act.put, List.getElem_toArray, List.getElem_cons_zero, List.getElem_cons_succ, List.setIfInBounds_toArray, List.set_cons_zero, List.set_cons_succ]
              refine wpAnyG_takeP (i := 11) (v := ?_) rfl (by kernel_rfl) (by kernel_rfl) (by kernel_rfl) (fun _ _ _ h => h) rfl (Or.inl ⟨by rfl, ?_⟩) (by assumption) ?_
              rotate_left
              · intro Y _; go_simp; try with_reducible rfl
              intro hSB11
              try simp only [Act.put, List.getElem_toArray, List.getElem_cons_zero, List.getElem_cons_succ, List.setIfInBounds_toArray, List.set_cons_zero, List.set_cons_succ]
              refine wpAnyG_takeP (i := 12) (v := ?_) rfl (by kernel_rfl) (by kernel_rfl) (by kernel_rfl) (fun _ _ _ h => h) rfl (Or.inl ⟨by rfl, ?_⟩) (by assumption) ?_
              rotate_left
              · intro Y y1; go_simp; try with_reducible rfl
              intro hSB12
              try simp only [Act.put, List.getElem_toArray, List.getElem_cons_zero, List.getElem_cons_succ, List.setIfInBounds_toArray, List.set_cons_zero, List.set_cons_succ]
              refine wpAnyG_takeP (i := 13) (v := ?_) rfl (by kernel_rfl) (by kernel_rfl) (by kernel_rfl) (fun _ _ _ h => h) rfl (Or.inl ⟨by rfl, ?_⟩) (by assumption) ?_
              rotate_left
              · intro Y _; go_simp; try with_reducible rfl
              intro hSB13
              try simp only [Act.put, List.getElem_toArray, List.getElem_cons_zero, List.getElem_cons_succ, List.setIfInBounds_toArray, List.set_cons_zero, List.set_cons_succ]
              refine wpAnyG_takeP (i := 14) (v := ?_) rfl (by kernel_rfl) (by kernel_rfl) (by kernel_rfl) (fun _ _ _ h => h) rfl (Or.inl ⟨by rfl, ?_⟩) (by assumption) ?_
              rotate_left
              · intro Y _; go_simp; try with_reducible rfl
              intro hSB14
              try simp only [Act.put, List.getElem_toArray, List.getElem_cons_zero, List.getElem_cons_succ, List.setIfInBounds_toArray, List.set_cons_zero, List.set_cons_succ]
              have hba : Below w8.heap.size w8 ((w8.drew).alloc (.cells #[nV (g.top + 1)] 3)) := (⟨rfl, rfl, rfl, Nat.le_refl _, fun _ _ => rfl⟩ : Below w8.heap.size w8 w8.drew).alloc (Nat.le_refl _) _
              refine wpAnyG_one (i := 1) (by kernel_rfl) rfl (fun K hK => ?_)
              go_simp
              refine hK.out _ _ (SB.on trivial (hC8 _ hba)) (fun hSB1 => ?_)
              clear hK K
              try simp only [Act.put, List.getElem_toArray, List.getElem_cons_zero, List.getElem_cons_succ, List.setIfInBounds_toArray, List.set_cons_zero, List.set_cons_succ]
              have hlit : ((w8.drew).alloc (.cells #[nV (g.top + 1)] 3)).ownsRow w8.heap.size 3 1 (.slice (some ⟨w8.heap.size, 0, none⟩) 1 1) 1 ([g.top + 1].map nV) := World.ownsRow_lit w8.drew #[nV (g.top + 1)] 1 (Nat.le_refl _) (by unfold maxLen; omega) rfl
              refine wpAnyG_one (i := 8) (by kernel_rfl) rfl (fun K hK => ?_)
              refine vstep_appI _ (by rfl) _ _ (by rfl) w8.heap.size 1 hba.size _ [g.top + 1] (by rfl) hlit _ g.runs.length _ (g.runs) (by rfl) (hNs _ hba) (fun e => by cases e) (by omega) ?_
              intro ad6 c6 w6 hown6 hg6
              have hb6 : Below w8.heap.size w8 w6 := hba.grown hg6 (by simp) (fun k hk => by cases hk; exact Nat.le_refl _)
              refine hK.out _ _ (SB.on trivial (hC8 _ hb6)) (fun hSB8 => ?_)
              clear hK K
              try simp only [Act.put, List.getElem_toArray, List.getElem_cons_zero, List.getElem_cons_succ, List.setIfInBounds_toArray, List.set_cons_zero, List.set_cons_succ]
              refine wpAnyG_takeP (i := 15) (v := ?_) rfl (by kernel_rfl) (by kernel_rfl) (by kernel_rfl) (fun _ _ _ h => h) rfl (Or.inl ⟨by rfl, ?_⟩) (by assumption) ?_
              rotate_left
              · intro Y _; go_simp; try with_reducible rfl
              intro hSB15
              try simp only [Act.put, List.getElem_toArray, List.getElem_cons_zero, List.getElem_cons_succ, List.setIfInBounds_toArray, List.set_cons_zero, List.set_cons_succ]
              refine wpAnyG_takeP (i := 16) (v := ?_) rfl (by kernel_rfl) (by kernel_rfl) (by kernel_rfl) (fun _ _ _ h => h) rfl (Or.inl ⟨by rfl, ?_⟩) (by assumption) ?_
              rotate_left
              · intro Y _; go_simp; try with_reducible rfl
              intro hSB16
              try simp only [Act.put, List.getElem_toArray, List.getElem_cons_zero, List.getElem_cons_succ, List.setIfInBounds_toArray, List.set_cons_zero, List.set_cons_succ]
              refine wpAnyG_done (by kernel_rfl) ?_ _
              clear hSB hSB0 hSB1 hSB2 hSB3 hSB4 hSB5 hSB6 hSB7 hSB8 hSB9 hSB10 hSB11 hSB12 hSB13 hSB14 hSB15 hSB16
              have HZ : Hid (Below w8.heap.size w8 w6 ∧ w6.ownsRow w8.heap.size 3 1 (.slice ad6 (1 + g.runs.length) c6) (1 + g.runs.length) (([g.top + 1] ++ (g.runs)).map nV)) := ⟨hb6, hown6⟩
              clear hba hlit hb6 hg6 hown6
              go_wp2
              go_meet
              exact ⟨ad6, (1 + g.runs.length), c6, (some ⟨xb, g.runs.length, none⟩), 0, (rc - g.runs.length), rfl, rfl, HZ.out.1, by rw [HLr.out.1, List.length_append]; rfl, by rw [HLr.out.1]; exact HZ.out.2, by rw [HLr.out.2]; exact ⟨rfl, fun h => by omega⟩, fun e => (by cases e), fun x e => (by cases e; have z := HRR.out.2.2 _ rfl; exact ⟨rfl, z.2.2.1, z.2.2.2.1, z.2.2.2.2.1, z.2.2.2.2.2⟩)⟩
      case rest =>
        obtain ⟨na, rn, nc, ga, gn, gc, rfl, rfl, HK⟩ := hcut
        have hBk : Below w8.heap.size w8 wc.drew := ⟨HK.out.1.os, HK.out.1.tape, HK.out.1.output, HK.out.1.size, HK.out.1.block⟩
        have hBkk : Below wc.heap.size wc wc.drew := ⟨rfl, rfl, rfl, Nat.le_refl _, fun _ _ => rfl⟩
        have HX8 : Hid (∀ Y, Below w8.heap.size w8 Y → Y.cell? ⟨m, 2, none⟩ = some (.pointer (some ⟨j, 0, none⟩))) := fun Y hY => (H8.out.2.2.2.2.1.below hY).cells.2.2.1
        have hll : (layR g).length ≤ 5 := by
          unfold layR
          split <;> simp <;> omega
        have hlx : ∀ x ∈ layR g, x < 100 := fun x hx => by
          unfold layR at hx
          rcases List.mem_cons.1 hx with e | e
          · omega
          · split at e
            · cases e
            · exact hruns x e
        have hle : (encR (layR g)).length ≤ 262144 := by
          have := short_len (layR g).length
          have := numsB_len (layR g)
          unfold encR
          rw [List.length_append]
          omega
        have hFX : ∀ k, FM k → ¬ (FJ k ∨ grow G w4 w8 k) := fun k hk hx => by
          have hl := HQ4.out k (.inl hk)
          have h2 := HH.out.2.2.2.1 k hk
          rcases hx with hx | hx | hx
          · exact h2.1 hx
          · exact h2.2 hx
          · omega
        clear hst
        go_upto_region 13 with fail
        refine wp_region_G (S := SB 1000 (fun _ => True) (fun Y => Y.cell? ⟨m, 2, none⟩ = some (.pointer (some ⟨j, 0, none⟩)))) hmx ?_
        have hSB : SB 1000 (fun _ => True) (fun Y => Y.cell? ⟨m, 2, none⟩ = some (.pointer (some ⟨j, 0, none⟩))) (Array.replicate 8 false) wc.drew := SB.on trivial (HX8.out _ hBk)
        refine wpAnyG_takeP (i := 0) (v := ?_) rfl (by kernel_rfl) (by kernel_rfl) (by kernel_rfl) (fun _ _ _ h => h) rfl (Or.inl ⟨by rfl, ?_⟩) (by assumption) ?_
        rotate_left
        · intro Y _; go_simp; try with_reducible rfl
        intro hSB0
        try simp only [Act.put, List.getElem_toArray, List.getElem_cons_zero, List.setIfInBounds_toArray, List.set_cons_zero, List.set_cons_succ]
        refine wpAnyG_takeP (i := 1) (v := ?_) rfl (by kernel_rfl) (by kernel_rfl) (by kernel_rfl) (fun _ _ _ h => h) rfl (Or.inl ⟨by rfl, ?_⟩) (by assumption) ?_
        rotate_left
        · intro Y _; go_simp; try with_reducible rfl
        intro hSB1
        try simp only [Act.put, List.getElem_toArray, List.getElem_cons_zero, List.getElem_cons_succ, List.setIfInBounds_toArray, List.set_cons_zero, List.set_cons_succ]
        refine wpAnyG_takeP (i := 2) (v := ?_) rfl (by kernel_rfl) (by kernel_rfl) (by kernel_rfl) (fun _ _ _ h => h) rfl (Or.inl ⟨by rfl, ?_⟩) (by assumption) ?_
        rotate_left
        · intro Y _; go_simp; try with_reducible rfl
        intro hSB2
        try simp only [Act.put, List.getElem_toArray, List.getElem_cons_zero, List.getElem_cons_succ, List.setIfInBounds_toArray, List.set_cons_zero, List.set_cons_succ]
        refine wpAnyG_takeP (i := 3) (v := ?_) rfl (by kernel_rfl) (by kernel_rfl) (by kernel_rfl) (fun _ _ _ h => h) rfl (Or.inl ⟨by rfl, ?_⟩) (by assumption) ?_
        rotate_left
        · intro Y y1; go_simp; try with_reducible rfl
        intro hSB3
        try simp only [Act.put, List.getElem_toArray, List.getElem_cons_zero, List.getElem_cons_succ, List.setIfInBounds_toArray, List.set_cons_zero, List.set_cons_succ]
        refine wpAnyG_takeP (i := 4) (v := ?_) rfl (by kernel_rfl) (by kernel_rfl) (by kernel_rfl) (fun _ _ _ h => h) rfl (Or.inl ⟨by rfl, ?_⟩) (by assumption) ?_
        rotate_left
        · intro Y _; go_simp; try with_reducible rfl
        intro hSB4
        try simp only [Act.put, List.getElem_toArray, List.getElem_cons_zero, List.getElem_cons_succ, List.setIfInBounds_toArray, List.set_cons_zero, List.set_cons_succ]
        refine wpAnyG_one (i := 5) (by kernel_rfl) rfl (fun K hK => ?_)
        refine ystep_enc _ (by rfl) _ _ (by rfl) _ (by rfl) (fun v W => ∃ ea ec, v = .slice ea (encR (layR g)).length ec ∧ Bytes W ea (encR (layR g)).length (encR (layR g)) ∧ (∀ x, ea = some x → wc.heap.size ≤ x.block) ∧ Below wc.heap.size wc W) ((encode_any wc.drew na rn nc (layR g) ((nrow_ns HK.out.2.2.1).below hBkk) (by have := HK.out.2.1; omega) (fun x hx => by have := hlx x hx; omega)).mono (fun e w' h => by obtain ⟨ea, ec, h1, h2, h3, h4⟩ := h; exact ⟨_, h1, ea, ec, rfl, h2, h3, hBkk.trans h4⟩)) ?_
        rintro v w9 ⟨ea, ec, rfl, hby9, hfr9, hB9⟩
        have hB89 : Below w8.heap.size w8 w9 := HK.out.1.trans (hB9.mono HK.out.1.size)
        refine hK.out _ _ (SB.on trivial (HX8.out _ hB89)) (fun hSB5 => ?_)
        clear hK K
        try simp only [Act.put, List.getElem_toArray, List.getElem_cons_zero, List.getElem_cons_succ, List.setIfInBounds_toArray, List.set_cons_zero, List.set_cons_succ]
        have hja := jappend_any w9 j d (nm0 g.key) rs sz FJ (layS1 g news S).1 (grow G w4 w8) (H8.out.2.2.2.1.kept hB89.size (fun k hk => hB89.block k (H8.out.2.2.2.1.lt k hk))) (H8.out.2.2.1.below hB89) (fun k hk hg => by (rcases hg with hg | hg; exact HH.out.2.2.2.2.1 k hk hg; have := HQ4.out k (.inr (.inl hk)); omega)) ea (encR (layR g)).length ec (encR (layR g)) hby9 hle (fun h0 x e => by have z := hfr9 x e; have zs := HK.out.1.size; exact ⟨fun hf => (by have := HQ4.out _ (.inr (.inl hf)); omega), fun hg => (by (rcases hg with hg | hg; have := HQ4.out _ (.inr (.inr hg)); omega; omega))⟩) (Nat.le_trans (nm_len g.key 0 (by omega)) (by decide)) (by rw [nm_list]; exact (hS1 H8.out.1).1) (by rw [nm_list]; exact (hS1 H8.out.1).2.1) (hS1 H8.out.1).2.2.1 (hS1 H8.out.1).2.2.2
        unfold Appended at hja
        rw [nm_list] at hja
        refine wpAnyG_one (i := 6) (by kernel_rfl) rfl (fun K hK => ?_)
        refine ystep_japp _ (by rfl) _ _ _ _ (by rfl) _ _ (by rfl) (by rfl) (fun v W => ∃ er : Int, v = .int .i64 er ∧ Hid (er = (layS2 g news S).2 ∧ Turn (fun k => FJ k ∨ grow G w4 w8 k) w9 W ∧ ∃ F' G' : Nat → Prop, IsDisk W d (layS2 g news S).1 G' ∧ (∀ k, F' k → FJ k ∨ w9.heap.size ≤ k) ∧ (∀ k, G' k → grow G w4 w8 k ∨ w9.heap.size ≤ k) ∧ (∀ k, F' k → ¬ G' k) ∧ (((layS2 g news S).2 = 0 ∧ JAt W j d (nm0 g.key) (rs ++ [(encR (layR g))]) (sz + (recB (encR (layR g))).length) false F') ∨ ((layS2 g news S).2 ≠ 0 ∧ JAt W j d (nm0 g.key) rs sz (decide ((layS2 g news S).2 = 6)) F')))) (hja.mono (fun e w' h => ⟨_, h.1, _, rfl, rfl, h.2⟩)) ?_
        rintro v w10 ⟨er10, rfl, HA10⟩
        refine hK.out _ _ (SB.on trivial (HA10.out.2.1.cell (HX8.out _ hB89) (hFX m HH.out.1.fm))) (fun hSB6 => ?_)
        clear hK K
        try simp only [Act.put, List.getElem_toArray, List.getElem_cons_zero, List.getElem_cons_succ, List.setIfInBounds_toArray, List.set_cons_zero, List.set_cons_succ]
        refine wpAnyG_takeP (i := 7) (v := ?_) rfl (by kernel_rfl) (by kernel_rfl) (by kernel_rfl) (fun _ _ _ h => h) rfl (Or.inl ⟨by rfl, ?_⟩) (by assumption) ?_
        rotate_left
        · intro Y _; go_simp; try with_reducible rfl
        intro hSB7
        try simp only [Act.put, List.getElem_toArray, List.getElem_cons_zero, List.getElem_cons_succ, List.setIfInBounds_toArray, List.set_cons_zero, List.set_cons_succ]
        refine wpAnyG_done (by kernel_rfl) ?_ _
        clear hSB hSB0 hSB1 hSB2 hSB3 hSB4 hSB5 hSB6 hSB7
        clear hja hby9 hfr9 hBk hBkk
        have hv10 : er10 = (layS2 g news S).2 := HA10.out.1
        by_cases he10 : er10 = 0
        · subst he10
          have HT : Hid (Turn (fun k => FJ k ∨ G k) w w10 ∧ Turn (fun k => FJ k ∨ grow G w4 w8 k) w8 w10 ∧ MeAt w10 m d j g (.slice ra g.runs.length rc) pa pc FM) := by
            have hT8 : Turn (fun k => FJ k ∨ grow G w4 w8 k) w8 w10 := (Turn.of_below _ hB89).trans HA10.out.2.1 (fun _ _ e => e)
            refine ⟨(H8.out.2.1.wide (fun k h => .inr h)).trans hT8 (fun k hk hx => by
              rcases hx with hx | hx | hx
              · exact .inl hx
              · exact .inr hx
              · omega), hT8, H8.out.2.2.2.2.1.turn hT8 hFX⟩
          obtain ⟨hvx, hTj, F', G', hd10, hF', hG', hFG', hj10⟩ := HA10.out
          clear hvx
          have hj10 : JAt w10 j d (nm0 g.key) (rs ++ [encR (layR g)]) (sz + (recB (encR (layR g))).length) false F' := hj10.elim (fun h => h.2) (fun h => absurd hv10.symm h.1)
          have s9 := hB89.size
          have s10 := hTj.size
          have sk := HK.out.1.size
          have s9k := hB9.size
          have hFM' : ∀ k, FM k → ¬ F' k ∧ ¬ G' k := fun k hk => by
            have hl := HQ4.out k (.inl hk)
            have hx := hFX k hk
            refine ⟨fun hf => ?_, fun hg => ?_⟩
            · rcases hF' k hf with h | h
              · exact hx (.inl h)
              · omega
            · rcases hG' k hg with h | h
              · exact hx (.inr h)
              · omega
          have c3 := HT.out.2.2.cells.2.2.2.1
          have c4 := HT.out.2.2.cells.2.2.2.2.1
          have c5 := HT.out.2.2.cells.2.2.2.2.2.1
          have f3 := HT.out.2.2.frozen 3
          have f4 := HT.out.2.2.frozen 4
          have f5 := HT.out.2.2.frozen 5
          obtain ⟨w11, hw11⟩ : ∃ w11, w11 = ((w10.setCell ⟨m, 3, none⟩ (.slice na rn nc)).setCell ⟨m, 4, none⟩ (.int .i64 ((g.top + 1 : Nat) : Int))).setCell ⟨m, 5, none⟩ (.slice ja (g.ps.length + n) jc) := ⟨_, rfl⟩
          have hT11 : Turn (fun k => k = m) w10 w11 := by
            rw [hw11]
            exact ((turn_setCell w10 m 3 _).trans (turn_setCell _ m 4 _) (fun _ _ e => e)).trans (turn_setCell _ m 5 _) (fun _ _ e => e)
          have hbox : w11.heap[m]? = some (.cells #[.pointer (some ⟨d, 0, none⟩), .int .u64 (g.key : Int), .pointer (some ⟨j, 0, none⟩), .slice na rn nc, .int .i64 ((g.top + 1 : Nat) : Int), .slice ja (g.ps.length + n) jc, .bool g.failed] 91 (0, 0)) := by
            rw [hw11]
            exact seven_set HT.out.2.2.box _ _ _
          have s11 := hT11.size
          have hd11 : IsDisk w11 d (layS2 g news S).1 G' := hd10.turn hT11 (fun k hk e => by subst e; exact (hFM' _ HH.out.1.fm).2 hk)
          have hj11 : JAt w11 j d (nm0 g.key) (rs ++ [encR (layR g)]) (sz + (recB (encR (layR g))).length) false F' := hj10.kept s11 (fun k hk => hT11.block k (hj10.lt k hk) (fun e => by subst e; exact (hFM' _ HH.out.1.fm).1 hk))
          have hga : ∀ x, ga = some x → x.spot = none ∧ FM x.block ∧ x.block ≠ m ∧ x.block < w8.heap.size ∧ ∀ i, w8.frozen? ⟨x.block, i, none⟩ = false := HK.out.2.2.2.2.2
          have hTw : Turn (fun k => (FJ k ∨ grow G w4 w8 k) ∨ k = m) w8 w11 := (HT.out.2.1.wide (fun k h => .inl h)).trans hT11 (fun k _ e => .inr e)
          have hkb : Below w8.heap.size w8 wc := HK.out.1
          have hlog : (layO g).length ≤ 4 ∧ ∀ x ∈ layO g, x < 100 := by
            unfold layO
            split
            · exact ⟨hrl, hruns⟩
            · exact ⟨Nat.zero_le _, fun x hx => by cases hx⟩
          have hnsl : (layO g).length = gn := HK.out.2.2.2.1.1
          have hTc : Turn (fun k => FJ k ∨ grow G w4 w8 k) wc w11 ∨ True := .inr trivial
          have hTk : ∀ k, k < w8.heap.size → FM k → k ≠ m → w11.heap[k]? = wc.heap[k]? := fun k hk hf hne => by
            rw [hTw.block k hk (fun e => by rcases e with e | e; exact hFX k hf e; exact hne e)]
            exact (hkb.block k hk).symm
          have hgns : NsV w11 ga gn (layO g) := HK.out.2.2.2.1.blocks (fun h0 x e => hTk _ (hga x e).2.2.2.1 (hga x e).2.1 (hga x e).2.2.1)
          have hrm := remove_anyY w11 m d g.key hkey (by simp [World.cell?, hbox]) (by simp [World.cell?, hbox]) (layS2 g news S).1 G' hd11 (hFM' m HH.out.1.fm).2 ga gn gc (layO g) hgns (by omega) hlog.2 HK.out.2.2.2.2.1
            (fun x e => by
              obtain ⟨h1, h2, h3, h4, h5⟩ := hga x e
              refine ⟨h1, by omega, fun i => ?_, h3, (hFM' _ h2).2⟩
              rw [← h5 i]
              exact World.frozen?_of_block (a := ⟨x.block, i, none⟩) (hTw.block x.block h4 (fun e => by rcases e with e | e; exact hFX _ h2 e; exact h3 e))) (hS2 hv10.symm)
          have HN : Hid (w11.ownsRow 0 3 1 (.slice na rn nc) rn ((layR g).map nV) ∧ ∀ k, (Value.slice na rn nc).ownBlock = some k → w8.heap.size ≤ k ∧ k < wc.heap.size ∧ k ≠ m) := by
            have hb := nrow_block HK.out.2.2.1
            refine ⟨?_, fun k e => ⟨(hb k e).1, (hb k e).2.1, by have := (hb k e).1; omega⟩⟩
            have h1 : w11.ownsRow w8.heap.size 3 1 (.slice na rn nc) rn ((layR g).map nV) := yrow_move HK.out.2.2.1 (fun k e => by
              have hk := hb k e
              have hk9 : k < w9.heap.size := by omega
              rw [hT11.block k (by omega) (by omega), hTj.block k hk9 (fun hx => by
                rcases hx with hx | hx | hx
                · have := HQ4.out k (.inr (.inl hx)); omega
                · have := HQ4.out k (.inr (.inr hx)); omega
                · omega)]
              exact hB9.block k hk.2.1)
            refine ⟨h1.1, ?_⟩
            rcases h1.2 with h0 | ⟨g', cap, cur, e, _, h2⟩
            · exact .inl h0
            · exact .inr ⟨g', cap, cur, e, Nat.zero_le _, h2⟩
          have HP : Hid (w11.ownsRow w.heap.size 39 2 (.slice ja (g.ps.length + n) jc) (g.ps.length + n) (prCells (mergeM g.ps news))) := by
            refine row_movedV H8.out.2.2.2.2.2.1 (fun r hr => ?_)
            have hb := H8.out.2.2.2.2.2.2 r hr
            refine hTw.block r (by omega) (fun e => ?_)
            have := HQ4.out m (.inl HH.out.1.fm)
            rcases e with (e | e | e) | e
            · have := HQ4.out r (.inr (.inl e)); omega
            · have := HQ4.out r (.inr (.inr e)); omega
            · omega
            · omega
          have HE : Hid (0 = (layS2 g news S).2 ∧ rn = (layR g).length ∧ w11.heap[m]? = some (.cells #[.pointer (some ⟨d, 0, none⟩), .int .u64 (g.key : Int), .pointer (some ⟨j, 0, none⟩), .slice na rn nc, .int .i64 ((g.top + 1 : Nat) : Int), .slice ja (g.ps.length + n) jc, .bool g.failed] 91 (0, 0)) ∧ IsDisk w11 d (layS2 g news S).1 G' ∧ JAt w11 j d (nm0 g.key) (rs ++ [encR (layR g)]) (sz + (recB (encR (layR g))).length) false F' ∧ (∀ k, F' k → FJ k ∨ w9.heap.size ≤ k) ∧ (∀ k, G' k → grow G w4 w8 k ∨ w9.heap.size ≤ k) ∧ (∀ k, F' k → ¬ G' k) ∧ Turn (fun k => k = m) w10 w11 ∧ ∀ x, ga = some x → FM x.block ∧ x.block ≠ m ∧ x.block < w.heap.size) := ⟨hv10, HK.out.2.1, hbox, hd11, hj11, hF', hG', hFG', hT11, fun x e => ⟨(hga x e).2.1, (hga x e).2.2.1, HQ4.out _ (.inl (hga x e).2.1)⟩⟩
          clear hv10 hd11 hj11 hF' hG' hFG' hT11 hbox hd10 hj10 hTw hkb hlog hnsl hTc hTk hgns hTj hFM' hga HX8
          go_upto_region 17 with fail
          have hgt : ((g.top : Int) + 1) = ((g.top + 1 : Nat) : Int) := by omega
          rw [hgt, ← hw11]
          clear hw11 hgt c3 c4 c5 f3 f4 f5
          go_wp2_with (go_at_call 40; refine hrm.mono ?_; clear hrm; rintro e w12 ⟨l', hp', hs', rfl, G'', hd12, hG'', hT12⟩)
          have HZ : Hid (LayA Q w m d j g news rs sz S (.returned (.int .i64 (remS g.key (layS2 g news S).1 l').2)) w12) := by
            obtain ⟨hv10, hrn', hbox, hd11, hj11, hF', hG', hFG', hT11, hga⟩ := HE.out
            have s12 := hT12.size
            have hgb : ∀ k, ga.map (·.block) = some k → FM k ∧ k ≠ m ∧ k < w.heap.size := fun k e => by
              cases ga with
              | none => cases e
              | some x => cases e; exact hga x rfl
            have hml' := HQ4.out m (.inl HH.out.1.fm)
            have hGw : ∀ k, k < w8.heap.size → w.heap.size ≤ k → k < w4.heap.size → ¬ G' k := fun k h1 h2 h3 hg => by
              rcases hG' k hg with (h | h) | h
              · have := HQ4.out k (.inr (.inr h)); omega
              · omega
              · omega
            have hGn : ∀ k, w8.heap.size ≤ k → k < w9.heap.size → ¬ G' k := fun k h1 h2 hg => by
              rcases hG' k hg with (h | h) | h
              · have := HQ4.out k (.inr (.inr h)); omega
              · omega
              · omega
            have hGl : ∀ k, k < w.heap.size → G' k → G k := fun k h1 hg => by
              rcases hG' k hg with (h | h) | h
              · exact h
              · omega
              · omega
            have hFl : ∀ k, k < w9.heap.size → F' k → FJ k := fun k h1 hf => by
              rcases hF' k hf with h | h
              · exact h
              · omega
            have hmG : ¬ G' m := fun hg => (HH.out.2.2.2.1 m HH.out.1.fm).2 (hGl m hml' hg)
            have hnk : ∀ k, (Value.slice na rn nc).ownBlock = some k → ¬ (G' k ∨ ga.map (·.block) = some k) := fun k e hx => by
              have hb := HN.out.2 k e
              rcases hx with hx | hx
              · exact hGn k hb.1 (by omega) hx
              · have := (hgb k hx).2.2; omega
            have hjk : ∀ k, (Value.slice ja (g.ps.length + n) jc).ownBlock = some k → ¬ (G' k ∨ ga.map (·.block) = some k) := fun k e hx => by
              have hb := H8.out.2.2.2.2.2.2 k e
              rcases hx with hx | hx
              · exact hGw k (by omega) hb.1 hb.2 hx
              · have := (hgb k hx).2.2; omega
            have hTT : Turn Q w w12 := by
              refine ((HT.out.1.wide (Gp := Q) (fun k hk => hk.elim (fun h => HH.out.2.2.2.2.2.1 k (.inr (.inl h))) (fun h => HH.out.2.2.2.2.2.1 k (.inr (.inr h))))).trans (hT11.wide (Gp := Q) (fun k e => by subst e; exact HH.out.2.2.2.2.2.1 _ (.inl HH.out.1.fm))) (fun _ _ e => e)).trans hT12 (fun k hk hx => ?_)
              rcases hx with hx | hx
              · exact HH.out.2.2.2.2.2.1 k (.inr (.inr (hGl k hk hx)))
              · exact HH.out.2.2.2.2.2.1 k (.inl (hgb k hx).1)
            obtain ⟨ja', jc', e', hpv, hpl⟩ := own_prv HP.out
            cases e'
            have hps : (layG g news).ps.length = g.ps.length + n := hpl
            have hrs : (layG g news).runs.length = rn := hrn'.symm
            refine ⟨hTT, _, layG g news, rs ++ [encR (layR g)], sz + (recB (encR (layR g))).length, false, _, rfl, .inr (.inr ⟨H8.out.1, hv10.symm, l', hp', hs', rfl, rfl, rfl, rfl, rfl, rfl⟩), .slice na rn nc, ja, jc, fun k => k = m ∨ (Value.slice na rn nc).ownBlock = some k ∨ (Value.slice ja (g.ps.length + n) jc).ownBlock = some k, F', G'', ?_, ?_, hd12, ?_, ?_, ?_⟩
            · refine ⟨?_, ?_, ?_, ?_, ?_, ?_, .inl rfl, fun k e => ⟨.inr (.inl e), (HN.out.2 k e).2.2⟩, ?_, ?_⟩
              · rw [hps]
                exact (hT12.block m (by omega) (fun hx => hx.elim hmG (fun h => (hgb m h).2.1 rfl))).trans hbox
              · rw [hrs]
                exact yrow_move HN.out.1 (fun k e => hT12.block k (by have := HN.out.2 k e; omega) (hnk k e))
              · rw [hps]
                exact hpv.blocks (fun h0 x e => by
                  subst e
                  exact hT12.block _ (by have := H8.out.2.2.2.2.2.2 x.block rfl; omega) (hjk x.block rfl))
              · exact mergeM_ris _ _ HH.out.1.ris hr hdj
              · exact mergeM_ok HH.out.1.ok hok
              · rw [hps]; omega
              · rw [hps]
                intro h0 x e
                subst e
                exact ⟨.inr (.inr rfl), by have := (H8.out.2.2.2.2.2.2 x.block rfl).1; show x.block ≠ m; omega⟩
              · rintro k (rfl | e | e)
                · omega
                · have := HN.out.2 k e; omega
                · have := H8.out.2.2.2.2.2.2 k e; omega
            · exact hj11.kept s12 (fun k hk => hT12.block k (hj11.lt k hk) (fun hx => by
                rcases hx with hx | hx
                · exact hFG' k hk hx
                · have z := hgb k hx
                  exact (HH.out.2.2.2.1 k z.1).1 (hFl k (by omega) hk)))
            · rintro k hk
              have hlow : (k = m ∨ (w8.heap.size ≤ k ∧ k < w9.heap.size) ∨ (w.heap.size ≤ k ∧ k < w4.heap.size)) := by
                rcases hk with h | h | h
                · exact .inl h
                · have := HN.out.2 k h; exact .inr (.inl ⟨this.1, by omega⟩)
                · exact .inr (.inr (H8.out.2.2.2.2.2.2 k h))
              refine ⟨fun hf => ?_, fun hg => ?_⟩
              · have hf := hFl k (by omega) hf
                have := HQ4.out k (.inr (.inl hf))
                rcases hlow with rfl | h | h
                · exact (HH.out.2.2.2.1 _ HH.out.1.fm).1 hf
                · omega
                · omega
              · rcases hG'' k hg with hg | hg
                · rcases hlow with rfl | h | h
                  · exact hmG hg
                  · exact hGn k h.1 h.2 hg
                  · exact hGw k (by omega) h.1 h.2 hg
                · omega
            · intro k hk hg
              rcases hG'' k hg with hg | hg
              · exact hFG' k hk hg
              · have := hj11.lt k hk; omega
            · have hb12 := hd12.lt
              rintro k (h | h | h)
              · rcases h with rfl | h | h
                · exact .inl (HH.out.2.2.2.2.2.1 _ (.inl HH.out.1.fm))
                · have := HN.out.2 k h; exact .inr ⟨by omega, by omega⟩
                · have := H8.out.2.2.2.2.2.2 k h; exact .inr ⟨by omega, by omega⟩
              · have := hj11.lt k h
                rcases hF' k h with h | h
                · exact .inl (HH.out.2.2.2.2.2.1 k (.inr (.inl h)))
                · exact .inr ⟨by omega, by omega⟩
              · have := hb12 k h
                by_cases hkw : k < w.heap.size
                · rcases hG'' k h with h | h
                  · exact .inl (HH.out.2.2.2.2.2.1 k (.inr (.inr (hGl k hkw h))))
                  · omega
                · exact .inr ⟨by omega, by omega⟩
          clear hp' hs' hd12 hG'' hT12
          go_wp2
          go_ret
          exact HZ.out
        · have i10 : (er10 != 0) = true := by simpa using he10
          have HZ : Hid (LayA Q w m d j g news rs sz S (.returned (.int .i64 er10)) w10) := by
            obtain ⟨_, hTj, F', G', hd10, hF', hG', hFG', hj10⟩ := HA10.out
            have hj10 := hj10.elim (fun h => absurd (hv10.trans h.1) he10) (fun h => h.2)
            have s9 := hB89.size
            have s10 := hTj.size
            have hT8 : Turn (fun k => FJ k ∨ grow G w4 w8 k) w8 w10 := (Turn.of_below _ hB89).trans hTj (fun _ _ e => e)
            have hTT : Turn Q w w10 := (H8.out.2.1.wide (Gp := Q) (fun k h => HH.out.2.2.2.2.2.1 k (.inr (.inr h)))).trans hT8 (fun k hk hx => by
              rcases hx with hx | hx | hx
              · exact HH.out.2.2.2.2.2.1 k (.inr (.inl hx))
              · exact HH.out.2.2.2.2.2.1 k (.inr (.inr hx))
              · omega)
            refine ⟨hTT, er10, g, rs, sz, decide ((layS2 g news S).2 = 6), (layS2 g news S).1, rfl, .inr (.inl ⟨H8.out.1, by rw [← hv10]; exact he10, hv10, rfl, rfl, rfl, rfl, rfl⟩), _, pa, pc, FM, F', G', H8.out.2.2.2.2.1.turn hT8 hFX, hj10, hd10, fun k hk => ⟨fun hf => ?_, fun hg => ?_⟩, hFG', fun k hk => ?_⟩
            · have hl := HQ4.out k (.inl hk)
              rcases hF' k hf with h | h
              · exact hFX k hk (.inl h)
              · omega
            · have hl := HQ4.out k (.inl hk)
              rcases hG' k hg with h | h
              · exact hFX k hk (.inr h)
              · omega
            · rcases hk with hk | hk | hk
              · exact .inl (HH.out.2.2.2.2.2.1 k (.inl hk))
              · have := hj10.lt k hk
                rcases hF' k hk with h | h
                · exact .inl (HH.out.2.2.2.2.2.1 k (.inr (.inl h)))
                · exact .inr ⟨by omega, by omega⟩
              · have := hd10.lt k hk
                rcases hG' k hk with (h | h) | h
                · exact .inl (HH.out.2.2.2.2.2.1 k (.inr (.inr h)))
                · exact .inr ⟨by omega, by omega⟩
                · exact .inr ⟨by omega, by omega⟩
          clear hFX hll hlx hle
          go_wp2
          go_ret
          exact HZ.out
    · have i9 : (er9 != 0) = true := by simpa using he9
      have i9b : (er9 == 0) = false := by simpa using he9
      have HZ : Hid (LayA Q w m d j g news rs sz S (.returned (.int .i64 er9)) w8) := by
        have hs4 := HR4.out.2.2.2.2.1.size
        have hT : Turn G w w8 := (Turn.of_below G HR4.out.2.2.2.2.1).trans hT9 (fun _ _ e => e)
        refine ⟨hT.wide (fun k hk => HH.out.2.2.2.2.2.1 k (.inr (.inr hk))), er9, g, rs, sz, false, (layS1 g news S).1, rfl, .inl ⟨by rw [← hv9]; exact he9, hv9, rfl, rfl, rfl, rfl, rfl⟩, _, pa, pc, FM, FJ, grow G w4 w8, HH.out.1.turn hT (fun k hk => (HH.out.2.2.2.1 k hk).2), HH.out.2.1.kept hT.size (fun k hk => hT.block k (HH.out.2.1.lt k hk) (HH.out.2.2.2.2.1 k hk)), hD9, fun k hk => ⟨(HH.out.2.2.2.1 k hk).1, fun hg => ?_⟩, fun k hk hg => ?_, fun k hk => ?_⟩
        · rcases hg with hg | hg
          · exact (HH.out.2.2.2.1 k hk).2 hg
          · have := HQ4.out k (.inl hk); omega
        · rcases hg with hg | hg
          · exact HH.out.2.2.2.2.1 k hk hg
          · have := HQ4.out k (.inr (.inl hk)); omega
        · rcases hk with hk | hk | hk | hk
          · exact .inl (HH.out.2.2.2.2.2.1 k (.inl hk))
          · exact .inl (HH.out.2.2.2.2.2.1 k (.inr (.inl hk)))
          · exact .inl (HH.out.2.2.2.2.2.1 k (.inr (.inr hk)))
          · exact .inr (by omega)
      clear HA9 hv9 hD9 hT9
      go_wp2
      go_ret
      exact HZ.out
end Go.Proofs.YtdjodigimhgklaaGreatDoor
