import Derived.Test.YtdjodigimhgklaaGreatDoorMD31
import Derived.Test.YtdjodigimhgklaaGreatDoorMD10
/- The memo's readRuns: the pairs of the runs that count. -/
namespace Go.Proofs.YtdjodigimhgklaaGreatDoor
open Go.RowKit Go.Shelf Go.Maps

attribute [local go_sem] Oper.semAt_some

set_option maxRecDepth 20000 in
theorem ystep_read (w : World) {ops : Array Oper} {o : Oper} {a : Act} {K : Act → World → Prop} {Q : Exit → Act → World → Prop} {E : Prop} (hw : Region.wanted o (yielded ops a.tmps) = true) (x0 x1 : Nat) (ty0 ty1 : TypeId)
    (ho : o.op = .call { callee := .value (.func 19), args := #[.tmp x0, .tmp x1], argTypes := #[ty0, ty1] }) (vx0 vx1 : Value) (hx0 : a.tmps[x0]?.getD undef = vx0) (hx1 : a.tmps[x1]?.getD undef = vx1) (R : Value → World → Prop)
    (hc : Calls Tryz.prog 19 #[vx0, vx1] w fun e w' => ∃ v, e = .returned v ∧ R v w') (hK : ∀ v w', R v w' → K (a.put o.dst v) w') :
    if Region.wanted o (yielded ops a.tmps) = true then Oper.wp Tryz.prog o a w K Q else E := by
  rw [if_pos hw]
  unfold Oper.wp execOp
  simp [ho, resolve, invoke, go_sem, hx0, hx1]
  refine hc.mono ?_
  rintro e w' ⟨v, rfl, hR⟩
  have := hK v w' hR
  simpa [go_sem] using this
/-- the pairs of runs, each behind those ahead of it; none: a run is not there or wrong, or it says a From again -/
def rrL (key : Nat) (S : DG) : List Nat → List Pr → Option (List Pr)
  | [], ps => some ps
  | x :: r, ps => match pairsR (S.bs (nmB key x)) with
    | none => none
    | some l => match newsR ps [] l with
      | none => none
      | some out => if out.length = l.length then rrL key S r (mergeM ps out) else none
theorem rrL_len (key : Nat) (S : DG) : ∀ (l : List Nat) (ps P : List Pr), rrL key S l ps = some P → P.length ≤ ps.length + 65536 * l.length
  | [], ps, P, h => by cases h; simp
  | x :: r, ps, P, h => by
    simp only [rrL] at h
    split at h
    · cases h
    · rename_i l hl
      split at h
      · cases h
      · rename_i out ho
        split at h
        · have h1 := rrL_len key S r _ P h
          have h2 := mergeM_len ps out
          have h3 := (pairs_good hl).1.len
          rw [List.length_cons]
          omega
        · cases h
theorem MeAt.pairs {w w' : World} {m d j : Nat} {g : Me} {vr : Value} {pa : Option Addr} {pc : Nat} {F : Nat → Prop} (h : MeAt w m d j g vr pa pc F) (hB : Below w.heap.size w w') {ja : Option Addr} {jc : Nat} {P : List Pr} (hP : PrV w' ja P.length jc P) (hr : Ris P) (hok : PrOk P) (hs : P.length ≤ 1000000) (hj : ∀ x, ja = some x → w.heap.size ≤ x.block ∧ x.block < w'.heap.size) :
    MeAt (w'.setCell ⟨m, 5, none⟩ (.slice ja P.length jc)) m d j { g with ps := P } vr ja jc (fun k => F k ∨ ja.map (·.block) = some k) := by
  have h' := h.below hB
  have hT := turn_setCell w' m 5 (.slice ja P.length jc)
  have hb := h'.box
  have hml := h.mlt
  exact {
    box := by simp [World.setCell, Array.getElem?_modify, hb, Array.setIfInBounds]
    row := yrow_move h'.row fun k e => hT.block k (h'.lt k (h'.fr k e).1) (h'.fr k e).2
    prs := hP.blocks fun h0 x e => hT.block _ (hj x e).2 (by have := (hj x e).1; omega)
    ris := hr
    ok := hok
    small := hs
    fm := .inl h'.fm
    fr := fun k e => ⟨.inl (h'.fr k e).1, (h'.fr k e).2⟩
    fp := fun h0 x e => ⟨.inr (by rw [e]; rfl), by have := (hj x e).1; omega⟩
    lt := fun k hk => by
      have hs := hT.size
      rcases hk with hk | hk
      · have := h'.lt k hk; omega
      · cases ja with
        | none => cases hk
        | some x => cases hk; have := (hj x rfl).2; show x.block < _; omega }
/-- what readRuns answers -/
def RunsA (w : World) (m d j : Nat) (g : Me) (vr : Value) (F : Nat → Prop) (R : Option (List Pr)) (e : Ending) (w' : World) : Prop :=
  e = .returned (.bool R.isSome) ∧ Turn (fun k => k = m) w w' ∧ ∀ P, R = some P → ∃ pa pc F', MeAt w' m d j { g with ps := P } vr pa pc F' ∧ ∀ k, F' k → F k ∨ w.heap.size ≤ k

set_option maxRecDepth 100000 in
set_option maxHeartbeats 8000000 in
theorem readRuns_any (w : World) (m d j : Nat) (g : Me) (vr : Value) (pa : Option Addr) (pc : Nat) (F : Nat → Prop) (h : MeAt w m d j g vr pa pc F) (S : DG) (G : Nat → Prop) (hd : IsDisk w d S G) (hG : ∀ k, F k → ¬ G k)
    (hkey : g.key < 18446744073709551616) (hruns : ∀ x ∈ g.runs, x < 100) (hrl : g.runs.length ≤ 4) (hps : g.ps.length ≤ 65536) (hbs : ∀ x ∈ g.runs, (S.bs (nmB g.key x)).length ≤ 4194304) :
    Calls Tryz.prog 39 #[.pointer (some ⟨m, 0, none⟩)] w (RunsA w m d j g vr F (rrL g.key S g.runs g.ps)) := by
  have hmx : Tryz.prog.follows .mixedOrders = true := by kernel_rfl
  obtain ⟨ra, rc, rfl, hrc, hrn⟩ := nrow_shape h.row
  obtain ⟨c0, c1, c2, c3, c4, c5, c6⟩ := h.cells
  have HH : Hid (MeAt w m d j g (.slice ra g.runs.length rc) pa pc F ∧ IsDisk w d S G ∧ ¬ G m) := ⟨h, hd, hG m h.fm⟩
  have hFl := h.lt
  clear h hd c0 c1 c2 c4 c5 c6 hrn hrc
  obtain ⟨N, hN⟩ : ∃ N, N = g.runs.length := ⟨_, rfl⟩
  have HN : Hid (N = g.runs.length) := hN
  rw [← hN] at c3 hrl
  go_enter Tryz.func39, Tryz.ntmps39
  go_wp2_with fail
  rw [← hN]
  clear hN c3
  go_loopw [15] (fun i wr => ∃ (k : Nat), k ≤ N ∧ i = .int .i64 (k : Int) ∧ Hid (∃ P pa pc F', MeAt wr m d j { g with ps := P } (.slice ra g.runs.length rc) pa pc F' ∧ (∀ k, F' k → F k ∨ w.heap.size ≤ k) ∧ Turn (fun k => k = m) w wr ∧ P.length ≤ 65536 + 65536 * k ∧ rrL g.key S g.runs g.ps = rrL g.key S (g.runs.drop k) P)) (fun i _ => N - (intOf i).toNat)
  case atStart => exact ⟨0, Nat.zero_le _, rfl, g.ps, pa, pc, F, HH.out.1, fun k hk => .inl hk, Turn.refl _ _, by omega, by rw [List.drop_zero]⟩
  case round =>
    obtain ⟨k, hk, rfl, H0⟩ := hrel
    obtain ⟨P, pa', pc', F', hM, hF', hT, hPl, hR⟩ := H0.out
    clear H0
    have hsw := hT.size
    by_cases hlt : k < N
    · obtain ⟨x, hx⟩ : ∃ x, g.runs[k]? = some x := ⟨_, List.getElem?_eq_getElem (by rw [← HN.out]; exact hlt)⟩
      have hxm := List.mem_of_getElem? hx
      have hx100 := hruns x hxm
      have hxbs := hbs x hxm
      obtain ⟨b1, o1, rfl, hc1⟩ := (nrow_ns hM.row).2 (by show 0 < g.runs.length; rw [← HN.out]; omega)
      have t1 := hc1 k x hx
      have i1 : (k : Int) < (N : Int) := by omega
      have i2 : ¬ N ≤ k := by omega
      have hdr : g.runs.drop k = x :: g.runs.drop (k + 1) := by
        have hkl : k < g.runs.length := by rw [← HN.out]; exact hlt
        rw [List.drop_eq_getElem_cons hkl]
        congr 1
        rw [List.getElem?_eq_getElem hkl] at hx
        exact Option.some.inj hx
      rw [hdr, rrL] at hR
      have HM : Hid (∀ Y, Below wr.heap.size wr Y → Y.cell? ⟨m, 0, none⟩ = some (.pointer (some ⟨d, 0, none⟩)) ∧ Y.cell? ⟨m, 1, none⟩ = some (.int .u64 (g.key : Int))) := fun Y hY => by
        obtain ⟨q0, q1, _⟩ := (hM.below hY).cells
        exact ⟨q0, q1⟩
      have HX : Hid (MeAt wr m d j { g with ps := P } (.slice (some ⟨b1, o1, none⟩) g.runs.length rc) pa' pc' F' ∧ (∀ k, F' k → F k ∨ w.heap.size ≤ k) ∧ Turn (fun k => k = m) w wr ∧ P.length ≤ 65536 + 65536 * k) := ⟨hM, hF', hT, hPl⟩
      have HR : Hid (rrL g.key S g.runs g.ps = match pairsR (S.bs (nmB g.key x)) with
        | none => none
        | some l => match newsR P [] l with
          | none => none
          | some out => if out.length = l.length then rrL g.key S (g.runs.drop (k + 1)) (mergeM P out) else none) := hR
      have hdw : IsDisk wr d S G := HH.out.2.1.turn hT (fun k hk e => by subst e; exact HH.out.2.2 hk)
      have HD : Hid (IsDisk wr d S G) := hdw
      clear hM hF' hT hPl hR hc1 hx hdr hdw hxm
      go_upto_region 4 with fail
      refine wp_region_G (S := SB 1000 (fun _ => True) (fun Y => Y.cell? ⟨m, 0, none⟩ = some (.pointer (some ⟨d, 0, none⟩)) ∧ Y.cell? ⟨m, 1, none⟩ = some (.int .u64 (g.key : Int)))) hmx ?_
      have hBd : Below wr.heap.size wr wr.drew := ⟨rfl, rfl, rfl, Nat.le_refl _, fun _ _ => rfl⟩
      have hSB : SB 1000 (fun _ => True) (fun Y => Y.cell? ⟨m, 0, none⟩ = some (.pointer (some ⟨d, 0, none⟩)) ∧ Y.cell? ⟨m, 1, none⟩ = some (.int .u64 (g.key : Int))) (Array.replicate 16 false) wr.drew := SB.on trivial (HM.out _ hBd)
      refine wpAnyG_takeP (i := 0) (v := ?_) rfl (by kernel_rfl) (by kernel_rfl) (by kernel_rfl) (fun _ _ _ h => h) rfl (Or.inl ⟨by rfl, ?_⟩) (by assumption) ?_
      rotate_left
      · intro Y _; go_simp; try with_reducible rfl
      intro hSB0
      try simp only [Act.put, List.getElem_toArray, List.getElem_cons_zero, List.setIfInBounds_toArray, List.set_cons_zero, List.set_cons_succ]
      refine wpAnyG_takeP (i := 1) (v := ?_) rfl (by kernel_rfl) (by kernel_rfl) (by kernel_rfl) (fun _ _ _ h => h) rfl (Or.inl ⟨by rfl, ?_⟩) (by assumption) ?_
      rotate_left
      · intro Y _; go_simp; try with_reducible rfl
      intro hSB1
      try simp only [Act.put, List.getElem_toArray, List.getElem_cons_zero, List.getElem_cons_succ, List.setIfInBounds_toArray, List.set_cons_zero, List.set_cons_succ]
      refine wpAnyG_takeP (i := 2) (v := ?_) rfl (by kernel_rfl) (by kernel_rfl) (by kernel_rfl) (fun _ _ _ h => h) rfl (Or.inl ⟨by rfl, ?_⟩) (by assumption) ?_
      rotate_left
      · intro Y _; go_simp; try with_reducible rfl
      intro hSB2
      try simp only [Act.put, List.getElem_toArray, List.getElem_cons_zero, List.getElem_cons_succ, List.setIfInBounds_toArray, List.set_cons_zero, List.set_cons_succ]
      refine wpAnyG_takeP (i := 3) (v := ?_) rfl (by kernel_rfl) (by kernel_rfl) (by kernel_rfl) (fun _ _ _ h => h) rfl (Or.inl ⟨by rfl, ?_⟩) (by assumption) ?_
      rotate_left
      · intro Y hY; obtain ⟨y1, y2⟩ := hY; go_simp; try with_reducible rfl
      intro hSB3
      try simp only [Act.put, List.getElem_toArray, List.getElem_cons_zero, List.getElem_cons_succ, List.setIfInBounds_toArray, List.set_cons_zero, List.set_cons_succ]
      refine wpAnyG_takeP (i := 4) (v := ?_) rfl (by kernel_rfl) (by kernel_rfl) (by kernel_rfl) (fun _ _ _ h => h) rfl (Or.inl ⟨by rfl, ?_⟩) (by assumption) ?_
      rotate_left
      · intro Y _; go_simp; try with_reducible rfl
      intro hSB4
      try simp only [Act.put, List.getElem_toArray, List.getElem_cons_zero, List.getElem_cons_succ, List.setIfInBounds_toArray, List.set_cons_zero, List.set_cons_succ]
      refine wpAnyG_takeP (i := 5) (v := ?_) rfl (by kernel_rfl) (by kernel_rfl) (by kernel_rfl) (fun _ _ _ h => h) rfl (Or.inl ⟨by rfl, ?_⟩) (by assumption) ?_
      rotate_left
      · intro Y _; go_simp; try with_reducible rfl
      intro hSB5
      try simp only [Act.put, List.getElem_toArray, List.getElem_cons_zero, List.getElem_cons_succ, List.setIfInBounds_toArray, List.set_cons_zero, List.set_cons_succ]
      refine wpAnyG_takeP (i := 6) (v := ?_) rfl (by kernel_rfl) (by kernel_rfl) (by kernel_rfl) (fun _ _ _ h => h) rfl (Or.inl ⟨by rfl, ?_⟩) (by assumption) ?_
      rotate_left
      · intro Y _; go_simp; try with_reducible rfl
      intro hSB6
      try simp only [Act.put, List.getElem_toArray, List.getElem_cons_zero, List.getElem_cons_succ, List.setIfInBounds_toArray, List.set_cons_zero, List.set_cons_succ]
      refine wpAnyG_takeP (i := 7) (v := ?_) rfl (by kernel_rfl) (by kernel_rfl) (by kernel_rfl) (fun _ _ _ h => h) rfl (Or.inl ⟨by rfl, ?_⟩) (by assumption) ?_
      rotate_left
      · intro Y hY; obtain ⟨y1, y2⟩ := hY; go_simp; try with_reducible rfl
      intro hSB7
      try simp only [Act.put, List.getElem_toArray, List.getElem_cons_zero, List.getElem_cons_succ, List.setIfInBounds_toArray, List.set_cons_zero, List.set_cons_succ]
      refine wpAnyG_takeP (i := 8) (v := ?_) rfl (by kernel_rfl) (by kernel_rfl) (by kernel_rfl) (fun _ _ _ h => h) rfl (Or.inl ⟨by rfl, ?_⟩) (by assumption) ?_
      rotate_left
      · intro Y _; go_simp; try with_reducible rfl
      intro hSB8
      try simp only [Act.put, List.getElem_toArray, List.getElem_cons_zero, List.getElem_cons_succ, List.setIfInBounds_toArray, List.set_cons_zero, List.set_cons_succ]
      refine wpAnyG_one (i := 9) (by kernel_rfl) rfl (fun K hK => ?_)
      refine ystep_name _ (by rfl) _ _ _ _ (by rfl) _ _ (by rfl) (by rfl) (fun v W => v = .string ⟨(nmB g.key x).toArray⟩ ∧ Below wr.heap.size wr W) ((fileName_any g.key x wr.drew hkey hx100).mono (fun e w' h => ⟨_, h.1, rfl, hBd.trans h.2⟩)) ?_
      rintro v w7 ⟨rfl, hB7⟩
      refine hK.out _ _ (SB.on trivial (HM.out _ hB7)) (fun hSB9 => ?_)
      clear hK K
      try simp only [Act.put, List.getElem_toArray, List.getElem_cons_zero, List.getElem_cons_succ, List.setIfInBounds_toArray, List.set_cons_zero, List.set_cons_succ]
      have hrd := read_any d S G w7 ⟨(nmB g.key x).toArray⟩ (HD.out.below hB7) (Nat.le_trans (nm_len g.key x hx100) (by decide)) (by rw [nm_list]; omega)
      rw [nm_list] at hrd
      refine wpAnyG_one (i := 10) (by kernel_rfl) rfl (fun K hK => ?_)
      refine ystep_read _ (by rfl) _ _ _ _ (by rfl) _ _ (by rfl) (by rfl) (fun v W => ∃ (ba : Option Addr) (bc : Nat), v = .tuple #[.slice ba (S.bs (nmB g.key x)).length bc, .int .i64 (S.err (nmB g.key x))] ∧ W.ownsRow w7.heap.size 5 1 (.slice ba (S.bs (nmB g.key x)).length bc) (S.bs (nmB g.key x)).length (cellsOf (S.bs (nmB g.key x))) ∧ Below wr.heap.size wr W) (hrd.mono (fun e w' h => by obtain ⟨a, c, h1, h2, h3, _⟩ := h; exact ⟨_, h1, a, c, rfl, h2, hB7.trans (h3.mono hB7.size)⟩)) ?_
      rintro v w8 ⟨ba, bc, rfl, hown8, hB8⟩
      refine hK.out _ _ (SB.on trivial (HM.out _ hB8)) (fun hSB10 => ?_)
      clear hK K
      try simp only [Act.put, List.getElem_toArray, List.getElem_cons_zero, List.getElem_cons_succ, List.setIfInBounds_toArray, List.set_cons_zero, List.set_cons_succ]
      refine wpAnyG_takeP (i := 11) (v := ?_) rfl (by kernel_rfl) (by kernel_rfl) (by kernel_rfl) (fun _ _ _ h => h) rfl (Or.inl ⟨by rfl, ?_⟩) (by assumption) ?_
      rotate_left
      · intro Y _; go_simp; try with_reducible rfl
      intro hSB11
      try simp only [Act.put, List.getElem_toArray, List.getElem_cons_zero, List.getElem_cons_succ, List.setIfInBounds_toArray, List.set_cons_zero, List.set_cons_succ]
      refine wpAnyG_takeP (i := 12) (v := ?_) rfl (by kernel_rfl) (by kernel_rfl) (by kernel_rfl) (fun _ _ _ h => h) rfl (Or.inl ⟨by rfl, ?_⟩) (by assumption) ?_
      rotate_left
      · intro Y _; go_simp; try with_reducible rfl
      intro hSB12
      try simp only [Act.put, List.getElem_toArray, List.getElem_cons_zero, List.getElem_cons_succ, List.setIfInBounds_toArray, List.set_cons_zero, List.set_cons_succ]
      refine wpAnyG_takeP (i := 13) (v := ?_) rfl (by kernel_rfl) (by kernel_rfl) (by kernel_rfl) (fun _ _ _ h => h) rfl (Or.inl ⟨by rfl, ?_⟩) (by assumption) ?_
      rotate_left
      · intro Y _; go_simp; try with_reducible rfl
      intro hSB13
      try simp only [Act.put, List.getElem_toArray, List.getElem_cons_zero, List.getElem_cons_succ, List.setIfInBounds_toArray, List.set_cons_zero, List.set_cons_succ]
      refine wpAnyG_takeP (i := 14) (v := ?_) rfl (by kernel_rfl) (by kernel_rfl) (by kernel_rfl) (fun _ _ _ h => h) rfl (Or.inl ⟨by rfl, ?_⟩) (by assumption) ?_
      rotate_left
      · intro Y _; go_simp; try with_reducible rfl
      intro hSB14
      try simp only [Act.put, List.getElem_toArray, List.getElem_cons_zero, List.getElem_cons_succ, List.setIfInBounds_toArray, List.set_cons_zero, List.set_cons_succ]
      refine wpAnyG_takeP (i := 15) (v := ?_) rfl (by kernel_rfl) (by kernel_rfl) (by kernel_rfl) (fun _ _ _ h => h) rfl (Or.inl ⟨by rfl, ?_⟩) (by assumption) ?_
      rotate_left
      · intro Y _; go_simp; try with_reducible rfl
      intro hSB15
      try simp only [Act.put, List.getElem_toArray, List.getElem_cons_zero, List.getElem_cons_succ, List.setIfInBounds_toArray, List.set_cons_zero, List.set_cons_succ]
      refine wpAnyG_done (by kernel_rfl) ?_ _
      clear hSB hSB0 hSB1 hSB2 hSB3 hSB4 hSB5 hSB6 hSB7 hSB8 hSB9 hSB10 hSB11 hSB12 hSB13 hSB14 hSB15
      clear hrd hBd
      have HB : Hid (Below wr.heap.size wr w8) := hB8
      obtain ⟨hby, hbn, hbc⟩ := own_slice hown8
      have hck := vcheck_any w8 ba (S.bs (nmB g.key x)).length bc (S.bs (nmB g.key x)) hby (fun e => (hbn e).1) hbc (by omega)
      have hnw : ∀ Y, Below w8.heap.size w8 Y → Calls Tryz.prog 42 #[.pointer (some ⟨m, 0, none⟩), .slice ba (S.bs (nmB g.key x)).length bc] Y (NewsA Y P (eachL (S.bs (nmB g.key x)))) := fun Y hY => news_anyY Y m d j { g with ps := P } _ pa' pc' F' (HX.out.1.below (HB.out.trans (hY.mono HB.out.size))) ba (S.bs (nmB g.key x)).length bc (S.bs (nmB g.key x)) (vbytes_below hby hY) (fun e => (hbn e).1) hbc (by omega)
      have HNW : Hid (∀ Y, Below w8.heap.size w8 Y → Calls Tryz.prog 42 #[.pointer (some ⟨m, 0, none⟩), .slice ba (S.bs (nmB g.key x)).length bc] Y (NewsA Y P (eachL (S.bs (nmB g.key x))))) := hnw
      clear hby hbn hbc hnw hown8 hB8 hxbs
      obtain ⟨b, hb⟩ : ∃ b, b = S.bs (nmB g.key x) := ⟨_, rfl⟩
      rw [← hb] at hck HNW HR ⊢
      obtain ⟨BL, hBL⟩ : ∃ BL, BL = b.length := ⟨_, rfl⟩
      rw [← hBL] at hck HNW ⊢
      clear hb hBL
      go_wp2_with fail
      refine hck.mono ?_
      clear hck
      rintro e w9 ⟨kk, er9, rfl, hcase, hB9⟩
      have HB9 : Hid (Below w8.heap.size w8 w9 ∧ Below wr.heap.size wr w9) := ⟨hB9, HB.out.trans (hB9.mono HB.out.size)⟩
      clear hB9
      have hfail : ∀ (W : World), Below wr.heap.size wr W → rrL g.key S g.runs g.ps = none → RunsA w m d j g (.slice (some ⟨b1, o1, none⟩) g.runs.length rc) F (rrL g.key S g.runs g.ps) (.returned (.bool false)) W := fun W hW e => by
        rw [e]
        exact ⟨rfl, HX.out.2.2.1.trans (Turn.of_below _ hW) (fun _ _ e => e), fun P hP => by cases hP⟩
      rcases hcase with ⟨hp0, rfl, rfl⟩ | ⟨l, hp0, rfl, rfl⟩
      · have HZ : Hid _ := hfail w9 HB9.out.2 (by rw [HR.out, hp0])
        clear hfail hp0
        go_wp2
        go_ret
        obtain rfl := HN.out
        exact HZ.out
      · have hnw := HNW.out w9 HB9.out.1
        rw [show eachL b = l from by unfold eachL; rw [hp0]; rfl] at hnw
        have HG : Hid (GoodV l ∧ pairsR b = some l) := ⟨(pairs_good hp0).1, hp0⟩
        have hll := HG.out.1.len
        clear hp0
        go_wp2_with fail
        refine hnw.mono ?_
        clear hnw
        rintro e w10 ⟨hB10, hcase⟩
        have HB10 : Hid (Below wr.heap.size wr w10) := HB9.out.2.trans (hB10.mono HB9.out.2.size)
        clear hB10
        rcases hcase with ⟨hnn, rfl⟩ | ⟨out, oa, oc, hnn, rfl, hown⟩
        · have HZ : Hid _ := hfail w10 HB10.out (by rw [HR.out, HG.out.2]; simp only [hnn])
          clear hfail hnn
          go_wp2
          go_ret
          obtain rfl := HN.out
          exact HZ.out
        · have hol : out.length ≤ l.length := by have := newsR_len P l [] out hnn; simpa using this
          by_cases hne : out.length = l.length
          · have j1 : ((out.length : Int) != (l.length : Int)) = false := by simp [hne]
            obtain ⟨oa', oc', e', hpv, _⟩ := own_prv hown
            cases e'
            obtain ⟨f, ef, hsub, hno⟩ := newsR_facts P l [] out hnn
            rw [List.nil_append] at ef
            subst ef
            have hris := (risF_iff l 0).1 HG.out.1.ris
            have hM10 := HX.out.1.below HB10.out
            have hPl := HX.out.2.2.2
            have hjo := yjoin_any w10 pa' oa P.length pc' out.length oc P out hM10.prs hpv hM10.ris hM10.small (by omega)
            have q5 := hM10.cells.2.2.2.2.2.1
            have f5 := hM10.frozen 5
            have HO : Hid (Ris out ∧ PrOk out ∧ (∀ p ∈ out, lookP P p.1 = none) ∧ rrL g.key S g.runs g.ps = rrL g.key S (g.runs.drop (k + 1)) (mergeM P out)) := ⟨hris.1.sublist hsub, fun p hp => HG.out.1.ok p (hsub.subset hp), hno, by rw [HR.out, HG.out.2]; simp only [hnn]; rw [if_pos hne]⟩
            have hon : out.length ≤ 65536 := by omega
            clear hfail hnn hown hpv hsub hno hris hM10 hne
            simp only at q5
            go_wp2_with fail
            refine hjo.mono ?_
            clear hjo q5
            rintro e w11 ⟨ja, jc, rfl, hown, hB11⟩
            have hB11' := HB10.out.trans (hB11.mono HB10.out.size)
            have hM11 := HX.out.1.below hB11'
            have q5 := hM11.cells.2.2.2.2.2.1
            have f5 := hM11.frozen 5
            have hlen := mergeM_len P out
            obtain ⟨ja', jc', e', hpv, _⟩ := own_prv hown
            cases e'
            rw [← hlen] at hpv
            have hrb := row_blockV hown
            have HZ : Hid (∃ P2 pa pc F', MeAt (w11.setCell ⟨m, 5, none⟩ (.slice ja (mergeM P out).length jc)) m d j { g with ps := P2 } (.slice (some ⟨b1, o1, none⟩) g.runs.length rc) pa pc F' ∧ (∀ k, F' k → F k ∨ w.heap.size ≤ k) ∧ Turn (fun k => k = m) w (w11.setCell ⟨m, 5, none⟩ (.slice ja (mergeM P out).length jc)) ∧ P2.length ≤ 65536 + 65536 * (k + 1) ∧ rrL g.key S g.runs g.ps = rrL g.key S (g.runs.drop (k + 1)) P2) := by
              refine ⟨mergeM P out, ja, jc, _, HX.out.1.pairs hB11' hpv (mergeM_ris _ _ HX.out.1.ris HO.out.1 HO.out.2.2.1) (mergeM_ok HX.out.1.ok HO.out.2.1) (by omega) (fun y e => by
                subst e
                have z := hrb y.block rfl
                exact ⟨Nat.le_trans HB10.out.size z.1, z.2.1⟩), fun q hq => ?_, (HX.out.2.2.1.trans (Turn.of_below _ hB11') (fun _ _ e => e)).trans (turn_setCell _ m 5 _) (fun _ _ e => e), by omega, HO.out.2.2.2⟩
              rcases hq with hq | hq
              · exact HX.out.2.1 q hq
              · cases ja with
                | none => cases hq
                | some y =>
                  cases hq
                  have z := hrb y.block rfl
                  have := HB10.out.size
                  exact .inr (show w.heap.size ≤ y.block by omega)
            rw [hlen] at HZ
            clear hpv hrb hown hB11 hB11' hM11 HO HX HR HM
            simp only at q5
            go_wp2
            go_roundw
            case rel => exact ⟨k + 1, by omega, by go_num, HZ.out⟩
            case measure => simp [intOf]; omega
          · have j1 : ((out.length : Int) != (l.length : Int)) = true := by simp; omega
            have HZ : Hid _ := hfail w10 HB10.out (by rw [HR.out, HG.out.2]; simp only [hnn]; rw [if_neg hne])
            clear hfail hnn hown
            go_wp2
            go_ret
            obtain rfl := HN.out
            exact HZ.out
    · obtain rfl : k = N := by omega
      have HZ : Hid (RunsA w m d j g (.slice ra g.runs.length rc) F (rrL g.key S g.runs g.ps) (.returned (.bool true)) wr) := by
        rw [hR, List.drop_of_length_le (by rw [HN.out]; exact Nat.le_refl _)]
        exact ⟨rfl, hT, fun P' hP => by cases hP; exact ⟨pa', pc', F', hM, hF'⟩⟩
      have i1 : ¬ (k : Int) < (k : Int) := by omega
      clear hM hF' hT hR
      go_wp2
      go_ret
      obtain rfl := HN.out
      exact HZ.out
end Go.Proofs.YtdjodigimhgklaaGreatDoor
