import Derived.Test.YtggnglgehobglaaGreatDoorP25
import Derived.Test.YtggnglgehobglaaGreatDoorP31
import Derived.Test.YtggnglgehobglaaGreatDoorP32
import Derived.Test.YtggnglgehobglaaGreatDoorP33
/- The walk of New. -/
namespace Go.Proofs.YtggnglgehobglaaGreatDoor
open Go.RowKit Go.Shelf Go.Maps

attribute [local go_sem] Oper.semAt_some

set_option maxRecDepth 20000 in
theorem step_beside (w : World) {ops : Array Oper} {o : Oper} {a : Act} {K : Act → World → Prop} {Q : Exit → Act → World → Prop} {E : Prop} (hgd : o.guard = none) (x y : Nat) (t1 t2 : TypeId)
    (ho : o.op = .call { callee := .value (.func 46), args := #[.tmp x, .tmp y], argTypes := #[t1, t2] }) (vx vy : Value) (hx : a.tmps[x]?.getD undef = vx) (hy : a.tmps[y]?.getD undef = vy) (R : Value → World → Prop)
    (hc : Calls Tryz.prog 46 #[vx, vy] w fun e w' => ∃ v, e = .returned v ∧ R v w') (hK : ∀ v w', R v w' → K (a.put o.dst v) w') :
    if Region.wanted o (yielded ops a.tmps) = true then Oper.wp Tryz.prog o a w K Q else E := by
  have hw : Region.wanted o (yielded ops a.tmps) = true := by simp [Region.wanted, hgd]
  rw [if_pos hw]
  unfold Oper.wp execOp
  simp [ho, resolve, invoke, go_sem, hx, hy]
  refine hc.mono ?_
  rintro e w' ⟨v, rfl, hR⟩
  have := hK v w' hR
  simpa [go_sem] using this
set_option maxRecDepth 100000 in
set_option maxHeartbeats 4000000 in
theorem new_any (w : World) (a : Option Addr) (n c : Nat) (rs : List Ru) (hl : Rus w a n rs) (hnc : n ≤ c) (hnb : n ≤ 100000000000000000) (hz : ∀ r ∈ rs, r.2.1.length ≤ 100000 ∧ r.2.2.length ≤ 100000) :
    Calls Tryz.prog 20 #[.slice a n c] w fun e w' => NewR rs n e w' ∧ Below w.heap.size w w' := by
  have HL : Hid (Rus w a n rs ∧ ∀ r ∈ rs, r.2.1.length ≤ 100000 ∧ r.2.2.length ≤ 100000) := ⟨hl, hz⟩
  have hmx : Tryz.prog.follows .mixedOrders = true := by kernel_rfl
  have hb0 := BoxF.new w 0 0
  by_cases hn : 64 < n
  · have i1 : (64 : Int) < (n : Int) := by omega
    have HE : Hid (BoxF (((w.alloc (.cells #[.int .i64 0, .int .i64 0] 45)).setCell ⟨w.heap.size, 0, none⟩ (.int .i64 3)).setCell ⟨w.heap.size, 1, none⟩ (.int .i64 (-1))) w.heap.size 3 (-1) ∧ Below w.heap.size w (((w.alloc (.cells #[.int .i64 0, .int .i64 0] 45)).setCell ⟨w.heap.size, 0, none⟩ (.int .i64 3)).setCell ⟨w.heap.size, 1, none⟩ (.int .i64 (-1)))) := ⟨hb0.set 3 (-1), ((Below.refl _ w).alloc (Nat.le_refl _) _).trans (boxF_below _ 3 (-1) (Nat.le_refl _))⟩
    have HE2 : Hid (BoxF (w.alloc (.cells #[.int .i64 3, .int .i64 (-1)] 45)) w.heap.size 3 (-1) ∧ Below w.heap.size w (w.alloc (.cells #[.int .i64 3, .int .i64 (-1)] 45))) := ⟨BoxF.new w 3 (-1), (Below.refl _ w).alloc (Nat.le_refl _) _⟩
    have HX : Hid (64 < n) := hn
    clear hl hz hb0
    go_enter Tryz.func20, Tryz.ntmps20
    go_wp2
    first
    | exact fault_ret HE.out.1 rfl rfl rfl ⟨.inl ⟨HX.out, rfl⟩, HE.out.2⟩
    | exact fault_ret HE2.out.1 rfl rfl rfl ⟨.inl ⟨HX.out, rfl⟩, HE2.out.2⟩
  have i1 : ¬ (64 : Int) < (n : Int) := by omega
  have H0 : Hid (BoxF (w.alloc (.cells #[.int .i64 0, .int .i64 0] 45)) w.heap.size 0 0 ∧ Below w.heap.size w (w.alloc (.cells #[.int .i64 0, .int .i64 0] 45)) ∧ Rus (w.alloc (.cells #[.int .i64 0, .int .i64 0] 45)) a n rs) := ⟨hb0, (Below.refl _ w).alloc (Nat.le_refl _) _, hl.kept ((Below.refl _ w).alloc (Nat.le_refl _) _)⟩
  have hn64 : n ≤ 64 := by omega
  clear hl hz hb0 hn
  go_enter Tryz.func20, Tryz.ntmps20
  go_wp2_with fail
  generalize w.alloc (.cells #[.int .i64 0, .int .i64 0] 45) = w1 at *
  generalize hbp : w.heap.size = bp at *
  have HBP : Hid (w.heap.size = bp) := hbp
  clear hbp
  go_loopw [13] (fun i wr => ∃ k : Nat, k ≤ n ∧ i = .int .i64 (k : Int) ∧ Hid (GoodU rs k ∧ Below w1.heap.size w1 wr)) (fun i _ => n - (intOf i).toNat)
  case atStart => exact ⟨0, Nat.zero_le _, rfl, fun j r hj _ => absurd hj (Nat.not_lt_zero _), Below.refl _ _⟩
  case round =>
    obtain ⟨k, hk, rfl, H⟩ := hrel
    by_cases hlt : k < n
    · obtain ⟨r, hr⟩ : ∃ r, rs[k]? = some r := ⟨_, List.getElem?_eq_getElem (by rw [HL.out.1.1]; exact hlt)⟩
      have hRr := H0.out.2.2.kept H.out.2
      obtain ⟨b1, o1, hae, hc1⟩ := hRr.2 (by omega)
      subst hae
      obtain ⟨q0, q1, q2⟩ := hc1 k r hr
      have hsz := HL.out.2 r (List.mem_of_getElem? hr)
      have hRt := rus_take hRr (Nat.le_of_lt hlt)
      have hPt := H.out.1.pth (by rw [HL.out.1.1]; exact Nat.le_of_lt hlt)
      obtain ⟨f, hf⟩ : ∃ f, f = mk r.2.1 := ⟨_, rfl⟩
      obtain ⟨t, ht⟩ : ∃ t, t = mk r.2.2 := ⟨_, rfl⟩
      have hruv : ruV r = rv r.1 f t := by rw [hf, ht]
      have hbx : BoxR (wr.alloc (.cells #[.int .i64 r.1, .string f, .string t] 31)) wr.heap.size r.1 f t := BoxR.new wr r.1 f t
      have hW3 : Below wr.heap.size wr (wr.alloc (.cells #[.int .i64 r.1, .string f, .string t] 31)) := (Below.refl _ wr).alloc (Nat.le_refl _) _
      have hbe : ∀ W, Below (wr.alloc (.cells #[.int .i64 r.1, .string f, .string t] 31)).heap.size (wr.alloc (.cells #[.int .i64 r.1, .string f, .string t] 31)) W → Calls Tryz.prog 46 #[rv r.1 f t, .slice (some ⟨b1, o1, none⟩) k c] W fun e w' => e = .returned (.int .i64 (besE r (rs.take k))) ∧ Below W.heap.size W w' := fun W hW => by
        have := beside_any r W hsz (some ⟨b1, o1, none⟩) k c (rs.take k) (hRt.kept (hW3.trans (hW.mono hW3.size))) (by omega) hPt
        rw [hruv] at this
        exact this
      have HC : Hid (∀ W, Below (wr.alloc (.cells #[.int .i64 r.1, .string f, .string t] 31)).heap.size (wr.alloc (.cells #[.int .i64 r.1, .string f, .string t] 31)) W → W.cell? ⟨wr.heap.size, 0, none⟩ = some (.int .i64 r.1) ∧ W.cell? ⟨wr.heap.size, 1, none⟩ = some (.string f) ∧ W.cell? ⟨wr.heap.size, 2, none⟩ = some (.string t)) := fun W hW => (hbx.below hW hbx.lt).cell
      have HB3 : Hid (Below wr.heap.size wr (wr.alloc (.cells #[.int .i64 r.1, .string f, .string t] 31))) := hW3
      have HR : Hid (rs[k]? = some r) := hr
      have HBE : Hid (∃ x, x = besE r (rs.take k)) := ⟨_, rfl⟩
      have i5 : (k : Int) < (n : Int) := by omega
      have i6 : ¬ n ≤ k := by omega
      have i7 : (k : Int) ≤ (c : Int) := by omega
      rw [← hf] at q1
      rw [← ht] at q2
      generalize hBE : besE r (rs.take k) = BE at *
      have HBE : Hid (besE r (rs.take k) = BE) := hBE
      generalize r.1 = kk at *
      clear hc1 hr hsz hf ht hruv hbx hW3 hRr hRt hPt hBE
      go_upto_region 6 with fail
      generalize wr.alloc (.cells #[.int .i64 kk, .string f, .string t] 31) = w3 at *
      generalize hbx : wr.heap.size = bx at *
      have HBX : Hid (wr.heap.size = bx) := hbx
      clear hbx
      have H3d : Hid (Below w3.heap.size w3 w3.drew) := ⟨rfl, rfl, rfl, Nat.le_refl _, fun _ _ => rfl⟩
      refine wp_region_G (S := SB 1000 (fun _ => True) (fun W => W.cell? ⟨bx, 0, none⟩ = some (.int .i64 kk) ∧ W.cell? ⟨bx, 1, none⟩ = some (.string f) ∧ W.cell? ⟨bx, 2, none⟩ = some (.string t))) hmx ?_
      have hSB : SB 1000 (fun _ => True) (fun W => W.cell? ⟨bx, 0, none⟩ = some (.int .i64 kk) ∧ W.cell? ⟨bx, 1, none⟩ = some (.string f) ∧ W.cell? ⟨bx, 2, none⟩ = some (.string t)) (Array.replicate 6 false) w3.drew := SB.off (by kernel_rfl) (HC.out _ H3d.out)
      refine wpAnyG_takeP (i := 0) (v := ?_) rfl (by kernel_rfl) (by kernel_rfl) (by kernel_rfl) (fun _ _ _ h => h) rfl (Or.inl ⟨by rfl, ?_⟩) (by assumption) ?_
      rotate_left
      · intro Y hY; obtain ⟨a0, a1, a2⟩ := hY; go_simp; try with_reducible rfl
      intro hSB0
      try simp only [Act.put, List.getElem_toArray, List.getElem_cons_zero, List.setIfInBounds_toArray, List.set_cons_zero, List.set_cons_succ]
      refine wpAnyG_takeP (i := 1) (v := ?_) rfl (by kernel_rfl) (by kernel_rfl) (by kernel_rfl) (fun _ _ _ h => h) rfl (Or.inl ⟨by rfl, ?_⟩) (by assumption) ?_
      rotate_left
      · intro Y hY; obtain ⟨a0, a1, a2⟩ := hY; go_simp; try with_reducible rfl
      intro hSB1
      try simp only [Act.put, List.getElem_toArray, List.getElem_cons_zero, List.getElem_cons_succ, List.setIfInBounds_toArray, List.set_cons_zero, List.set_cons_succ]
      refine wpAnyG_takeP (i := 2) (v := ?_) rfl (by kernel_rfl) (by kernel_rfl) (by kernel_rfl) (fun _ _ _ h => h) rfl (Or.inl ⟨by rfl, ?_⟩) (by assumption) ?_
      rotate_left
      · intro Y hY; obtain ⟨a0, a1, a2⟩ := hY; go_simp; try with_reducible rfl
      intro hSB2
      try simp only [Act.put, List.getElem_toArray, List.getElem_cons_zero, List.getElem_cons_succ, List.setIfInBounds_toArray, List.set_cons_zero, List.set_cons_succ]
      refine wpAnyG_takeP (i := 3) (v := ?_) rfl (by kernel_rfl) (by kernel_rfl) (by kernel_rfl) (fun _ _ _ h => h) rfl (Or.inl ⟨by rfl, ?_⟩) (by assumption) ?_
      rotate_left
      · intro Y hY; obtain ⟨a0, a1, a2⟩ := hY; go_simp; try with_reducible rfl
      intro hSB3
      try simp only [Act.put, List.getElem_toArray, List.getElem_cons_zero, List.getElem_cons_succ, List.setIfInBounds_toArray, List.set_cons_zero, List.set_cons_succ]
      refine wpAnyG_one (i := 4) (by kernel_rfl) rfl (fun K hK => ?_)
      refine step_beside _ (by rfl) _ _ _ _ (by rfl) _ _ (by rfl) (by rfl) _ (ret_calls (hbe _ H3d.out)) ?_
      rintro v u4 ⟨rfl, hBu4⟩
      have Hu4 : Hid (Below w3.heap.size w3 u4) := H3d.out.trans (hBu4.mono H3d.out.size)
      refine hK.out _ _ (SB.off (by kernel_rfl) (HC.out _ Hu4.out)) (fun hSB4 => ?_)
      clear hK K hBu4
      try simp only [Act.put, List.getElem_toArray, List.getElem_cons_zero, List.getElem_cons_succ, List.setIfInBounds_toArray, List.set_cons_zero, List.set_cons_succ]
      refine wpAnyG_takeP (i := 5) (v := ?_) rfl (by kernel_rfl) (by kernel_rfl) (by kernel_rfl) (fun _ _ _ h => h) rfl (Or.inl ⟨by rfl, ?_⟩) (by assumption) ?_
      rotate_left
      · intro Y hY; obtain ⟨a0, a1, a2⟩ := hY; go_simp; try with_reducible rfl
      intro hSB5
      try simp only [Act.put, List.getElem_toArray, List.getElem_cons_zero, List.getElem_cons_succ, List.setIfInBounds_toArray, List.set_cons_zero, List.set_cons_succ]
      refine wpAnyG_done (by kernel_rfl) ?_ _
      clear hSB hSB0 hSB1 hSB2 hSB3 hSB4 hSB5 hbe
      have H4 : Hid (Below w1.heap.size w1 u4) := by
        show Below _ _ _
        have h1 := HB3.out
        rw [← HBX.out] at h1
        have h2 := h1.trans (Hu4.out.mono h1.size)
        exact H.out.2.trans (h2.mono H.out.2.size)
      by_cases hB0 : BE = 0
      · subst hB0
        have HG : Hid (GoodU rs (k + 1)) := H.out.1.step HR.out HBE.out
        go_wp2
        go_roundw
        case rel => exact ⟨k + 1, by omega, by simp, HG.out, H4.out⟩
        case measure => simp [intOf]; omega
      · have HF4 : Hid (BoxF ((u4.setCell ⟨bp, 0, none⟩ (.int .i64 BE)).setCell ⟨bp, 1, none⟩ (.int .i64 (k : Int))) bp BE k ∧ Below bp w ((u4.setCell ⟨bp, 0, none⟩ (.int .i64 BE)).setCell ⟨bp, 1, none⟩ (.int .i64 (k : Int)))) := ⟨(H0.out.1.below H4.out H0.out.1.lt).set BE k, (H0.out.2.1.trans (H4.out.mono (Nat.le_of_lt H0.out.1.lt))).trans (boxF_below _ _ _ (Nat.le_refl _))⟩
        obtain ⟨e0, e1⟩ := (H0.out.1.below H4.out H0.out.1.lt).cell
        obtain ⟨z0, z1⟩ := (H0.out.1.below H4.out H0.out.1.lt).frozen
        go_wp2_with fail
        exact fault_ret HF4.out.1 rfl rfl rfl ⟨.inr (.inl ⟨hn64, k, r, HR.out, by rw [HBE.out]; exact hB0, H.out.1, by rw [HBE.out]; rfl⟩), by rw [HBP.out]; exact HF4.out.2⟩
    · obtain rfl : k = n := by omega
      have i5 : ¬ (k : Int) < (k : Int) := by omega
      have htb := tableOf_any wr a k c rs (H0.out.2.2.kept H.out.2) (by omega) (fun r hr => by have := (HL.out.2 r hr).1; omega)
      go_wp2_with fail
      refine htb.mono ?_
      clear htb
      rintro e w5 ⟨b, rfl, hT5, _, hB5⟩
      have hof := oneForm_any w5 b k (tabL rs) hT5 (by omega) (fun x r hr => by
        obtain ⟨h1, h2⟩ := tabL_mem rs x r hr
        exact ⟨h2, by rw [← h2]; have := (HL.out.2 r h1).1; omega⟩)
      have H5 : Hid (Below w1.heap.size w1 w5) := H.out.2.trans (hB5.mono H.out.2.size)
      clear hT5 hB5
      go_wp2_with fail
      refine hof.mono ?_
      clear hof
      rintro e w6 ⟨ks, ad, c6, rfl, hKL, hkn, hrow, hB6⟩
      have H6 : Hid (Below w1.heap.size w1 w6) := H5.out.trans (hB6.mono H5.out.size)
      have hfo := formT_ok (tabL_pth HL.out.1.1 H.out.1) ks hKL
      obtain ⟨ad', c', e', hnc', hnil'⟩ := row_shapeR hrow
      cases e'
      have hfl := formT_len (tabL rs) ks
      have hmo := mapOf_any w6 ad (formT (tabL rs) ks).length c6 (formT (tabL rs) ks) (own_rus hrow rfl) hnc' (by omega) hnil' hfo
      have HKL : Hid (KeyL (tabL rs) ks) := hKL
      clear hKL hkn hrow hB6 hfo hnc' hnil' hfl
      go_wp2_with fail
      refine hmo.mono ?_
      clear hmo
      rintro e w7 ⟨⟨m, rfl, hM, _⟩, hB7⟩
      have H7 : Hid (BoxF w7 bp 0 0 ∧ Below bp w w7 ∧ MpAt w7 m (formT (tabL rs) ks)) := by
        have h1 := H6.out.trans (hB7.mono H6.out.size)
        exact ⟨H0.out.1.below h1 H0.out.1.lt, H0.out.2.1.trans (h1.mono (Nat.le_of_lt H0.out.1.lt)), hM⟩
      clear hM hB7
      obtain ⟨e0, e1⟩ := H7.out.1.cell
      obtain ⟨z0, z1⟩ := H7.out.1.frozen
      go_wp2_with fail
      rw [H7.out.1.id]
      exact fault_ret H7.out.1 rfl rfl rfl ⟨.inr (.inr ⟨hn64, H.out.1, m, ks, rfl, H7.out.2.2, HKL.out⟩), by rw [HBP.out]; exact H7.out.2.1⟩
end Go.Proofs.YtggnglgehobglaaGreatDoor

/- What PathmapTwo asks, plain; what New answers, whatever it is. -/
namespace Go.Proofs.YtggnglgehobglaaGreatDoor
open Go.RowKit Go.Shelf Go.Maps

/-- the images of two sets, one behind the other -/
theorem two_img {F G : List Ru} (hFo : FOk F) (hGo : FOk G) (hF : FormU F) (hG : FormU G) {ks : List (List UInt8)} (hK : KeyL (tabL (thL F G)) ks) {l : List UInt8} (hl : isP l = true) : imgL (formT (tabL (thL F G)) ks) l = (imgL F l).bind (imgL G) := by
  obtain ⟨hC, him⟩ := th_formU hFo hGo hF hG hK
  have hX := isP_good hl
  have h1 := hC.img hX
  have h2 := (bind_im hF hG hX).1
  rw [glue_parts] at h1 h2
  rw [h1, h2, him]
theorem thr_path {l x : List UInt8} (h1 : isP l = true) (h2 : isP x = true) (R : Option (List UInt8)) : thr l R = thr x R := by
  unfold thr
  rw [if_neg (by rw [h1]; decide), if_neg (by rw [h2]; decide)]
theorem two1 {F G : List Ru} (hFo : FOk F) (hGo : FOk G) (hF : FormU F) (hG : FormU G) {ks : List (List UInt8)} (hK : KeyL (tabL (thL F G)) ks) {l : List UInt8} (h : (thr l (imgL F l)).2 = 0) : ∃ x, thr l (imgL F l) = (x, 0) ∧ isP x = true ∧ thr l (imgL (formT (tabL (thL F G)) ks) l) = thr x (imgL G x) := by
  obtain ⟨h1, x, h2, h3, h4⟩ := thr_zero h
  refine ⟨x, h4, h3, ?_⟩
  rw [two_img hFo hGo hF hG hK h1, h2]
  exact thr_path h1 h3 _
theorem two2 {F G : List Ru} (hFo : FOk F) (hGo : FOk G) (hF : FormU F) (hG : FormU G) {ks : List (List UInt8)} (hK : KeyL (tabL (thL F G)) ks) {l : List UInt8} (h : (thr l (imgL F l)).2 ≠ 0) (h' : (thr l (imgL F l)).2 ≠ 3) : thr l (imgL (formT (tabL (thL F G)) ks) l) = ([], (thr l (imgL F l)).2) := by
  by_cases hl : isP l = true
  · rw [two_img hFo hGo hF hG hK hl]
    cases e : imgL F l with
    | none =>
      show thr l none = ([], (thr l none).2)
      unfold thr
      rw [if_neg (by rw [hl]; decide)]
    | some x =>
      exfalso
      rw [e] at h h'
      unfold thr at h h'
      rw [if_neg (by rw [hl]; decide)] at h h'
      simp only at h h'
      by_cases hx : isP x = true
      · rw [if_pos hx] at h
        exact h rfl
      · rw [if_neg hx] at h'
        exact h' rfl
  · have hl' : isP l = false := by simpa using hl
    unfold thr
    rw [if_pos hl', if_pos hl']
/-- what keeps all, ahead or behind -/
theorem two_trv {F : List Ru} (hFo : FOk F) (hF : FormU F) {ks : List (List UInt8)} (hK : KeyL (tabL (thL F trvL)) ks) : formT (tabL (thL F trvL)) ks = F := by
  obtain ⟨hC, him⟩ := th_formU hFo trv_ok hF trv_formU hK
  refine hC.eq hF (fun A => ?_)
  rw [him]
  unfold thnI
  cases imN (hT (tabL F)) A with
  | none => rfl
  | some X => exact trv_im X
theorem trv_two {F : List Ru} (hFo : FOk F) (hF : FormU F) {ks : List (List UInt8)} (hK : KeyL (tabL (thL trvL F)) ks) : formT (tabL (thL trvL F)) ks = F := by
  obtain ⟨hC, him⟩ := th_formU trv_ok hFo trv_formU hF hK
  refine hC.eq hF (fun A => ?_)
  rw [him]
  unfold thnI
  rw [trv_im]; rfl
/-- what New answers, whatever it is -/
def NewU (e : Ending) (w : World) : Prop := ∃ (v : Value) (E X : Int), e = .returned (.tuple #[v, .agg #[.int .i64 E, .int .i64 X]]) ∧ (E = 0 → X = 0 ∧ ∃ m F, v = .pointer (some ⟨m, 0, none⟩) ∧ MpAt w m F ∧ FormU F ∧ F.length ≤ 64) ∧ (E ≠ 0 → v = .pointer none)
theorem new_u (w : World) (ad : Option Addr) (c : Nat) (cs : List Ru) (hl : Rus w ad cs.length cs) (hnc : cs.length ≤ c) (hn : cs.length ≤ 66) (hz : ∀ r ∈ cs, r.2.1.length ≤ 100000 ∧ r.2.2.length ≤ 100000) :
    Calls Tryz.prog 20 #[.slice ad cs.length c] w fun e w' => NewU e w' ∧ Below w.heap.size w w' := by
  refine (new_any w ad cs.length c cs hl hnc (by omega) hz).mono ?_
  rintro e w' ⟨hN, hB⟩
  refine ⟨?_, hB⟩
  rcases hN with ⟨_, he⟩ | ⟨_, k, r, _, hb, _, he⟩ | ⟨h64, hG, m, ks, he, hM, hK⟩
  · exact ⟨_, _, _, he, fun h => (by cases h), fun _ => rfl⟩
  · exact ⟨_, _, _, he, fun h => absurd h hb, fun _ => rfl⟩
  · refine ⟨_, _, _, he, fun _ => ⟨rfl, m, _, rfl, hM, new_formU rfl hG hK, ?_⟩, fun h => absurd rfl h⟩
    have h1 := formT_len (tabL cs) ks
    have h2 := key_len hK
    omega
theorem cut_small (rs : List Ru) : (cutR rs).length ≤ 66 ∧ ∀ r ∈ cutR rs, r.2.1.length ≤ 100000 ∧ r.2.2.length ≤ 100000 := by
  refine ⟨?_, fun r hr => ?_⟩
  · unfold cutR
    rw [List.length_map, List.length_take]
    omega
  · unfold cutR at hr
    obtain ⟨q, _, rfl⟩ := List.mem_map.1 hr
    simp only [c300, List.length_take]
    omega
/-- the law's cut, and New of it -/
theorem cut_row {w2 w : World} {rs : List Ru} {ad : Option Addr} {c' : Nat} (hrow : w2.ownsRow w.heap.size 31 3 (.slice ad (cutR rs).length c') (cutR rs).length (ruCells (cutR rs))) :
    Calls Tryz.prog 20 #[.slice ad (cutR rs).length c'] w2 fun e w' => NewU e w' ∧ Below w2.heap.size w2 w' := by
  obtain ⟨ad', c2, e', hnc', hnil'⟩ := row_shapeR hrow
  cases e'
  exact new_u w2 ad c' (cutR rs) (own_rus hrow rfl) hnc' (cut_small rs).1 (cut_small rs).2
end Go.Proofs.YtggnglgehobglaaGreatDoor

/- What PathmapThree and PathmapForm ask, plain. -/
namespace Go.Proofs.YtggnglgehobglaaGreatDoor

/-- three sets, one behind the other, however they are put together -/
theorem three_eq {F G H : List Ru} (hFo : FOk F) (hGo : FOk G) (hHo : FOk H) (hF : FormU F) (hG : FormU G) (hH : FormU H) {k1 k2 k3 k4 : List (List UInt8)} (h1 : KeyL (tabL (thL F G)) k1) (h2 : KeyL (tabL (thL G H)) k2) (o1 : FOk (formT (tabL (thL F G)) k1)) (o2 : FOk (formT (tabL (thL G H)) k2))
    (h3 : KeyL (tabL (thL (formT (tabL (thL F G)) k1) H)) k3) (h4 : KeyL (tabL (thL F (formT (tabL (thL G H)) k2))) k4) :
    formT (tabL (thL (formT (tabL (thL F G)) k1) H)) k3 = formT (tabL (thL F (formT (tabL (thL G H)) k2))) k4 := by
  obtain ⟨uX, iX⟩ := th_formU hFo hGo hF hG h1
  obtain ⟨uY, iY⟩ := th_formU hGo hHo hG hH h2
  obtain ⟨uP, iP⟩ := th_formU o1 hHo uX hH h3
  obtain ⟨uQ, iQ⟩ := th_formU hFo o2 hF uY h4
  refine uP.eq uQ (fun A => ?_)
  rw [iP, iQ]
  unfold thnI
  rw [iX]
  unfold thnI
  cases imN (hT (tabL F)) A with
  | none => rfl
  | some X =>
    show (imN (hT (tabL G)) X).bind _ = imN (hT (tabL (formT (tabL (thL G H)) k2))) X
    rw [iY]; rfl
/-- forms that say the same of each other's Froms are the same -/
theorem keys_eq {F G : List Ru} (hF : FormU F) (hG : FormU G) (h : ∀ r, r ∈ F ∨ r ∈ G → imgL F r.2.1 = imgL G r.2.1) : F = G := by
  refine hF.eq hG (fun A => ?_)
  have key : ∀ A r, r ∈ F ∨ r ∈ G → frN r = A → Good A → imN (hT (tabL F)) A = imN (hT (tabL G)) A := by
    intro A r hr hA hg
    have h1 := h r hr
    rw [← glue_fr r, hA, hF.img hg, hG.img hg] at h1
    cases e1 : imN (hT (tabL F)) A with
    | none =>
      cases e2 : imN (hT (tabL G)) A with
      | none => rfl
      | some Y => rw [e1, e2] at h1; cases h1
    | some X =>
      cases e2 : imN (hT (tabL G)) A with
      | none => rw [e1, e2] at h1; cases h1
      | some Y =>
        rw [e1, e2] at h1
        have := congrArg parts (Option.some.inj h1)
        rw [parts_glue _ (im_good hF.tok hg e1), parts_glue _ (im_good hG.tok hg e2)] at this
        rw [this]
  have own : ∀ A, hT (tabL F) A ≠ none ∨ hT (tabL G) A ≠ none → imN (hT (tabL F)) A = imN (hT (tabL G)) A := by
    intro A hA
    rcases hA with hA | hA
    · obtain ⟨s, hs⟩ := Option.ne_none_iff_exists'.1 hA
      obtain ⟨r, hr, _, h3, h4⟩ := hT_some hF.tok hs
      exact key A r (.inl (tabL_mem F _ r hr).1) h3 h4
    · obtain ⟨s, hs⟩ := Option.ne_none_iff_exists'.1 hA
      obtain ⟨r, hr, _, h3, h4⟩ := hT_some hG.tok hs
      exact key A r (.inr (tabL_mem G _ r hr).1) h3 h4
  refine snoc_ind (P := fun A => imN (hT (tabL F)) A = imN (hT (tabL G)) A) ?_ ?_ A
  · by_cases h1 : hT (tabL F) [] = none
    · by_cases h2 : hT (tabL G) [] = none
      · rw [imN_nil, imN_nil, h1, h2]
      · exact own [] (.inr h2)
    · exact own [] (.inl h1)
  · intro A n ih
    by_cases h1 : hT (tabL F) (A ++ [n]) = none
    · by_cases h2 : hT (tabL G) (A ++ [n]) = none
      · rw [imN_snoc, imN_snoc, h1, h2, ih]
      · exact own _ (.inr h2)
    · exact own _ (.inl h1)
end Go.Proofs.YtggnglgehobglaaGreatDoor
