import Derived.Test.YtfkepoibgmljkaaM32
import Derived.Test.YtfkepoibgmljkaaM30
import Derived.Deep.CutRange
/- The walk of RunMerges. -/
namespace Go.Proofs.Ytfkepoibgmljkaa
open Go.RowKit Go.Shelf Go.Maps Go.Lib

attribute [local go_sem] Oper.semAt_some

set_option maxRecDepth 100000 in
set_option maxHeartbeats 8000000 in
theorem runMerges_walk (w : World) (a : Option Addr) (n c : Nat) (rs : List (List Pr)) (sa : Option Addr) (sn sc : Nat) (sp : List UInt8) (at' : Int) (h : RowsIn w a n c rs) (hs : ByIn w sa sn sc sp) :
    Calls Try.prog 3 #[.slice a n c, .slice sa sn sc, .int .i64 at'] w fun e w' => e = .returned (.bool true) ∧ Below w.heap.size w w' := by
  have hmx : Try.prog.follows .mixedOrders = true := by kernel_rfl
  have HW : Hid (∀ W, Calls Try.prog 5 #[] W fun e w' => e = .returned (.bool true) ∧ Below W.heap.size W w') := vwakes_any
  have HRs : Hid (RowsIn w a n c rs ∧ rs.length = n) := ⟨h, h.len⟩
  obtain ⟨zn, hzn⟩ : ∃ zn, zn = min sn 3000 := ⟨_, rfl⟩
  have HSp : Hid (Bytes w sa zn (sp.take zn) ∧ (sa = none → zn = 0) ∧ zn ≤ sc ∧ (∀ q, sa = some q → 0 < zn → q.block < w.heap.size)) := by
    have hb := hs.by_.take zn (by omega)
    refine ⟨hb, fun e => by have := (hs.nil e).1; omega, by have := hs.cap; omega, fun q e h0 => ?_⟩
    obtain ⟨b, o, e2, hc⟩ := hb.2 h0
    rw [e] at e2
    cases e2
    exact World.block_lt_of_cell? w _ (hc 0 h0)
  have hz3 : zn ≤ 3000 := by omega
  have HS2 : Hid (∀ W, Calls Try.prog 10 #[.slice sa sn sc] W fun e w' => e = .returned (.slice sa zn sc) ∧ w' = W) := fun W => by rw [hzn]; exact some2_any W sa sn sc hs.cap
  have HSl : Hid ((sp.take zn).length ≤ 3000) := by
    show _ ≤ _
    rw [List.length_take]
    omega
  clear h hs hzn
  generalize sp.take zn = S at *
  obtain ⟨N10, hN1, hN2, hN3⟩ : ∃ N10, N10 ≤ n ∧ N10 ≤ 10 ∧ (N10 = n ∨ N10 = 10) := ⟨min n 10, by omega, by omega, by omega⟩
  go_enter Try.func3, Try.ntmps3
  go_wp2_with (go_at_call 5; refine (HW.out _).mono ?_; rintro e w1 ⟨rfl, hB1⟩; have H1 : Hid (Below w.heap.size w w1) := hB1; clear hB1)
  go_loopg [7, 8, 9, 21] N10 (fun gk va vr vw i wr => ∃ (k : Nat) (bs : List (List UInt8)) (al : List Pr) (wrong : Bool), k + gk = N10 ∧ i = .int .i64 (k : Int) ∧ vw = .bool wrong ∧ bs.length = k ∧ al.length ≤ k * 65536 ∧ Hid (MgI w wr va vr bs al wrong))
  case atStart => exact ⟨0, [], [], false, by omega, rfl, rfl, rfl, Nat.zero_le _, MgI.start w H1.out⟩
  case round =>
    clear H1
    obtain ⟨k, bs, al, wrong, hk, rfl, rfl, hbl, hal, H⟩ := hrel
    cases gk with
    | zero =>
      have hk10 : k ≤ 10 := by omega
      by_cases hlt : k < n
      · obtain ⟨l0, hl0⟩ : ∃ x, rs[k]? = some x := ⟨_, List.getElem?_eq_getElem (by rw [HRs.out.2]; exact hlt)⟩
        obtain ⟨b0, o0, rfl, hc0⟩ := HRs.out.1.cells (by omega)
        obtain ⟨la, ln, lc, t0, hpi⟩ := hc0 k l0 hl0
        have t1 := (H.out.below.cell (p := ⟨b0, o0 + k, none⟩) (World.block_lt_of_cell? w _ t0)).trans t0
        have i1 : (k : Int) < (n : Int) := by omega
        have i2 : ((k : Int) == 10) = true := by simp; omega
        have i3 : ¬ n ≤ k := by omega
        clear hpi hc0 t0 hl0
        obtain ⟨ra, rc, hv8, hrb⟩ := H.out.rows.runs
        subst hv8
        rw [hbl] at hrb
        rw [hbl]
        have hm := merge_any wr ra k rc bs hrb (by omega)
        have hkb : bs.length ≤ 10 := by omega
        cases wrong
        · go_upto_region 24 with (go_at_call 11; refine hm.mono ?_; clear hm; rintro e wm ⟨mv, er, rfl, hE, hBm⟩; obtain ⟨rfl, ad, cp, out, hlen, hok, rfl, ho, huq⟩ := H.out.right hkb hE)
          obtain ⟨hby, hbn, hbc⟩ := own_slice ho
          obtain ⟨N, hN⟩ : ∃ N, N = (runB out).length := ⟨_, rfl⟩
          have HO : Hid (out.length ≤ 2000 ∧ PrOk out ∧ N = (runB out).length ∧ Below w.heap.size w wm ∧ PrOk al ∧ al.length ≤ 2000) := ⟨hlen, hok, hN, H.out.below.trans (hBm.mono H.out.below.size), (H.out.good rfl).1, by have := (H.out.good rfl).2.1; omega⟩
          rw [← hN] at hby
          rw [← hN]
          obtain ⟨xa, xc, hxv, hxp, hxl⟩ := own_prv (row_keptV H.out.all hBm)
          subst hxv
          have HS : Hid (∀ Y, Below wm.heap.size wm Y → Calls Try.prog 6 #[.slice xa al.length xc] Y fun e w' => ∃ v, e = .returned v ∧ (∃ sa sm sc, v = .slice sa sm sc ∧ PrV w' sa sm sc out ∧ Below wm.heap.size wm w')) := fun Y hY => (rsorted_any Y xa al.length xc al (hxp.prs.kept hY) (by have := HO.out.2.2.2.2.2; omega)).mono fun e w' ⟨sa, sm, sc, h1, l', h2, h3, h4⟩ => ⟨_, h1, sa, sm, sc, rfl, by rw [huq l' h3]; exact h2, hY.trans (h4.mono hY.size)⟩
          obtain ⟨st, hst⟩ : ∃ st : ByteArray, ⟨(runB out).toArray⟩ = st := ⟨_, rfl⟩
          have HC : Hid (∀ Y, Below wm.heap.size wm Y → (convert 23 9 (.slice ad N cp)).run Try.prog Y = .ok (.string st) Y) := fun Y hY => by rw [← hst]; exact run_string Y ad N cp (runB out) (vbytes_below hby hY)
          have HBb : Hid (∀ Y sa sm sc, PrV Y sa sm sc out → Calls Try.prog 8 #[.slice sa sm sc] Y fun e w' => ∃ ad cp, e = .returned (.slice ad N cp) ∧ w'.ownsRow Y.heap.size 5 1 (.slice ad N cp) N (cellsOf (runB out)) ∧ Below Y.heap.size Y w') := fun Y sa sm sc hp => by
            have := rbytes_any Y sa sm sc out hp.prs HO.out.2.1 (by have := HO.out.1; have := hp.prs.1; omega)
            rw [← HO.out.2.2.1] at this
            exact this
          have HST : Hid (⟨(runB out).toArray⟩ = st) := hst
          clear hby hbn hbc ho huq hxp hxl hE hBm hok hlen hN hst H hrb
          refine wp_region_G (S := SB 1000 (fun _ => True) (fun Y => Below wm.heap.size wm Y)) hmx ?_
          have hBd : Below wm.heap.size wm wm.drew := ⟨rfl, rfl, rfl, Nat.le_refl _, fun _ _ => rfl⟩
          have hSB : SB 1000 (fun _ => True) (fun Y => Below wm.heap.size wm Y) (Array.replicate 15 false) wm.drew := SB.on trivial hBd
          refine wpAnyG_takeP (i := 0) (v := ?_) rfl (by kernel_rfl) (by kernel_rfl) (by kernel_rfl) (fun _ _ _ h => h) rfl (Or.inl ⟨by rfl, ?_⟩) (by assumption) ?_
          rotate_left
          · intro Y _; go_simp; try with_reducible rfl
          intro hSB0
          try simp only [Act.put, List.getElem_toArray, List.getElem_cons_zero, List.setIfInBounds_toArray, List.set_cons_zero, List.set_cons_succ]
          refine wpAnyG_takeP (i := 1) (v := ?_) rfl (by kernel_rfl) (by kernel_rfl) (by kernel_rfl) (fun _ _ _ h => h) rfl (Or.inl ⟨by rfl, ?_⟩) (by assumption) ?_
          rotate_left
          · intro Y _; go_simp; try with_reducible rfl
          intro hSB1
          try simp only [Act.put, List.getElem_toArray, List.getElem_cons_zero, List.getElem_cons_succ, List.setIfInBounds_toArray, List.set_cons_zero, List.set_cons_succ]
          refine wpAnyG_takeP (i := 2) (v := ?_) rfl (by kernel_rfl) (by kernel_rfl) (by kernel_rfl) (fun _ _ _ h => h) rfl (Or.inl ⟨by rfl, ?_⟩) (by assumption) ?_
          rotate_left
          · intro Y _; go_simp; try with_reducible rfl
          intro hSB2
          try simp only [Act.put, List.getElem_toArray, List.getElem_cons_zero, List.getElem_cons_succ, List.setIfInBounds_toArray, List.set_cons_zero, List.set_cons_succ]
          refine wpAnyG_takeP (i := 3) (v := ?_) rfl (by kernel_rfl) (by kernel_rfl) (by kernel_rfl) (fun _ _ _ h => h) rfl (Or.inl ⟨by rfl, ?_⟩) (by assumption) ?_
          rotate_left
          · intro Y _; go_simp; try with_reducible rfl
          intro hSB3
          try simp only [Act.put, List.getElem_toArray, List.getElem_cons_zero, List.getElem_cons_succ, List.setIfInBounds_toArray, List.set_cons_zero, List.set_cons_succ]
          refine wpAnyG_takeP (i := 5) (v := ?_) rfl (by kernel_rfl) (by kernel_rfl) (by kernel_rfl) (fun _ _ _ h => h) rfl (Or.inl ⟨by rfl, ?_⟩) (by assumption) ?_
          rotate_left
          · intro Y _; go_simp; try with_reducible rfl
          intro hSB5
          try simp only [Act.put, List.getElem_toArray, List.getElem_cons_zero, List.getElem_cons_succ, List.setIfInBounds_toArray, List.set_cons_zero, List.set_cons_succ]
          refine wpAnyG_takeP (i := 4) (v := ?_) rfl (by kernel_rfl) (by kernel_rfl) (by kernel_rfl) (fun _ _ _ h => h) rfl (Or.inl ⟨by rfl, ?_⟩) (by assumption) ?_
          rotate_left
          · intro Y hY; have h4 := HC.out Y hY; go_simp; try with_reducible rfl
          intro hSB4
          try simp only [Act.put, List.getElem_toArray, List.getElem_cons_zero, List.getElem_cons_succ, List.setIfInBounds_toArray, List.set_cons_zero, List.set_cons_succ]
          refine wpAnyG_one (i := 6) (by kernel_rfl) rfl (fun K hK => ?_)
          refine vstep_sortedG _ (by rfl) _ _ (by rfl) _ (by rfl) _ (HS.out wm.drew hBd) ?_
          rintro v w8 ⟨ya, ym, yc, rfl, hp8, hB8⟩
          refine hK.out _ _ (SB.on trivial hB8) (fun hSB6 => ?_)
          clear hK K
          try simp only [Act.put, List.getElem_toArray, List.getElem_cons_zero, List.getElem_cons_succ, List.setIfInBounds_toArray, List.set_cons_zero, List.set_cons_succ]
          refine wpAnyG_one (i := 7) (by kernel_rfl) rfl (fun K hK => ?_)
          refine vstep_bytesG _ (by rfl) _ _ (by rfl) _ (by rfl) (fun v W => ∃ ba bc, v = .slice ba N bc ∧ W.ownsRow w8.heap.size 5 1 (.slice ba N bc) N (cellsOf (runB out)) ∧ Below wm.heap.size wm W) ((HBb.out w8 ya ym yc hp8).mono (fun e w' ⟨ba, bc, h1, h2, h3⟩ => ⟨_, h1, ba, bc, rfl, h2, hB8.trans (h3.mono hB8.size)⟩)) ?_
          rintro v w9 ⟨ba, bc, rfl, ho9, hB9⟩
          refine hK.out _ _ (SB.on trivial hB9) (fun hSB7 => ?_)
          clear hK K
          try simp only [Act.put, List.getElem_toArray, List.getElem_cons_zero, List.getElem_cons_succ, List.setIfInBounds_toArray, List.set_cons_zero, List.set_cons_succ]
          have hr9 : (convert 23 9 (.slice ba N bc)).run Try.prog w9 = .ok (.string st) w9 := by
            rw [← HST.out]
            exact run_string w9 ba N bc (runB out) (own_slice ho9).1
          refine wpAnyG_one (i := 8) (by kernel_rfl) rfl (fun K hK => ?_)
          refine vstep_strG _ (by rfl) _ (by rfl) _ (by rfl) _ hr9 ?_
          refine hK.out _ _ (SB.on trivial hB9) (fun hSB8 => ?_)
          clear hK K
          try simp only [Act.put, List.getElem_toArray, List.getElem_cons_zero, List.getElem_cons_succ, List.setIfInBounds_toArray, List.set_cons_zero, List.set_cons_succ]
          refine wpAnyG_takeP (i := 9) (v := ?_) rfl (by kernel_rfl) (by kernel_rfl) (by kernel_rfl) (fun _ _ _ h => h) rfl (Or.inl ⟨by rfl, ?_⟩) (by assumption) ?_
          rotate_left
          · intro Y _; go_simp; try with_reducible rfl
          intro hSB9
          try simp only [Act.put, List.getElem_toArray, List.getElem_cons_zero, List.getElem_cons_succ, List.setIfInBounds_toArray, List.set_cons_zero, List.set_cons_succ]
          try simp only [beq_self_eq_true]
          refine wpAnyG_takeP (i := 10) (v := ?_) rfl (by kernel_rfl) (by kernel_rfl) (by kernel_rfl) (fun _ _ _ h => h) rfl (Or.inl ⟨by rfl, ?_⟩) (by assumption) ?_
          rotate_left
          · intro Y _; go_simp; try with_reducible rfl
          intro hSB10
          try simp only [Act.put, List.getElem_toArray, List.getElem_cons_zero, List.getElem_cons_succ, List.setIfInBounds_toArray, List.set_cons_zero, List.set_cons_succ]
          refine wpAnyG_takeP (i := 11) (v := ?_) rfl (by kernel_rfl) (by kernel_rfl) (by kernel_rfl) (fun _ _ _ h => h) rfl (Or.inl ⟨by rfl, ?_⟩) (by assumption) ?_
          rotate_left
          · intro Y _; go_simp; try with_reducible rfl
          intro hSB11
          try simp only [Act.put, List.getElem_toArray, List.getElem_cons_zero, List.getElem_cons_succ, List.setIfInBounds_toArray, List.set_cons_zero, List.set_cons_succ]
          refine wpAnyG_one (i := 12) (by kernel_rfl) rfl (fun K hK => ?_)
          refine vstep_wakesG _ (by rfl) (by rfl) (fun v W => v = .bool true ∧ Below wm.heap.size wm W) ((HW.out w9).mono (fun e w' h => ⟨_, h.1, rfl, hB9.trans (h.2.mono hB9.size)⟩)) ?_
          rintro v w10 ⟨rfl, hB10⟩
          refine hK.out _ _ (SB.on trivial hB10) (fun hSB12 => ?_)
          clear hK K
          try simp only [Act.put, List.getElem_toArray, List.getElem_cons_zero, List.getElem_cons_succ, List.setIfInBounds_toArray, List.set_cons_zero, List.set_cons_succ]
          refine wpAnyG_takeP (i := 13) (v := ?_) rfl (by kernel_rfl) (by kernel_rfl) (by kernel_rfl) (fun _ _ _ h => h) rfl (Or.inl ⟨by rfl, ?_⟩) (by assumption) ?_
          rotate_left
          · intro Y _; go_simp; try with_reducible rfl
          intro hSB13
          try simp only [Act.put, List.getElem_toArray, List.getElem_cons_zero, List.getElem_cons_succ, List.setIfInBounds_toArray, List.set_cons_zero, List.set_cons_succ]
          refine wpAnyG_takeP (i := 14) (v := ?_) rfl (by kernel_rfl) (by kernel_rfl) (by kernel_rfl) (fun _ _ _ h => h) rfl (Or.inl ⟨by rfl, ?_⟩) (by assumption) ?_
          rotate_left
          · intro Y _; go_simp; try with_reducible rfl
          intro hSB14
          try simp only [Act.put, List.getElem_toArray, List.getElem_cons_zero, List.getElem_cons_succ, List.setIfInBounds_toArray, List.set_cons_zero, List.set_cons_succ]
          refine wpAnyG_done (by kernel_rfl) ?_ _
          clear hSB hSB0 hSB1 hSB2 hSB3 hSB4 hSB5 hSB6 hSB7 hSB8 hSB9 hSB10 hSB11 hSB12 hSB13 hSB14
          go_wp2
          go_ret
          exact ⟨rfl, HO.out.2.2.2.1.trans (hB10.mono HO.out.2.2.2.1.size)⟩
        · go_wp2_with first
            | (go_at_call 11; refine hm.mono ?_; clear hm; rintro e wm ⟨mv, er, rfl, hE, hBm⟩; obtain ⟨rfl, rfl⟩ := H.out.wrong hE; have H9 : Hid (Below w.heap.size w wm) := H.out.below.trans (hBm.mono H.out.below.size); clear hE hBm)
            | (go_at_call 5; refine (HW.out _).mono ?_; rintro e w10 ⟨rfl, hB10⟩; have H10 : Hid (Below w.heap.size w w10) := H9.out.trans (hB10.mono H9.out.size); clear hB10)
          go_ret
          exact ⟨rfl, H10.out⟩
      · have i1 : ¬ (k : Int) < (n : Int) := by omega
        obtain ⟨ra, rc, hv8, hrb⟩ := H.out.rows.runs
        subst hv8
        rw [hbl] at hrb
        rw [hbl]
        have hm := merge_any wr ra k rc bs hrb (by omega)
        have hkb : bs.length ≤ 10 := by omega
        cases wrong
        · go_upto_region 24 with (go_at_call 11; refine hm.mono ?_; clear hm; rintro e wm ⟨mv, er, rfl, hE, hBm⟩; obtain ⟨rfl, ad, cp, out, hlen, hok, rfl, ho, huq⟩ := H.out.right hkb hE)
          obtain ⟨hby, hbn, hbc⟩ := own_slice ho
          obtain ⟨N, hN⟩ : ∃ N, N = (runB out).length := ⟨_, rfl⟩
          have HO : Hid (out.length ≤ 2000 ∧ PrOk out ∧ N = (runB out).length ∧ Below w.heap.size w wm ∧ PrOk al ∧ al.length ≤ 2000) := ⟨hlen, hok, hN, H.out.below.trans (hBm.mono H.out.below.size), (H.out.good rfl).1, by have := (H.out.good rfl).2.1; omega⟩
          rw [← hN] at hby
          rw [← hN]
          obtain ⟨xa, xc, hxv, hxp, hxl⟩ := own_prv (row_keptV H.out.all hBm)
          subst hxv
          have HS : Hid (∀ Y, Below wm.heap.size wm Y → Calls Try.prog 6 #[.slice xa al.length xc] Y fun e w' => ∃ v, e = .returned v ∧ (∃ sa sm sc, v = .slice sa sm sc ∧ PrV w' sa sm sc out ∧ Below wm.heap.size wm w')) := fun Y hY => (rsorted_any Y xa al.length xc al (hxp.prs.kept hY) (by have := HO.out.2.2.2.2.2; omega)).mono fun e w' ⟨sa, sm, sc, h1, l', h2, h3, h4⟩ => ⟨_, h1, sa, sm, sc, rfl, by rw [huq l' h3]; exact h2, hY.trans (h4.mono hY.size)⟩
          obtain ⟨st, hst⟩ : ∃ st : ByteArray, ⟨(runB out).toArray⟩ = st := ⟨_, rfl⟩
          have HC : Hid (∀ Y, Below wm.heap.size wm Y → (convert 23 9 (.slice ad N cp)).run Try.prog Y = .ok (.string st) Y) := fun Y hY => by rw [← hst]; exact run_string Y ad N cp (runB out) (vbytes_below hby hY)
          have HBb : Hid (∀ Y sa sm sc, PrV Y sa sm sc out → Calls Try.prog 8 #[.slice sa sm sc] Y fun e w' => ∃ ad cp, e = .returned (.slice ad N cp) ∧ w'.ownsRow Y.heap.size 5 1 (.slice ad N cp) N (cellsOf (runB out)) ∧ Below Y.heap.size Y w') := fun Y sa sm sc hp => by
            have := rbytes_any Y sa sm sc out hp.prs HO.out.2.1 (by have := HO.out.1; have := hp.prs.1; omega)
            rw [← HO.out.2.2.1] at this
            exact this
          have HST : Hid (⟨(runB out).toArray⟩ = st) := hst
          clear hby hbn hbc ho huq hxp hxl hE hBm hok hlen hN hst H hrb
          refine wp_region_G (S := SB 1000 (fun _ => True) (fun Y => Below wm.heap.size wm Y)) hmx ?_
          have hBd : Below wm.heap.size wm wm.drew := ⟨rfl, rfl, rfl, Nat.le_refl _, fun _ _ => rfl⟩
          have hSB : SB 1000 (fun _ => True) (fun Y => Below wm.heap.size wm Y) (Array.replicate 15 false) wm.drew := SB.on trivial hBd
          refine wpAnyG_takeP (i := 0) (v := ?_) rfl (by kernel_rfl) (by kernel_rfl) (by kernel_rfl) (fun _ _ _ h => h) rfl (Or.inl ⟨by rfl, ?_⟩) (by assumption) ?_
          rotate_left
          · intro Y _; go_simp; try with_reducible rfl
          intro hSB0
          try simp only [Act.put, List.getElem_toArray, List.getElem_cons_zero, List.setIfInBounds_toArray, List.set_cons_zero, List.set_cons_succ]
          refine wpAnyG_takeP (i := 1) (v := ?_) rfl (by kernel_rfl) (by kernel_rfl) (by kernel_rfl) (fun _ _ _ h => h) rfl (Or.inl ⟨by rfl, ?_⟩) (by assumption) ?_
          rotate_left
          · intro Y _; go_simp; try with_reducible rfl
          intro hSB1
          try simp only [Act.put, List.getElem_toArray, List.getElem_cons_zero, List.getElem_cons_succ, List.setIfInBounds_toArray, List.set_cons_zero, List.set_cons_succ]
          refine wpAnyG_takeP (i := 2) (v := ?_) rfl (by kernel_rfl) (by kernel_rfl) (by kernel_rfl) (fun _ _ _ h => h) rfl (Or.inl ⟨by rfl, ?_⟩) (by assumption) ?_
          rotate_left
          · intro Y _; go_simp; try with_reducible rfl
          intro hSB2
          try simp only [Act.put, List.getElem_toArray, List.getElem_cons_zero, List.getElem_cons_succ, List.setIfInBounds_toArray, List.set_cons_zero, List.set_cons_succ]
          refine wpAnyG_takeP (i := 3) (v := ?_) rfl (by kernel_rfl) (by kernel_rfl) (by kernel_rfl) (fun _ _ _ h => h) rfl (Or.inl ⟨by rfl, ?_⟩) (by assumption) ?_
          rotate_left
          · intro Y _; go_simp; try with_reducible rfl
          intro hSB3
          try simp only [Act.put, List.getElem_toArray, List.getElem_cons_zero, List.getElem_cons_succ, List.setIfInBounds_toArray, List.set_cons_zero, List.set_cons_succ]
          refine wpAnyG_takeP (i := 5) (v := ?_) rfl (by kernel_rfl) (by kernel_rfl) (by kernel_rfl) (fun _ _ _ h => h) rfl (Or.inl ⟨by rfl, ?_⟩) (by assumption) ?_
          rotate_left
          · intro Y _; go_simp; try with_reducible rfl
          intro hSB5
          try simp only [Act.put, List.getElem_toArray, List.getElem_cons_zero, List.getElem_cons_succ, List.setIfInBounds_toArray, List.set_cons_zero, List.set_cons_succ]
          refine wpAnyG_takeP (i := 4) (v := ?_) rfl (by kernel_rfl) (by kernel_rfl) (by kernel_rfl) (fun _ _ _ h => h) rfl (Or.inl ⟨by rfl, ?_⟩) (by assumption) ?_
          rotate_left
          · intro Y hY; have h4 := HC.out Y hY; go_simp; try with_reducible rfl
          intro hSB4
          try simp only [Act.put, List.getElem_toArray, List.getElem_cons_zero, List.getElem_cons_succ, List.setIfInBounds_toArray, List.set_cons_zero, List.set_cons_succ]
          refine wpAnyG_one (i := 6) (by kernel_rfl) rfl (fun K hK => ?_)
          refine vstep_sortedG _ (by rfl) _ _ (by rfl) _ (by rfl) _ (HS.out wm.drew hBd) ?_
          rintro v w8 ⟨ya, ym, yc, rfl, hp8, hB8⟩
          refine hK.out _ _ (SB.on trivial hB8) (fun hSB6 => ?_)
          clear hK K
          try simp only [Act.put, List.getElem_toArray, List.getElem_cons_zero, List.getElem_cons_succ, List.setIfInBounds_toArray, List.set_cons_zero, List.set_cons_succ]
          refine wpAnyG_one (i := 7) (by kernel_rfl) rfl (fun K hK => ?_)
          refine vstep_bytesG _ (by rfl) _ _ (by rfl) _ (by rfl) (fun v W => ∃ ba bc, v = .slice ba N bc ∧ W.ownsRow w8.heap.size 5 1 (.slice ba N bc) N (cellsOf (runB out)) ∧ Below wm.heap.size wm W) ((HBb.out w8 ya ym yc hp8).mono (fun e w' ⟨ba, bc, h1, h2, h3⟩ => ⟨_, h1, ba, bc, rfl, h2, hB8.trans (h3.mono hB8.size)⟩)) ?_
          rintro v w9 ⟨ba, bc, rfl, ho9, hB9⟩
          refine hK.out _ _ (SB.on trivial hB9) (fun hSB7 => ?_)
          clear hK K
          try simp only [Act.put, List.getElem_toArray, List.getElem_cons_zero, List.getElem_cons_succ, List.setIfInBounds_toArray, List.set_cons_zero, List.set_cons_succ]
          have hr9 : (convert 23 9 (.slice ba N bc)).run Try.prog w9 = .ok (.string st) w9 := by
            rw [← HST.out]
            exact run_string w9 ba N bc (runB out) (own_slice ho9).1
          refine wpAnyG_one (i := 8) (by kernel_rfl) rfl (fun K hK => ?_)
          refine vstep_strG _ (by rfl) _ (by rfl) _ (by rfl) _ hr9 ?_
          refine hK.out _ _ (SB.on trivial hB9) (fun hSB8 => ?_)
          clear hK K
          try simp only [Act.put, List.getElem_toArray, List.getElem_cons_zero, List.getElem_cons_succ, List.setIfInBounds_toArray, List.set_cons_zero, List.set_cons_succ]
          refine wpAnyG_takeP (i := 9) (v := ?_) rfl (by kernel_rfl) (by kernel_rfl) (by kernel_rfl) (fun _ _ _ h => h) rfl (Or.inl ⟨by rfl, ?_⟩) (by assumption) ?_
          rotate_left
          · intro Y _; go_simp; try with_reducible rfl
          intro hSB9
          try simp only [Act.put, List.getElem_toArray, List.getElem_cons_zero, List.getElem_cons_succ, List.setIfInBounds_toArray, List.set_cons_zero, List.set_cons_succ]
          try simp only [beq_self_eq_true]
          refine wpAnyG_takeP (i := 10) (v := ?_) rfl (by kernel_rfl) (by kernel_rfl) (by kernel_rfl) (fun _ _ _ h => h) rfl (Or.inl ⟨by rfl, ?_⟩) (by assumption) ?_
          rotate_left
          · intro Y _; go_simp; try with_reducible rfl
          intro hSB10
          try simp only [Act.put, List.getElem_toArray, List.getElem_cons_zero, List.getElem_cons_succ, List.setIfInBounds_toArray, List.set_cons_zero, List.set_cons_succ]
          refine wpAnyG_takeP (i := 11) (v := ?_) rfl (by kernel_rfl) (by kernel_rfl) (by kernel_rfl) (fun _ _ _ h => h) rfl (Or.inl ⟨by rfl, ?_⟩) (by assumption) ?_
          rotate_left
          · intro Y _; go_simp; try with_reducible rfl
          intro hSB11
          try simp only [Act.put, List.getElem_toArray, List.getElem_cons_zero, List.getElem_cons_succ, List.setIfInBounds_toArray, List.set_cons_zero, List.set_cons_succ]
          refine wpAnyG_one (i := 12) (by kernel_rfl) rfl (fun K hK => ?_)
          refine vstep_wakesG _ (by rfl) (by rfl) (fun v W => v = .bool true ∧ Below wm.heap.size wm W) ((HW.out w9).mono (fun e w' h => ⟨_, h.1, rfl, hB9.trans (h.2.mono hB9.size)⟩)) ?_
          rintro v w10 ⟨rfl, hB10⟩
          refine hK.out _ _ (SB.on trivial hB10) (fun hSB12 => ?_)
          clear hK K
          try simp only [Act.put, List.getElem_toArray, List.getElem_cons_zero, List.getElem_cons_succ, List.setIfInBounds_toArray, List.set_cons_zero, List.set_cons_succ]
          refine wpAnyG_takeP (i := 13) (v := ?_) rfl (by kernel_rfl) (by kernel_rfl) (by kernel_rfl) (fun _ _ _ h => h) rfl (Or.inl ⟨by rfl, ?_⟩) (by assumption) ?_
          rotate_left
          · intro Y _; go_simp; try with_reducible rfl
          intro hSB13
          try simp only [Act.put, List.getElem_toArray, List.getElem_cons_zero, List.getElem_cons_succ, List.setIfInBounds_toArray, List.set_cons_zero, List.set_cons_succ]
          refine wpAnyG_takeP (i := 14) (v := ?_) rfl (by kernel_rfl) (by kernel_rfl) (by kernel_rfl) (fun _ _ _ h => h) rfl (Or.inl ⟨by rfl, ?_⟩) (by assumption) ?_
          rotate_left
          · intro Y _; go_simp; try with_reducible rfl
          intro hSB14
          try simp only [Act.put, List.getElem_toArray, List.getElem_cons_zero, List.getElem_cons_succ, List.setIfInBounds_toArray, List.set_cons_zero, List.set_cons_succ]
          refine wpAnyG_done (by kernel_rfl) ?_ _
          clear hSB hSB0 hSB1 hSB2 hSB3 hSB4 hSB5 hSB6 hSB7 hSB8 hSB9 hSB10 hSB11 hSB12 hSB13 hSB14
          go_wp2
          go_ret
          exact ⟨rfl, HO.out.2.2.2.1.trans (hB10.mono HO.out.2.2.2.1.size)⟩
        · go_wp2_with first
            | (go_at_call 11; refine hm.mono ?_; clear hm; rintro e wm ⟨mv, er, rfl, hE, hBm⟩; obtain ⟨rfl, rfl⟩ := H.out.wrong hE; have H9 : Hid (Below w.heap.size w wm) := H.out.below.trans (hBm.mono H.out.below.size); clear hE hBm)
            | (go_at_call 5; refine (HW.out _).mono ?_; rintro e w10 ⟨rfl, hB10⟩; have H10 : Hid (Below w.heap.size w w10) := H9.out.trans (hB10.mono H9.out.size); clear hB10)
          go_ret
          exact ⟨rfl, H10.out⟩
    | succ g =>
      have hlt : k < n := by omega
      have hk10 : k ≠ 10 := by omega
      obtain ⟨l0, hl0⟩ : ∃ x, rs[k]? = some x := ⟨_, List.getElem?_eq_getElem (by rw [HRs.out.2]; exact hlt)⟩
      obtain ⟨b0, o0, rfl, hc0⟩ := HRs.out.1.cells (by omega)
      obtain ⟨la, ln, lc, t0, hpi⟩ := hc0 k l0 hl0
      have hBw := H.out.below
      have t1 := (hBw.cell (p := ⟨b0, o0 + k, none⟩) (World.block_lt_of_cell? w _ t0)).trans t0
      have i1 : (k : Int) < (n : Int) := by omega
      have i2 : ((k : Int) == 10) = false := by simp; omega
      have i3 : ¬ n ≤ k := by omega
      have hsm := fun W => some_any W la ln lc 60 hpi.cap
      obtain ⟨m6, hm6⟩ : ∃ m6, m6 = min ln 60 := ⟨_, rfl⟩
      rw [← hm6] at hsm
      have hm60 : m6 ≤ 60 := by omega
      have hm6l : m6 ≤ ln := by omega
      have HSm : Hid (∀ W, Calls Try.prog 7 #[.slice la ln lc, .int .i64 60] W fun e w' => e = .returned (.slice la m6 lc) ∧ w' = W) := hsm
      have HP0 : Hid (Prs w la m6 (l0.take m6) ∧ PrOk (l0.take m6)) := ⟨prs_take hpi.prs m6 hm6l, hpi.ok.take m6⟩
      clear hsm hm6 hpi hc0 t0 hl0 hBw
      generalize l0.take m6 = l6 at *
      go_upto_region 11 with first
        | (go_at_call 7; refine (HSm.out _).mono ?_; clear HSm; rintro e w2 ⟨rfl, hw2⟩; subst hw2)
        | (go_at_call 6; refine (rsortedB_any _ la m6 lc l6 (HP0.out.1.kept H.out.below) (by omega)).mono ?_; rintro e w3 ⟨sa3, sm3, sc3, rfl, hS3⟩; obtain ⟨l3, hpv3, hsr3, hB3⟩ := hS3)
      have H3 : Hid (PrQ w3 sa3 sm3 sc3 l3 ∧ Below w2.heap.size w2 w3 ∧ l3.length = sm3 ∧ Good (cutZ l3)) := ⟨hpv3, hB3, hpv3.prs.1, cutZ_good hsr3.ris (hsr3.ok HP0.out.2) (by have := hsr3.len; have := HP0.out.1.1; omega)⟩
      have hsm3 : sm3 ≤ 60 := by have := hsr3.len; have := HP0.out.1.1; have := hpv3.prs.1; omega
      clear hpv3 hsr3 hB3 HP0
      go_cut [40] from 22 to 70 (fun v wx => ∃ cb : Bool, v = .bool cb ∧ Hid (PrQ wx sa3 sm3 sc3 l3 ∧ Below w2.heap.size w2 wx ∧ Good (cutZ l3) ∧ (cb = true → 0 < sm3 ∧ cutZ l3 = l3.drop 1) ∧ (cb = false → cutZ l3 = l3)))
      case first =>
        by_cases hne : 0 < sm3
        · obtain ⟨b3, o3, rfl, hc3⟩ := H3.out.1.prs.2 hne
          obtain ⟨⟨px, py⟩, hp0⟩ : ∃ x, l3[0]? = some x := ⟨_, List.getElem?_eq_getElem (by rw [H3.out.2.2.1]; exact hne)⟩
          obtain ⟨t3, _⟩ := hc3 0 _ hp0
          simp only [Nat.zero_mul, Nat.add_zero] at t3
          have i4 : (0 : Int) < (sm3 : Int) := by omega
          have HD : Hid (∃ r, l3 = (px, py) :: r) := by
            cases l3 with
            | nil => cases hp0
            | cons p r => simp at hp0; exact ⟨r, by rw [hp0]⟩
          clear hc3 hp0
          by_cases hpz : px = 0
          · subst hpz
            go_wp2
            go_meet
            refine ⟨true, rfl, H3.out.1, H3.out.2.1, H3.out.2.2.2, fun _ => ⟨hne, ?_⟩, fun h => (by cases h)⟩
            obtain ⟨r, hr⟩ := HD.out
            rw [hr]
            rfl
          · have i5 : ((px : Int) == 0) = false := by simp; omega
            go_wp2
            go_meet
            refine ⟨false, rfl, H3.out.1, H3.out.2.1, H3.out.2.2.2, fun h => (by cases h), fun _ => ?_⟩
            obtain ⟨r, hr⟩ := HD.out
            rw [hr]
            exact cutZ_no hpz
        · obtain rfl : sm3 = 0 := by omega
          go_wp2
          go_meet
          refine ⟨false, rfl, H3.out.1, H3.out.2.1, H3.out.2.2.2, fun h => (by cases h), fun _ => ?_⟩
          rw [List.eq_nil_of_length_eq_zero H3.out.2.2.1]
          rfl
      case rest =>
        clear H3
        obtain ⟨cb, rfl, HC⟩ := hcut
        obtain ⟨wa, hwa⟩ : ∃ wa, wa = wc := ⟨_, rfl⟩
        subst hwa
        go_upto_if 40 with fail
        go_cut [11] from 22 to 70 (fun v wx => ∃ ca cn cc, v = .slice ca cn cc ∧ cn ≤ 60 ∧ Hid (PrQ wx ca cn cc (cutZ l3) ∧ Below w2.heap.size w2 wx ∧ Good (cutZ l3)))
        case first =>
          cases cb
          · have HZ : Hid (PrQ wa sa3 sm3 sc3 (cutZ l3) ∧ Below w2.heap.size w2 wa ∧ Good (cutZ l3)) := ⟨by rw [HC.out.2.2.2.2 rfl]; exact HC.out.1, HC.out.2.1, HC.out.2.2.1⟩
            go_wp2
            go_meet
            exact ⟨sa3, sm3, sc3, rfl, hsm3, HZ.out⟩
          · obtain ⟨hne, hdr⟩ := HC.out.2.2.2.1 rfl
            obtain ⟨b3, o3, rfl, _⟩ := HC.out.1.prs.2 hne
            have hcp := HC.out.1.cap
            have j1 : (1 : Int) ≤ (sm3 : Int) := by omega
            have j2 : (sm3 : Int) ≤ (sc3 : Int) := by omega
            have HD : Hid (cutZ l3 = l3.drop 1) := hdr
            clear hdr
            by_cases hc1 : sc3 = 1
            · subst hc1
              obtain rfl : sm3 = 1 := by omega
              have HZ : Hid (PrQ wa (some ⟨b3, o3, none⟩) 0 0 (cutZ l3) ∧ Below w2.heap.size w2 wa ∧ Good (cutZ l3)) := ⟨by rw [HD.out]; exact HC.out.1.last hne rfl, HC.out.2.1, HC.out.2.2.1⟩
              go_wp2
              go_meet
              exact ⟨some ⟨b3, o3, none⟩, 0, 0, rfl, by omega, HZ.out⟩
            · have HZ : Hid (PrQ wa (some ⟨b3, o3 + 2, none⟩) (sm3 - 1) (sc3 - 1) (cutZ l3) ∧ Below w2.heap.size w2 wa ∧ Good (cutZ l3)) := ⟨by rw [HD.out]; exact HC.out.1.tail hne, HC.out.2.1, HC.out.2.2.1⟩
              go_wp2
              go_meet
              exact ⟨_, _, _, rfl, by omega, HZ.out⟩
        case rest =>
          obtain ⟨ca, cn, cc, rfl, hcn, H5⟩ := hcut
          obtain ⟨wb, hwb⟩ : ∃ wb, wb = wc := ⟨_, rfl⟩
          subst hwb
          clear HC
          generalize cutZ l3 = CL at *
          have hrb := rbytes_any wb ca cn cc CL H5.out.1.prs H5.out.2.2.ok (by omega)
          go_upto_if 47 with (go_at_call 8; refine hrb.mono ?_; clear hrb; rintro e w4 ⟨ba, bc, rfl, hob, hB4⟩)
          have H6 : Hid (SafeB w.heap.size w4 (.slice ba (runB CL).length bc) (runB CL) ∧ PrQ w4 ca cn cc CL ∧ Below w2.heap.size w2 w4 ∧ pairsR (runB CL) = some CL ∧ CL.length ≤ 200) := ⟨SafeB.own (B := w.heap.size) (owns_baseV hob (by have := H.out.below.size; have := H5.out.2.1.size; omega)) (by have := runB_len CL; have := short_len CL.length; have := H5.out.1.prs.1; omega), H5.out.1.kept hB4, H5.out.2.1.trans (hB4.mono H5.out.2.1.size), pairs_runB H5.out.2.2, by have := H5.out.1.prs.1; omega⟩
          clear hob hB4 H5
          generalize runB CL = RB at *
          generalize RB.length = RN at *
          go_cut [9, 11, 12, 13, 14] from 22 to 70 (fun v9 v11 v12 _ _ wx => ∃ (ok : Bool) (y : List UInt8) (l : List Pr) (la : Option Addr) (ln lc : Nat), v9 = .bool (wrong || !ok) ∧ v11 = .slice la ln lc ∧ ln ≤ 65536 ∧ Hid (SafeB w.heap.size wx v12 y ∧ PrQ wx la ln lc l ∧ Below w2.heap.size w2 wx ∧ ((ok = true ∧ pairsR y = some l) ∨ (ok = false ∧ pairsR y = none)) ∧ (pairsR y = some l → l.length ≤ 200)))
          case first =>
            by_cases hat : (k : Int) = at'
            · have i6 : ((k : Int) == at') = true := by simp [hat]
              clear hat
              cases wrong <;>
              · go_wp2_with fail
                refine (HS2.out w4).mono ?_
                rintro e w5 ⟨rfl, hw5⟩
                have H7 : Hid (Below w.heap.size w w5) := by (rw [hw5]; exact H.out.below.trans (H6.out.2.2.1.mono H.out.below.size))
                subst hw5
                go_wp2_with first
                  | (go_at_call 9; refine (rread_any w5 sa zn sc S (vbytes_below HSp.out.1 H7.out) HSp.out.2.1 HSp.out.2.2.1 (by omega)).mono ?_; rintro e w6 ⟨v6, ok, rfl, hE, hB6⟩; obtain ⟨la, ln, lc, l, rfl, hq, hln, hcase⟩ := hE; have H8 : Hid (PrQ w6 la ln lc l ∧ Below w2.heap.size w2 w6 ∧ ((ok = true ∧ pairsR S = some l) ∨ (ok = false ∧ pairsR S = none)) ∧ Bytes w6 sa zn S) := ⟨hq, H6.out.2.2.1.trans (hB6.mono H6.out.2.2.1.size), hcase, vbytes_below HSp.out.1 (H7.out.trans (hB6.mono H7.out.size))⟩; clear hq hcase hB6)
                  | (go_at_call 10; refine (HS2.out w6).mono ?_; rintro e w7 ⟨rfl, hw7⟩; subst hw7)
                  | (go_at_call 10; refine (HS2.out w4).mono ?_; rintro e w5 ⟨rfl, hw5⟩; have H7 : Hid (Below w.heap.size w w5) := by (rw [hw5]; exact H.out.below.trans (H6.out.2.2.1.mono H.out.below.size)); subst hw5)
                go_meet
                exact ⟨ok, S, l, la, ln, lc, rfl, rfl, hln, ⟨sa, zn, sc, rfl, H8.out.2.2.2, HSp.out.2.1, HSp.out.2.2.1, by omega, fun q e h0 => .inl (HSp.out.2.2.2 q e h0)⟩, H8.out.1, H8.out.2.1, H8.out.2.2.1, fun e => pairs_short e HSl.out⟩
            · have i6 : ((k : Int) == at') = false := by simp [hat]
              clear hat
              go_wp2
              go_meet
              exact ⟨true, RB, CL, ca, cn, cc, by simp, rfl, by omega, H6.out.1, H6.out.2.1, H6.out.2.2.1, .inl ⟨rfl, H6.out.2.2.2.1⟩, fun _ => H6.out.2.2.2.2⟩
          case rest =>
            clear H6
            obtain ⟨ok, y, l, la, ln, lc, rfl, rfl, hln, H7⟩ := hcut
            obtain ⟨wd, hwd⟩ : ∃ wd, wd = wc := ⟨_, rfl⟩
            subst hwd
            obtain ⟨ua, un, uc, hu12, _⟩ := H7.out.1
            subst hu12
            have hBd := H7.out.2.2.1.alloc H7.out.2.2.1.size (.cells #[.slice ua un uc] 23)
            have hBe := (Below.refl wd.heap.size wd).alloc (Nat.le_refl _) (.cells #[.slice ua un uc] 23)
            have hcc : (wd.alloc (.cells #[.slice ua un uc] 23)).cell? ⟨wd.heap.size, 0, none⟩ = some (.slice ua un uc) := by simp
            have H8 : Hid (RowsO w.heap.size (wd.alloc (.cells #[.slice ua un uc] 23)) u8 bs ∧ SafeB w.heap.size (wd.alloc (.cells #[.slice ua un uc] 23)) (.slice ua un uc) y ∧ Below w.heap.size w (wd.alloc (.cells #[.slice ua un uc] 23)) ∧ (wd.alloc (.cells #[.slice ua un uc] 23)).ownsRow w.heap.size 32 2 u7 al.length (prCells al) ∧ PrQ (wd.alloc (.cells #[.slice ua un uc] 23)) la ln lc l ∧ (wd.alloc (.cells #[.slice ua un uc] 23)).cell? ⟨wd.heap.size, 0, none⟩ = some (.slice ua un uc)) :=
              ⟨H.out.rows.below H.out.below.size hBd, H7.out.1.kept (hBe.mono (Nat.le_trans H.out.below.size H7.out.2.2.1.size)) (KeepU.of_below hBe), H.out.below.trans (hBd.mono H.out.below.size), row_keptV H.out.all hBd, H7.out.2.1.kept hBe, hcc⟩
            have HL : Hid (((ok = true ∧ pairsR y = some l) ∨ (ok = false ∧ pairsR y = none)) ∧ (pairsR y = some l → l.length ≤ 200) ∧ (wrong = true → ∃ b ∈ bs, pairsR b = none) ∧ (wrong = false → PrOk al ∧ al.length ≤ 200 * bs.length ∧ ∃ ls : List (List Pr), bs.map pairsR = ls.map some ∧ al = ls.flatten) ∧ l.length = ln) := ⟨H7.out.2.2.2.1, H7.out.2.2.2.2, H.out.bad, H.out.good, H7.out.2.1.prs.1⟩
            clear H7 H hBd hBe hcc
            go_wp2_with first
              | (at_builtin; refine wpList_appG rfl _ _ rfl w.heap.size al.length ln lc u7 al l la rfl rfl H9.out.2.1 H9.out.2.2.1.prs H9.out.2.2.1.nil (by omega) H9.out.2.2.2.size ?_; intro v9 w9 ho9 hB9 hU9 hS9)
              | (at_builtin; refine wpList_pushO rfl _ _ rfl w.heap.size wd.heap.size H8.out.2.2.1.size u8 (.slice ua un uc) bs y rfl H8.out.1 rfl H8.out.2.2.2.2.2 H8.out.2.1 (by omega) ?_; intro v8 w8 hr8 hB8 hU8 hP8; have H9 : Hid (RowsO w.heap.size w8 v8 (bs ++ [y]) ∧ w8.ownsRow w.heap.size 32 2 u7 al.length (prCells al) ∧ PrQ w8 la ln lc l ∧ Below w.heap.size w w8) := ⟨hr8, ownP_kept H8.out.2.2.2.1 hP8, H8.out.2.2.2.2.1.keptT hP8, H8.out.2.2.1.trans hB8⟩; clear hr8 hB8 hU8 hP8)
            have HZ : Hid (MgI w w9 v9 v8 (bs ++ [y]) (al ++ l) (wrong || !ok)) := ⟨H9.out.1.kept hB9 hU9 hS9, by (rw [List.length_append, HL.out.2.2.2.2]; exact ho9), H9.out.2.2.2.trans hB9, mg_bad HL.out.2.2.1 HL.out.1, mg_good HL.out.2.2.2.1 HL.out.1 HL.out.2.1⟩
            clear ho9 hB9 hU9 hS9 H9 H8
            go_roundg g
            case measure => omega
            case rel => exact ⟨k + 1, bs ++ [y], al ++ l, (wrong || !ok), by omega, by go_num, rfl, by simp [hbl], by (rw [List.length_append, HL.out.2.2.2.2]; omega), HZ.out⟩
theorem runMerges_law (w : World) (a : Option Addr) (n c : Nat) (rs : List (List Pr)) (sa : Option Addr) (sn sc : Nat) (sp : List UInt8) (at' : Int) (h : RowsIn w a n c rs) (hs : ByIn w sa sn sc sp) (_ : -9223372036854775808 ≤ at') (_ : at' ≤ 9223372036854775807) :
    Calls Try.prog 3 #[.slice a n c, .slice sa sn sc, .int .i64 at'] w fun e w' => e = .returned (.bool true) ∧ Below w.heap.size w w' :=
  runMerges_walk w a n c rs sa sn sc sp at' h hs
end Go.Proofs.Ytfkepoibgmljkaa
