import Derived.Test.YtdjodigimhgklaaGreatDoorP43
import Derived.Test.YtdjodigimhgklaaGreatDoorP28
import Derived.Test.YtdjodigimhgklaaGreatDoorP22
import Derived.Test.YtdjodigimhgklaaGreatDoorP23
import Derived.Deep.CutRange
import Derived.Deep.CutBlock
import Derived.Deep.LoopGhost
/- The walk of MemoParts. -/
namespace Go.Proofs.YtdjodigimhgklaaGreatDoor
open Go.RowKit Go.Shelf Go.Maps

attribute [local go_sem] Oper.semAt_some

theorem mod_upto (x : Int) (m : Nat) (h : m ≤ 60) : ∃ q : Nat, wrap64 ((IntKind.u64.wrap x).tmod ((m : Int) + 1)) = (q : Int) ∧ q ≤ m := by
  have h0 : 0 ≤ IntKind.u64.wrap x := by simp [IntKind.wrap, IntKind.bits, IntKind.signed]; omega
  generalize IntKind.u64.wrap x = y at h0
  have h1 := Int.tmod_nonneg ((m : Int) + 1) h0
  have h2 := Int.tmod_lt_of_pos y (show (0 : Int) < (m : Int) + 1 by omega)
  refine ⟨(y.tmod ((m : Int) + 1)).toNat, ?_, by omega⟩
  unfold wrap64
  omega

set_option maxRecDepth 100000 in
set_option maxHeartbeats 8000000 in
theorem memoParts_walk (w : World) (a : Option Addr) (n c : Nat) (l : List Pr) (h : PrIn w a n c l) (pa : Option Addr) (pn pc : Nat) (pl : List Int) (hI : InIn w pa pn pc pl) :
    Calls Tryz.prog 7 #[.slice a n c, .slice pa pn pc] w fun e w' => e = .returned (.bool true) ∧ Below w.heap.size w w' := by
  have hwk := wakes18 w
  have HL : Hid (PrIn w a n c l ∧ InIn w pa pn pc pl) := ⟨h, hI⟩
  have hcap := h.cap
  clear h hI
  go_enter Tryz.func7, Tryz.ntmps7
  go_upto_if 19 with (go_at_call 8; refine hwk.mono ?_; clear hwk; rintro e w1 ⟨rfl, hB1⟩)
  go_cut [0] from 14 to 200 (fun v wx => ∃ (k cc : Nat), v = .slice a k cc ∧ k ≤ cc ∧ wx = w1 ∧ Hid (PrV w a k cc (l.take k) ∧ (l.take k).length = k ∧ k ≤ 60))
  case first =>
    by_cases hn : n ≤ 60
    · have i1 : ¬ (60 : Int) < (n : Int) := by omega
      have HF : Hid (PrV w a n c (l.take n) ∧ (l.take n).length = n ∧ n ≤ 60) := by
        have hl := HL.out.1.prs.1
        rw [List.take_of_length_le (Nat.le_of_eq hl)]
        exact ⟨⟨HL.out.1.prs, HL.out.1.nil, HL.out.1.cap⟩, hl, hn⟩
      go_wp2_with fail
      go_meet
      case rel => exact ⟨n, c, rfl, hcap, rfl, HF⟩
    · have i1 : (60 : Int) < (n : Int) := by omega
      have HF : Hid (PrV w a 60 c (l.take 60) ∧ (l.take 60).length = 60 ∧ 60 ≤ 60) := by
        have hl := HL.out.1.prs.1
        exact ⟨⟨prs_take HL.out.1.prs 60 (by omega), fun e => (by have := HL.out.1.nil e; omega), (by omega)⟩, (by rw [List.length_take]; omega), Nat.le_refl _⟩
      go_wp2_with fail
      go_meet
      case rel => exact ⟨60, c, rfl, (by omega), rfl, HF⟩
  case rest =>
    obtain ⟨k, cc, rfl, hkc, rfl, HF⟩ := hcut
    have HL2 : Hid (PrV w a k cc (l.take k) ∧ (l.take k).length = k ∧ k ≤ 60 ∧ PrOk (l.take k) ∧ InIn w pa pn pc pl) := ⟨HF.out.1, HF.out.2.1, HF.out.2.2, HL.out.1.ok.take k, HL.out.2⟩
    clear HF HL
    generalize l.take k = L at *
    have hk60 := HL2.out.2.2.1
    have HB1 : Hid (Below w.heap.size w wc) := hB1
    have hmk := make_any wc a k cc L (HL2.out.1.kept hB1).prs HL2.out.2.2.2.1 HL2.out.1.nil (by omega)
    have hwk : Hid (∀ W, Calls Tryz.prog 8 #[] W fun e w' => e = .returned (.bool true) ∧ Below W.heap.size W w') := wakes18
    clear hB1
    go_upto_if 28 with (go_at_call 35; refine hmk.mono ?_; clear hmk; rintro e w2 ⟨v, er, rfl, hE, hB2⟩)
    have HB2 : Hid (Below w.heap.size w w2) := HB1.out.trans (hB2.mono HB1.out.size)
    have hE2 : er ≠ 0 ∨ (er = 0 ∧ (∀ p ∈ L, p.1 ≠ 0) ∧ Once L) := by
      rcases hE with ⟨_, _, e⟩ | ⟨_, _, _, e⟩ | ⟨d, ad, cp, _, _, h0, ho, _, e, _⟩
      · exact .inl (by omega)
      · exact .inl (by omega)
      · exact .inr ⟨e, h0, ho⟩
    clear hE hB2 HB1
    rcases hE2 with hne | ⟨rfl, h0, ho⟩
    · have i1 : (er != 0) = true := by simpa using hne
      go_wp2_with (go_at_call 8; refine (hwk.out _).mono ?_; rintro e w3 ⟨rfl, hB3⟩)
      go_ret
      exact ⟨rfl, HB2.out.trans (hB3.mono HB2.out.size)⟩
    · have HO : Hid ((∀ p ∈ L, p.1 ≠ 0) ∧ Once L) := ⟨h0, ho⟩
      clear h0 ho
      have hnw := new_any w2
      go_upto_region 9 with first
        | (go_at_call 10; refine hop.mono ?_; clear hop; rintro e w4 ⟨hT4, m1, j1, rfl, hS4⟩)
        | (go_at_call 9; refine hnw.mono ?_; clear hnw; rintro e w3 ⟨rfl, hd3, hB3⟩; have hop := st_opens L w3 _ _ hd3)
      have hS1 : ∃ Q1, St L Q1 0 L.length w4 m1 (w2.heap.size + 1) j1 ∧ Below w.heap.size w w4 ∧ (∀ i, Q1 i → w.heap.size ≤ i ∧ i < w4.heap.size) := by
        have h2 := HB2.out.size
        have h3 := hB3.size
        have h4 := hT4.size
        have hl := hd3.lt
        refine ⟨_, hS4, HB2.out.trans ((hB3.mono h2).trans (hT4.below (by omega) (fun i hi => by omega))), fun i hi => ?_⟩
        rcases hi with hi | hi
        · have := hl i hi; omega
        · omega
      obtain ⟨Q1, hS1, hB4, hq1⟩ := hS1
      have HQ1 : Hid (St L Q1 0 L.length w4 m1 (w2.heap.size + 1) j1 ∧ Below w.heap.size w w4 ∧ (∀ i, Q1 i → w.heap.size ≤ i ∧ i < w4.heap.size)) := ⟨hS1, hB4, hq1⟩
      generalize w2.heap.size + 1 = d1 at *
      clear hS1 hB4 hq1 hS4 hT4 hd3 hB3 HB2
      have hnw := new_any w4
      go_upto_if 51 with first
        | (go_at_call 13; refine had.mono ?_; clear had; rintro e w7 ⟨rfl, hT7, hS7⟩)
        | (go_at_call 10; refine hop.mono ?_; clear hop; rintro e w6 ⟨hT6, m2, j2, rfl, hS6⟩; have hS2 : ∃ Q2, St L Q2 0 L.length w6 m2 (w4.heap.size + 1) j2 ∧ Below w4.heap.size w4 w6 ∧ (∀ i, Q2 i → w4.heap.size ≤ i ∧ i < w6.heap.size) := (by
            have h3 := hB5.size
            have h4 := hT6.size
            have hl := hd5.lt
            refine ⟨_, hS6, hB5.trans (hT6.below (by omega) (fun i hi => by omega)), fun i hi => ?_⟩
            rcases hi with hi | hi
            · have := hl i hi; omega
            · omega); obtain ⟨Q2, hS2, hB6, hq2⟩ := hS2; have HQ2 : Hid (St L Q2 0 L.length w6 m2 (w4.heap.size + 1) j2 ∧ Below w4.heap.size w4 w6 ∧ (∀ i, Q2 i → w4.heap.size ≤ i ∧ i < w6.heap.size)) := ⟨hS2, hB6, hq2⟩; have had := (HQ1.out.1.below hB6).add (fun i hi => by have := HQ1.out.2.2 i hi; have := hB6.size; omega) (by decide) (by rw [HL2.out.2.1]; exact hk60) HL2.out.2.2.2.1 HO.out.1 HO.out.2 a k cc (by rw [HL2.out.2.1]; exact Nat.le_refl _) (by rw [HL2.out.2.1, Nat.sub_self, List.drop_zero, List.take_of_length_le (Nat.le_of_eq HL2.out.2.1)]; exact HL2.out.1.kept (HQ1.out.2.1.trans (hB6.mono HQ1.out.2.1.size))); clear hS2 hB6 hq2 hS6 hT6 hd5 hB5)
        | (go_at_call 9; refine hnw.mono ?_; clear hnw; rintro e w5 ⟨rfl, hd5, hB5⟩; have hop := st_opens L w5 _ _ hd5)
      have hS : ∃ P1 P2, St L P1 1 0 w7 m1 d1 j1 ∧ St L P2 0 k w7 m2 (w4.heap.size + 1) j2 ∧ Below w.heap.size w w7 ∧ (∀ i, P1 i → w.heap.size ≤ i ∧ i < w7.heap.size) ∧ (∀ i, P2 i → w.heap.size ≤ i ∧ i < w7.heap.size ∧ ¬ P1 i) := by
        have e1 := HQ1.out.2.1.size
        have e2 := HQ2.out.2.1.size
        have e3 := hT7.size
        rw [HL2.out.2.1] at hS7 HQ2
        rw [Nat.sub_self] at hS7
        refine ⟨_, Q2, hS7, HQ2.out.1.turn hT7 (fun i hi e => by have := HQ1.out.2.2 i e; have := HQ2.out.2.2 i hi; omega), HQ1.out.2.1.trans ((HQ2.out.2.1.mono e1).trans (hT7.below (by omega) (fun i hi => (HQ1.out.2.2 i hi).1))), fun i hi => ?_, fun i hi => ?_⟩
        · rcases hi with hi | hi
          · have := HQ1.out.2.2 i hi; omega
          · omega
        · have h2 := HQ2.out.2.2 i hi
          refine ⟨by omega, by omega, fun e => ?_⟩
          rcases e with e | e
          · have := HQ1.out.2.2 i e; omega
          · omega
      clear hS7 hT7 HQ1 HQ2
      obtain ⟨P1, P2, hS1, hS2, hB7, hp1, hp2⟩ := hS
      have HS : Hid (St L P1 1 0 w7 m1 d1 j1 ∧ St L P2 0 k w7 m2 (w4.heap.size + 1) j2 ∧ Below w.heap.size w w7 ∧ (∀ i, P1 i → w.heap.size ≤ i ∧ i < w7.heap.size) ∧ (∀ i, P2 i → w.heap.size ≤ i ∧ i < w7.heap.size ∧ ¬ P1 i)) := ⟨hS1, hS2, hB7, hp1, hp2⟩
      clear hS1 hS2 hB7 hp1 hp2
      generalize w4.heap.size + 1 = d2 at *
      have hr0 := row_emptyV w7 w7.heap.size (Nat.le_refl _)
      have HP : Hid (Prs (w7.alloc (.cells #[] 39)) a k L ∧ Below w7.heap.size w7 (w7.alloc (.cells #[] 39))) := ⟨(HL2.out.1.kept (HS.out.2.2.1.alloc HS.out.2.2.1.size _)).prs, (Below.refl _ w7).alloc (Nat.le_refl _) _⟩
      go_upto_region 13 with (at_builtin; refine wpList_appV rfl _ _ rfl w7.heap.size 0 k cc (.slice (some ⟨w7.heap.size, 0, none⟩) 0 0) [] L a rfl rfl hr0 HP.out.1 HL2.out.1.nil (by omega) HP.out.2.size ?_; intro ra rc w8 hnc hown hB8; simp only [Nat.zero_add, List.nil_append] at hnc hown)
      have hR : ∃ rb ro, (0 < k → ra = some ⟨rb, ro, none⟩ ∧ w7.heap.size ≤ rb ∧ rb < w8.heap.size) ∧ (ra = none → k = 0 ∧ rc = 0) := by
        obtain ⟨_, _, e0, _, e2⟩ := row_shapeV hown
        cases e0
        rcases hown.2 with ⟨e, _⟩ | ⟨g, cap, cur, e, hg, hc, _⟩
        · cases e
          exact ⟨0, 0, fun h => by have := (e2 rfl).1; omega, e2⟩
        · cases e
          exact ⟨g, 0, fun _ => ⟨rfl, hg, (Array.getElem?_eq_some_iff.1 hc).1⟩, e2⟩
      obtain ⟨rb, ro, hra, hrn⟩ := hR
      have hpr := own_prs hown HL2.out.2.1
      have HR : Hid ((0 < k → ra = some ⟨rb, ro, none⟩ ∧ w7.heap.size ≤ rb ∧ rb < w8.heap.size) ∧ (ra = none → k = 0 ∧ rc = 0) ∧ Prs w8 ra k L) := ⟨hra, hrn, hpr⟩
      have HS8 : Hid (St L P1 1 0 w8 m1 d1 j1 ∧ St L P2 0 k w8 m2 d2 j2 ∧ Below w.heap.size w w8 ∧ (∀ i, P1 i → w.heap.size ≤ i ∧ i < w7.heap.size) ∧ (∀ i, P2 i → w.heap.size ≤ i ∧ i < w7.heap.size ∧ ¬ P1 i) ∧ w7.heap.size ≤ w8.heap.size) := by
        have hb := HP.out.2.trans hB8
        have hs := hb.size
        exact ⟨HS.out.1.below hb, HS.out.2.1.below hb, HS.out.2.2.1.trans (hb.mono HS.out.2.2.1.size), HS.out.2.2.2.1, HS.out.2.2.2.2, hs⟩
      clear hra hrn hpr hown hB8 HP HS
      go_upto_block 0 with fail
      go_cut [11] from 12 to 200 (fun v wx => ∃ (i m : Nat), i ≤ 9 ∧ m ≤ k ∧ v = .slice ra m rc ∧ Hid (∃ P, St L P i m wx m2 d2 j2 ∧ (∀ j, P j → (P2 j ∨ w8.heap.size ≤ j) ∧ j < wx.heap.size) ∧ Turn P2 w8 wx))
      case first =>
        have hpn := HL2.out.2.2.2.2.ints.1
        have hpn2 := HL2.out.2.2.2.2.sml
        have H0 : Hid (∃ P, St L P 0 k w8 m2 d2 j2 ∧ (∀ j, P j → (P2 j ∨ w8.heap.size ≤ j) ∧ j < w8.heap.size) ∧ Turn P2 w8 w8) := ⟨P2, HS8.out.2.1, fun j hj => ⟨.inl hj, by have := HS8.out.2.2.2.2.1 j hj; have := HS8.out.2.2.2.2.2; omega⟩, Turn.refl _ _⟩
        go_wp2_with fail
        go_loopg [11, 57] pn (fun g v u wr => ∃ (i m : Nat), i + g = pn ∧ i ≤ 9 ∧ m ≤ k ∧ v = .slice ra m rc ∧ u = .int .i64 (i : Int) ∧ Hid (∃ P, St L P i m wr m2 d2 j2 ∧ (∀ j, P j → (P2 j ∨ w8.heap.size ≤ j) ∧ j < wr.heap.size) ∧ Turn P2 w8 wr))
        case atStart => exact ⟨0, k, by omega, Nat.zero_le _, Nat.le_refl _, rfl, rfl, H0⟩
        case round =>
          obtain ⟨i, m, hig, hi9, hmk, rfl, rfl, HI⟩ := hrel
          by_cases hlt : i < pn
          · obtain ⟨g, rfl⟩ : ∃ g, gk = g + 1 := ⟨gk - 1, by omega⟩
            by_cases h9 : i = 9
            · subst h9
              obtain ⟨x, hx⟩ : ∃ x, pl[9]? = some x := ⟨_, List.getElem?_eq_getElem (by omega)⟩
              obtain ⟨pb, po, rfl, hpc⟩ := HL2.out.2.2.2.2.ints.2 (by omega)
              have hcx0 := hpc 9 x hx
              have i5 : ((9 : Nat) : Int) < (pn : Int) := by omega
              obtain ⟨P, hSt, hPj, hTr⟩ := HI.out
              have hBr : Below w.heap.size w8 wr := hTr.below (by have := HS8.out.2.2.1.size; omega) (fun j hj => (HS8.out.2.2.2.2.1 j hj).1)
              have hcx : wr.cell? ⟨pb, po + 9, none⟩ = some (.int .i64 x) := ((HS8.out.2.2.1.trans hBr).cell (p := ⟨pb, po + 9, none⟩) (World.block_lt_of_cell? w _ hcx0)).trans hcx0
              clear hpc hcx0 hx hSt hPj hTr hBr H0 HR HS8 hr0
              go_wp2_with fail
              go_meet
              case rel => exact ⟨9, m, Nat.le_refl _, hmk, rfl, HI⟩
            · obtain ⟨x, hx⟩ : ∃ x, pl[i]? = some x := ⟨_, List.getElem?_eq_getElem (by omega)⟩
              have hxr := HL2.out.2.2.2.2.rng x (List.mem_of_getElem? hx)
              obtain ⟨pb, po, rfl, hpc⟩ := HL2.out.2.2.2.2.ints.2 (by omega)
              have hcx0 := hpc i x hx
              have i5 : (i : Int) < (pn : Int) := by omega
              have i6 : ((i : Int) == 9) = false := by simp; omega
              obtain ⟨P, hSt, hPj, hTr⟩ := HI.out
              have hBr : Below w.heap.size w8 wr := hTr.below (by have := HS8.out.2.2.1.size; omega) (fun j hj => (HS8.out.2.2.2.2.1 j hj).1)
              have hcx : wr.cell? ⟨pb, po + i, none⟩ = some (.int .i64 x) := (HS8.out.2.2.1.trans hBr).cell (p := ⟨pb, po + i, none⟩) (World.block_lt_of_cell? w _ hcx0) |>.trans hcx0
              obtain ⟨q, hq, hqm⟩ := mod_upto x m (by omega)
              obtain ⟨av, hav⟩ : ∃ av, av = if rc = m - q then ra else Option.map (fun x : Addr => x.add ((m - q) * 2)) ra := ⟨_, rfl⟩
              have hlL := HL2.out.2.1
              have hpv : PrV wr av q (rc - (m - q)) ((L.take m).drop (m - q)) := by
                refine ⟨⟨by rw [List.length_drop, List.length_take]; omega, fun h0 => ?_⟩, fun e => ?_, by omega⟩
                · obtain ⟨e1, hb1, hb2⟩ := HR.out.1 (by omega)
                  rw [if_neg (by omega), e1] at hav
                  obtain ⟨b3, o3, e3, hc3⟩ := HR.out.2.2.2 (by omega)
                  rw [e1] at e3
                  cases e3
                  refine ⟨rb, ro + (m - q) * 2, by rw [hav, Option.map_some, Addr.add_lit], fun t y hy => ?_⟩
                  rw [List.getElem?_drop] at hy
                  have hy2 : L[m - q + t]? = some y := by
                    have hlt2 := (List.getElem?_eq_some_iff.1 hy).1
                    rw [List.length_take] at hlt2
                    rwa [List.getElem?_take_of_lt (by omega)] at hy
                  obtain ⟨t1, t2⟩ := hc3 _ y hy2
                  have hne : ¬ P2 rb := fun e => by have := HS8.out.2.2.2.2.1 rb e; omega
                  rw [show ro + (m - q) * 2 + t * 2 = ro + (m - q + t) * 2 by omega]
                  exact ⟨hTr.cell t1 hne, hTr.cell t2 hne⟩
                · have hrn2 : ra = none := by
                    rw [hav] at e
                    split at e
                    · exact e
                    · exact Option.map_eq_none_iff.1 e
                  have := HR.out.2.1 hrn2
                  omega
              have had := hSt.add (fun j hj => (hPj j hj).2) (by omega) (by rw [hlL]; exact hk60) HL2.out.2.2.2.1 HO.out.1 HO.out.2 av q (rc - (m - q)) hqm hpv
              have HN : Hid (∀ w', Turn P wr w' → St L (grow P wr w') (i + 1) (m - q) w' m2 d2 j2 → ∃ P, St L P (i + 1) (m - q) w' m2 d2 j2 ∧ (∀ j, P j → (P2 j ∨ w8.heap.size ≤ j) ∧ j < w'.heap.size) ∧ Turn P2 w8 w') := by
                refine fun w' hT hS => ⟨_, hS, fun j hj => ?_, hTr.trans hT (fun j hj e => (hPj j e).1.elim id (fun e => by omega))⟩
                have h1 := hTr.size
                have h2 := hT.size
                rcases hj with hj | hj
                · have := hPj j hj; exact ⟨this.1, by omega⟩
                · exact ⟨.inr (by omega), by omega⟩
              have E1 : Hid (m - (m - q) = q) := (by omega : m - (m - q) = q)
              have HAD : Hid (Calls Tryz.prog 13 #[.pointer (some ⟨m2, 0, none⟩), .slice av q (rc - (m - q))] wr fun e w' => e = .returned (.int .i64 0) ∧ Turn P wr w' ∧ St L (grow P wr w') (i + 1) (m - q) w' m2 d2 j2) := had
              clear had
              clear hpc hcx0 hx hSt hPj hTr hBr hpv
              by_cases hz : rc = m - q
              · rw [if_pos hz] at hav
                subst hav
                obtain rfl : q = 0 := by omega
                obtain rfl : rc = m := by omega
                clear hz E1
                simp only [Nat.sub_zero, Nat.sub_self] at HAD HN
                go_upto_region 18 with fail
                simp only [hq]
                clear hq HI HR HS8 hr0
                go_wp2_with (go_at_call 13; go_loud (refine HAD.out.mono ?_; clear HAD; rintro e w' ⟨rfl, hT', hS'⟩; have HN2 := HN.out w' hT' hS'; clear hT' hS'))
                go_roundg g
                case measure => omega
                case rel => exact ⟨i + 1, _, by omega, by omega, hmk, rfl, by go_num, HN2⟩
              · rw [if_neg hz] at hav
                subst hav
                go_upto_region 18 with fail
                simp only [hq]
                clear hq HI HR HS8 hr0
                go_wp2_with (go_at_call 13; go_loud (rw [E1.out]; refine HAD.out.mono ?_; clear HAD; rintro e w' ⟨rfl, hT', hS'⟩; have HN2 := HN.out w' hT' hS'; clear hT' hS'))
                go_roundg g
                case measure => omega
                case rel => exact ⟨i + 1, m - q, by omega, by omega, by omega, by go_num, rfl, HN2⟩
          · obtain rfl : i = pn := by omega
            have i5 : ¬ (i : Int) < (i : Int) := by omega
            go_wp2_with fail
            go_meet
            case rel => exact ⟨i, m, hi9, hmk, rfl, HI⟩
      case rest =>
        obtain ⟨i, m, hi9, hmk, rfl, HI⟩ := hcut
        obtain ⟨P, hSt, hPj, hTr⟩ := HI.out
        have hlL := HL2.out.2.1
        have hpv : PrV wc ra m rc ((L.take m).drop (m - m)) := by
          refine ⟨⟨by rw [List.length_drop, List.length_take]; omega, fun h0 => ?_⟩, fun e => by have := HR.out.2.1 e; omega, by omega⟩
          obtain ⟨e1, hb1, hb2⟩ := HR.out.1 (by omega)
          obtain ⟨b3, o3, e3, hc3⟩ := HR.out.2.2.2 (by omega)
          rw [e1] at e3
          cases e3
          refine ⟨rb, ro, e1, fun t y hy => ?_⟩
          rw [Nat.sub_self, List.drop_zero] at hy
          have hlt2 := (List.getElem?_eq_some_iff.1 hy).1
          rw [List.length_take] at hlt2
          rw [List.getElem?_take_of_lt (by omega)] at hy
          obtain ⟨t1, t2⟩ := hc3 _ y hy
          have hne : ¬ P2 rb := fun e => by have := HS8.out.2.2.2.2.1 rb e; omega
          exact ⟨hTr.cell t1 hne, hTr.cell t2 hne⟩
        have had := hSt.add (fun j hj => (hPj j hj).2) (by omega) (by rw [hlL]; exact hk60) HL2.out.2.2.2.1 HO.out.1 HO.out.2 ra m rc (Nat.le_refl _) hpv
        rw [Nat.sub_self] at had
        have HAD : Hid (Calls Tryz.prog 13 #[.pointer (some ⟨m2, 0, none⟩), .slice ra m rc] wc fun e w' => e = .returned (.int .i64 0) ∧ Turn P wc w' ∧ St L (grow P wc w') (i + 1) 0 w' m2 d2 j2) := had
        have HN : Hid (∀ w', Turn P wc w' → St L (grow P wc w') (i + 1) 0 w' m2 d2 j2 → ∃ P', St L P' (i + 1) 0 w' m2 d2 j2 ∧ St L P1 1 0 w' m1 d1 j1 ∧ Below w.heap.size w w') := by
          refine fun w' hT hS => ⟨_, hS, (HS8.out.1.turn hTr (fun j hj e => (HS8.out.2.2.2.2.1 j e).2.2 hj)).turn hT (fun j hj e => ?_), HS8.out.2.2.1.trans ((hTr.trans hT (fun j hj e => (hPj j e).1.elim id (fun e => by omega))).below (by have := HS8.out.2.2.1.size; omega) (fun j hj => (HS8.out.2.2.2.2.1 j hj).1))⟩
          have h1 := HS8.out.2.2.2.1 j hj
          have h2 := HS8.out.2.2.2.2.2
          rcases (hPj j e).1 with h3 | h3
          · exact (HS8.out.2.2.2.2.1 j h3).2.2 hj
          · omega
        have HLL : Hid (L.length ≤ 60) := (by rw [hlL]; exact hk60 : L.length ≤ 60)
        clear hSt hPj hTr hpv had HI HR HS8 hr0
        go_upto_region 24 with first
          | (go_at_call 15; go_loud (rw [EQ] at HP1; refine (ypairs_same w11 ad1 ad2 ps2.length ac1 ac2 ps2 HP1 HP2 (by omega)).mono ?_; rintro e w12 ⟨rfl, hB12⟩; have HB12 : Hid (Below w9.heap.size w9 w12) := HB11.out.trans (hB12.mono HB11.out.size)))
          | (go_at_call 33; go_loud (first
              | (refine hall2.mono ?_; clear hall2; rintro e w11 ⟨v2, ps2, rfl, hr2, hn2, hk2, hown2, hB11⟩; obtain ⟨ad2, ac2, _, _, _⟩ := row_shapeV hown2; subst_vars; have HP2 := own_prs hown2 rfl; have HP1 := HP1a.kept hB11; have EQ : ps1 = ps2 := ris_ext _ _ hr1 hr2 (fun x => (hk1 x).trans (hk2 x).symm); have HB11 : Hid (Below w9.heap.size w9 w11) := hB10.trans (hB11.mono hB10.size))
              | (refine (HS9.out.2.1.all HLL.out).mono ?_; rintro e w10 ⟨v1, ps1, rfl, hr1, hn1, hk1, hown1, hB10⟩; obtain ⟨ad1, ac1, _, _, _⟩ := row_shapeV hown1; subst_vars; have HP1a := own_prs hown1 rfl; have hall2 := (HS9.out.1.below hB10).all HLL.out)))
          | (go_at_call 13; go_loud (refine HAD.out.mono ?_; clear HAD; rintro e w9 ⟨rfl, hT', hS'⟩; obtain ⟨P', HN2⟩ := HN.out w9 hT' hS'; have HS9 : Hid (St L P' (i + 1) 0 w9 m2 d2 j2 ∧ St L P1 1 0 w9 m1 d1 j1 ∧ Below w.heap.size w w9) := HN2; clear hT' hS' HN2))
        have hrun2 := fun W (hW : Below w12.heap.size w12 W) => ((HS9.out.1.below HB12.out).below hW).runs
        have HRN : Hid (∀ W, Below w12.heap.size w12 W → Calls Tryz.prog 31 #[.pointer (some ⟨m2, 0, none⟩)] W fun e w' => ∃ ad n c, e = .returned (.slice ad n c) ∧ n ≤ 4 ∧ Below W.heap.size W w') := hrun2
        have hrun1 : Calls Tryz.prog 31 #[.pointer (some ⟨m1, 0, none⟩)] w12 fun e w' => ∃ ad n c, e = .returned (.slice ad n c) ∧ n ≤ 4 ∧ Below w12.heap.size w12 w' := (HS9.out.2.1.below HB12.out).runs
        clear hrun2
        go_wp2_with first
          | (go_at_call 8; go_loud (refine (hwk.out _).mono ?_; rintro e w15 ⟨rfl, hB15⟩; have HB15 : Hid (Below w12.heap.size w12 w15) := HB14.out.trans (hB15.mono HB14.out.size); clear hB15))
          | (go_at_call 31; go_loud (first
              | (refine hrun1.mono ?_; clear hrun1; rintro e w13 ⟨ad3, n3, c3, rfl, hn3, hB13⟩; have i3 : (n3 : Int) ≤ 4 := (by omega); have HB13 : Hid (Below w12.heap.size w12 w13) := hB13; clear hB13)
              | (refine (HRN.out _ HB13.out).mono ?_; rintro e w14 ⟨ad4, n4, c4, rfl, hn4, hB14⟩; have i4 : (n4 : Int) ≤ 4 := (by omega); have HB14 : Hid (Below w12.heap.size w12 w14) := HB13.out.trans (hB14.mono HB13.out.size); clear hB14)))
        go_ret
        have h9 := HS9.out.2.2
        exact ⟨rfl, (h9.trans (HB12.out.mono h9.size)).trans (HB15.out.mono (by have := h9.size; have := HB12.out.size; omega))⟩
end Go.Proofs.YtdjodigimhgklaaGreatDoor
