import Derived.Test.YtdjodigimhgklaaGreatDoorMD43
import Derived.Test.YtdjodigimhgklaaGreatDoorMD22
import Derived.Test.YtdjodigimhgklaaGreatDoorMD20
import Derived.Laws.Bits64b
import Derived.Deep.CutRange
import Derived.Deep.CutBlock
import Derived.Deep.LoopGhost
/- The walk of MemoCut. -/
namespace Go.Proofs.YtdjodigimhgklaaGreatDoor
open Go.RowKit Go.Shelf Go.Maps

attribute [local go_sem] Oper.semAt_some

theorem or_one (key : Nat) (h : key < 18446744073709551616) : ∃ K : Nat, bits .or .u64 (key : Int) 1 = (K : Int) ∧ K ≠ 0 ∧ K < 18446744073709551616 :=
  ⟨key ||| 1, by have := bits_or_u64_nat key 1 h (by decide); simpa using this, by have : 1 ≤ key ||| 1 := Nat.right_le_or; omega, Nat.or_lt_two_pow (n := 64) h (by decide)⟩
theorem mod_120 (x : Int) : ∃ q : Nat, wrap64 ((IntKind.u64.wrap x).tmod 120) = (q : Int) ∧ q ≤ 120 := by
  have h0 : 0 ≤ IntKind.u64.wrap x := by simp [IntKind.wrap, IntKind.bits, IntKind.signed]; omega
  generalize IntKind.u64.wrap x = y at h0
  have h1 := Int.tmod_nonneg 120 h0
  have h2 := Int.tmod_lt_of_pos y (show (0 : Int) < 120 by omega)
  refine ⟨(y.tmod 120).toNat, ?_, by omega⟩
  unfold wrap64
  omega
theorem fact_old {P P2 l : List Pr} (h : Fact P P2 l) : ∃ ob : Bool, (ob = true → P2 = P) ∧ (ob = false → P2 ≠ P ∧ P.length < P2.length) := by
  obtain ⟨_, _, _, _, dd, news, _, _, _, _, _, hn0, hP⟩ := h
  by_cases e : P2 = P
  · exact ⟨true, fun _ => e, fun h => absurd h (by decide)⟩
  · refine ⟨false, fun h => absurd h (by decide), fun _ => ⟨e, ?_⟩⟩
    rw [hP.resolve_left e, mergeM_len]
    have := List.length_pos_iff.2 hn0
    omega
theorem fact_look {P P2 l : List Pr} (h : Fact P P2 l) : ∀ p ∈ P, lookP P2 p.1 = some p.2 := fun p hp => by
  obtain ⟨hr, _, _, _, dd, news, hg, _, _, _, hnw, hn0, hP⟩ := h
  obtain ⟨hsub, hdj⟩ := newsR_sub hnw
  rcases hP with e | e
  · rw [e]; exact ris_mem_look hr hp
  · rw [e, mergeM_look hr (hg.rs.sublist hsub) hdj, ris_mem_look hr hp]; rfl

theorem CutI.below {w wr : World} {m d key k : Nat} (h : CutI w wr m d key k) : Below w.heap.size w wr := by
  obtain ⟨_, _, _, _, _, _, _, _, _, _, hB⟩ := h
  exact hB

set_option maxRecDepth 100000 in
set_option maxHeartbeats 16000000 in
theorem memoCut_walk (w : World) (key : Nat) (hkey : key < 18446744073709551616) (a : Option Addr) (n c : Nat) (ls : List (List Pr)) (h : RowsIn w a n c ls) (nn : Int) :
    Calls Tryz.prog 6 #[.int .u64 (key : Int), .slice a n c, .int .i64 nn] w fun e w' => e = .returned (.bool true) ∧ Below w.heap.size w w' := by
  have hwk := wakes18 w
  have HWk : Hid (∀ W, Calls Tryz.prog 8 #[] W fun e w' => e = .returned (.bool true) ∧ Below W.heap.size W w') := wakes18
  have HR : Hid (RowsIn w a n c ls ∧ ls.length = n) := ⟨h, h.len⟩
  obtain ⟨K, hK, hK0, hKs⟩ := or_one key hkey
  have HK : Hid (K ≠ 0 ∧ K < 18446744073709551616) := ⟨hK0, hKs⟩
  obtain ⟨q, hq, hq1⟩ := mod_120 nn
  have HQ : Hid (q ≤ 120) := hq1
  obtain ⟨N, hN1, hN2, hN3⟩ : ∃ N, N ≤ n ∧ N ≤ 14 ∧ (N = n ∨ N = 14) := ⟨min n 14, by omega, by omega, by omega⟩
  clear h hkey hK0 hKs hq1
  go_enter Tryz.func6, Tryz.ntmps6
  go_upto_if 48 with first
    | (go_at_call 10; refine hop.mono ?_; clear hop; rintro e w3 ⟨m, rfl, hI3⟩; have HI3 : Hid (CutI w w3 m (w1.heap.size + 1) K 2) := hI3; clear hI3)
    | (go_at_call 9; refine hnw.mono ?_; clear hnw; rintro e w2 ⟨rfl, hd2, hB2⟩; have hop := cutI_open (hB1.trans (hB2.mono hB1.size)) hd2 (fun i hi => (by have := hB1.size; omega)) HK.out.1 HK.out.2; clear hd2 hB2)
    | (go_at_call 8; refine hwk.mono ?_; clear hwk; rintro e w1 ⟨rfl, hB1⟩; have hnw := new_any w1)
  generalize w1.heap.size + 1 = d at *
  clear hB1
  have hct := HI3.out.cut q (by have := HQ.out; omega)
  go_upto_block 0 with (go_at_call 32; refine hct.mono ?_; clear hct; rintro e w4 ⟨rfl, hI4⟩; have HI4 : Hid (CutI w w4 m d K 2) := hI4; clear hI4)
  have H0 : Hid (CutI w w4 m d K (2 + 2 * 0)) := HI4
  clear HI3 HI4
  go_wp2_with fail
  go_loopg [58] N (fun gk i wr => ∃ k : Nat, k + gk = N ∧ i = .int .i64 (k : Int) ∧ Hid (CutI w wr m d K (2 + 2 * k)))
  case atStart => exact ⟨0, by omega, rfl, H0⟩
  case round =>
    clear H0
    obtain ⟨k, hk, rfl, HI⟩ := hrel
    cases gk with
    | zero =>
      by_cases hlt : k < n
      · obtain ⟨l0, hl0⟩ : ∃ x, ls[k]? = some x := ⟨_, List.getElem?_eq_getElem (by rw [HR.out.2]; exact hlt)⟩
        obtain ⟨b0, o0, rfl, hc0⟩ := HR.out.1.cells (by omega)
        obtain ⟨la, ln, lc, t0, hpi⟩ := hc0 k l0 hl0
        have t1 := (HI.out.below.cell (p := ⟨b0, o0 + k, none⟩) (World.block_lt_of_cell? w _ t0)).trans t0
        have i1 : (k : Int) < (n : Int) := by omega
        have i2 : ((k : Int) == 14) = true := by simp; omega
        clear hpi hc0 t0 hl0 hN1 hN2 hN3
        go_wp2_with (go_at_call 8; refine (HWk.out _).mono ?_; rintro e w5 ⟨rfl, hB5⟩; have HB5 : Hid (Below w.heap.size w w5) := HI.out.below.trans (hB5.mono HI.out.below.size); clear hB5)
        go_ret
        exact ⟨rfl, HB5.out⟩
      · have i1 : ¬ (k : Int) < (n : Int) := by omega
        clear hN1 hN2 hN3
        go_wp2_with (go_at_call 8; refine (HWk.out _).mono ?_; rintro e w5 ⟨rfl, hB5⟩; have HB5 : Hid (Below w.heap.size w w5) := HI.out.below.trans (hB5.mono HI.out.below.size); clear hB5)
        go_ret
        exact ⟨rfl, HB5.out⟩
    | succ g =>
      have hkn : k < n := by omega
      have hk14 : k ≤ 13 := by omega
      obtain ⟨l0, hl0⟩ : ∃ x, ls[k]? = some x := ⟨_, List.getElem?_eq_getElem (by rw [HR.out.2]; exact hkn)⟩
      obtain ⟨b0, o0, rfl, hc0⟩ := HR.out.1.cells (by omega)
      obtain ⟨la, ln, lc, t0, hpi⟩ := hc0 k l0 hl0
      have t1 := (HI.out.below.cell (p := ⟨b0, o0 + k, none⟩) (World.block_lt_of_cell? w _ t0)).trans t0
      have i1 : (k : Int) < (n : Int) := by omega
      have i2 : ((k : Int) == 14) = false := by simp; omega
      obtain ⟨l, hl⟩ : ∃ l, l = l0.take 40 := ⟨_, rfl⟩
      have HP : Hid (PrIn w la ln lc l0 ∧ l = l0.take 40) := ⟨hpi, hl⟩
      have HC : Hid (∀ W, Calls Tryz.prog 11 #[.slice la ln lc] W fun e w' => e = .returned (.slice la l.length lc) ∧ w' = W) := fun W => by
        rw [hl, (take_in hpi).2.1]; exact ycut_any W la ln lc hpi.cap
      clear hpi hc0 t0 hl0 hN1 hN2 hN3 hl
      go_upto_if 73 with first
        | (go_at_call 13; refine (HA.out.add (by omega) HK.out.2 HP.out.1 HP.out.2).mono ?_; rintro e w7 ⟨er, rfl, hE⟩; have HE : Hid ((er ≠ 6 ∧ CutI w w7 m d K (2 + 2 * k + 2)) ∨ (er = 6 ∧ ∃ P2, Fact P P2 l ∧ CutF w w7 m d K (2 + 2 * k + 2) true P P2 l aa ac la lc)) := hE; clear hE)
        | (go_at_call 33; refine (HI.out.all (by omega)).mono ?_; rintro e w6 ⟨aa, ac, P, rfl, hA⟩; have HA : Hid (CutA w w6 m d K (2 + 2 * k) P aa ac) := hA; clear hA)
        | (go_at_call 11; refine (HC.out _).mono ?_; rintro e w5 ⟨rfl, rfl⟩)
      rcases HE.out with ⟨he, hI⟩ | ⟨rfl, P2, hF, hC⟩
      · have i3 : (er != 6) = true := by simpa using he
        have HN : Hid (CutI w w7 m d K (2 + 2 * (k + 1))) := hI
        clear he hI HE HA HI HC HP
        go_wp2_with fail
        go_roundg g
        case measure => omega
        case rel => exact ⟨k + 1, by omega, by go_num, HN⟩
      · have HF : Hid (Fact P P2 l) := hF
        have HC0 : Hid (CutF w w7 m d K (4 + 2 * k) true P P2 l aa ac la lc) := by
          have := hC
          rwa [show 2 + 2 * k + 2 = 4 + 2 * k by omega] at this
        obtain ⟨Qm, hme⟩ := hC.old
        have had := hme.failed (.slice la l.length lc)
        have HL : Hid (PrOk l ∧ l.length ≤ 40) := ⟨by rw [HP.out.2]; exact HP.out.1.ok.take 40, hF.2.2.2.1⟩
        clear hF hC HE HA HI HC HP hme t1 HR i1 i2
        go_upto_if 77 with (go_at_call 13; refine had.mono ?_; clear had; rintro e w8 ⟨rfl, hB8⟩; have HC1 : Hid (CutF w w8 m d K (4 + 2 * k + 2 * 0) true P P2 l aa ac la lc) := HC0.out.kept hB8; clear hB8)
        clear HC0
        go_upto_block 2 with fail
        go_wp2_with fail
        go_loopg [14] 3 (fun gk i wr => ∃ k2 : Nat, k2 + gk = 3 ∧ i = .int .i64 (k2 : Int) ∧ Hid (CutF w wr m d K (4 + 2 * k + 2 * k2) true P P2 l aa ac la lc))
        case atStart => exact ⟨0, rfl, rfl, HC1⟩
        case round =>
          clear HC1
          obtain ⟨k2, hk2, rfl, HI2⟩ := hrel
          cases gk with
          | succ g2 =>
            have i3 : (k2 : Int) < 3 := by omega
            have hk3 : k2 ≤ 2 := by omega
            go_upto_region 25 with first
              | (go_at_call 32; refine (HM.out.cut k2 (by omega)).mono ?_; rintro e w10 ⟨rfl, hX⟩; have HX : Hid (CutF w w10 m d K (4 + 2 * k + 2 * k2) true P P2 l aa ac la lc) := hX; clear hX HM)
              | (go_at_call 34; refine HI2.out.mend.mono ?_; rintro e w9 ⟨rfl, hM⟩; have HM : Hid (CutF w w9 m d K (4 + 2 * k + 2 * k2) false P P2 l aa ac la lc) := hM; clear hM HI2)
            have hop := HX.out.opens (by omega) HK.out.1 HK.out.2
            go_wp2_with fail
            refine hop.mono ?_
            clear hop HX
            rintro e w11 ⟨hE, hY⟩
            have HY : Hid (CutF w w11 m d K (4 + 2 * k + 2 * (k2 + 1)) true P P2 l aa ac la lc) := hY
            clear hY
            rcases hE with rfl | ⟨m9, rfl⟩
            · go_wp2_with fail
              go_roundg g2
              case measure => omega
              case rel => exact ⟨k2 + 1, by omega, by go_num, HY⟩
            · go_wp2_with fail
              go_roundg g2
              case measure => omega
              case rel => exact ⟨k2 + 1, by omega, by go_num, HY⟩
          | zero =>
            obtain rfl : k2 = 3 := by omega
            have i3 : ¬ ((3 : Nat) : Int) < 3 := by decide
            clear hk2
            go_upto_if 120 with first
              | (go_at_call 10; refine (HM.out.opened (by omega) HK.out.1 HK.out.2).mono ?_; rintro e w13 ⟨m2, nw, rfl, hO⟩; have HO : Hid (CutO w w13 m m2 d K (4 + 2 * k + 2 * 3 + 2) nw w13.heap.size P P2 l aa ac la lc) := hO; clear hO HM)
              | (go_at_call 34; refine HI2.out.mend.mono ?_; rintro e w12 ⟨rfl, hM⟩; have HM : Hid (CutF w w12 m d K (4 + 2 * k + 2 * 3) false P P2 l aa ac la lc) := hM; clear hM HI2)
            have hw1 := HO.out.writes
            have HK3 : Hid (P2.length ≤ 65536 ∧ P.length ≤ 65536) := (by have := HF.out.2.1; have := HF.out.2.2.1; exact ⟨by omega, by omega⟩ : P2.length ≤ 65536 ∧ P.length ≤ 65536)
            go_upto_region 33 with (go_at_call 12; refine hw1.mono ?_; clear hw1; rintro e w14 ⟨rfl, rfl⟩)
            have hop := HO.out.twice (by omega) HK.out.1 HK.out.2
            go_upto_region 34 with (go_at_call 10; refine hop.mono ?_; clear hop; rintro e w14 ⟨m3, rfl, hO2, hm3⟩; have HO2 : Hid (CutO w w14 m m2 d K (4 + 2 * k + 2 * 3 + 2) nw w14.heap.size P P2 l aa ac la lc ∧ MeP w14 (fun _ => False) m3 d P2 false) := ⟨hO2, hm3⟩; clear hO2 hm3 HO)
            have hw2 := HO2.out.1.writes
            have hal := HO2.out.2.all HK3.out.1
            go_upto_if 144 with first
              | (go_at_call 15; refine (ypairs_same w16 a1 a2 P2.length c1 c2 P2 HY2.out.1.prs HY2.out.2.1.prs (by have := HK3.out.1; omega)).mono ?_; rintro e w17 ⟨rfl, hB17⟩; have HO3 : Hid (CutO w w17 m m2 d K (4 + 2 * k + 2 * 3 + 2) nw w14.heap.size P P2 l aa ac la lc ∧ w14.heap.size ≤ w17.heap.size) := ⟨HY2.out.2.2.1.kept hB17, by have := HY2.out.2.2.2; have := hB17.size; omega⟩; clear hB17 HY2)
              | (go_at_call 33; first
                  | (refine hal.mono ?_; clear hal; rintro e w15 ⟨a1, c1, rfl, hp1, _, hB15⟩; have HY1 : Hid (PrV w15 a1 P2.length c1 P2 ∧ CutO w w15 m m2 d K (4 + 2 * k + 2 * 3 + 2) nw w14.heap.size P P2 l aa ac la lc ∧ w14.heap.size ≤ w15.heap.size) := ⟨hp1, HO2.out.1.kept hB15, hB15.size⟩; clear hp1 hB15 HO2; have hal2 := HY1.out.2.1.old.2.1.all HK3.out.1)
                  | (refine hal2.mono ?_; clear hal2; rintro e w16 ⟨a2, c2, rfl, hp2, _, hB16⟩; have HY2 : Hid (PrV w16 a1 P2.length c1 P2 ∧ PrV w16 a2 P2.length c2 P2 ∧ CutO w w16 m m2 d K (4 + 2 * k + 2 * 3 + 2) nw w14.heap.size P P2 l aa ac la lc ∧ w14.heap.size ≤ w16.heap.size) := ⟨HY1.out.1.kept hB16, hp2, HY1.out.2.1.kept hB16, by have := HY1.out.2.2; have := hB16.size; omega⟩; clear hp2 hB16 HY1))
              | (go_at_call 12; refine hw2.mono ?_; clear hw2; rintro e w15 ⟨rfl, hw15⟩; subst w15)
            have hal := HO3.out.1.old.2.1.all HK3.out.1
            generalize w14.heap.size = B at *
            obtain ⟨ob, ho1, ho2⟩ := fact_old HF.out
            have HOb : Hid ((ob = true → P2 = P) ∧ (ob = false → P2 ≠ P ∧ P.length < P2.length)) := ⟨ho1, ho2⟩
            clear ho1 ho2
            go_upto_region 37 with (go_at_call 33; refine hal.mono ?_; clear hal; rintro e w18 ⟨na, nc, rfl, hpn, hbn, hB18⟩; have HO4 : Hid (CutO w w18 m m2 d K (4 + 2 * k + 2 * 3 + 2) nw B P P2 l aa ac la lc ∧ PrV w18 na P2.length nc P2 ∧ ∀ x, na = some x → B ≤ x.block ∧ x.block < w18.heap.size) := ⟨HO3.out.1.kept hB18, hpn, fun x e => (by have := hbn x e; have := HO3.out.2; exact ⟨by omega, by omega⟩)⟩; clear hpn hbn hB18 HO3)
            have hpr : Calls Tryz.prog 15 #[.slice na P2.length nc, .slice aa P.length ac] w18 fun e w' => e = .returned (.bool ob) ∧ Below w18.heap.size w18 w' := by
              cases hob : ob with
              | true =>
                obtain rfl := HOb.out.1 hob
                exact ypairs_same w18 na aa P2.length nc ac P2 HO4.out.2.1.prs HO4.out.1.old.2.2.1.prs (by have := HK3.out.1; omega)
              | false => exact ypairs_len w18 na aa P2.length P.length nc ac (by have := (HOb.out.2 hob).2; omega)
            go_upto_region 38 with (go_at_call 15; refine hpr.mono ?_; clear hpr; rintro e w19 ⟨rfl, hB19⟩; have HO5 : Hid (CutO w w19 m m2 d K (4 + 2 * k + 2 * 3 + 2) nw B P P2 l aa ac la lc ∧ PrV w19 na P2.length nc P2 ∧ ∀ x, na = some x → B ≤ x.block ∧ x.block < w19.heap.size) := ⟨HO4.out.1.kept hB19, HO4.out.2.1.kept hB19, fun x e => (by have := HO4.out.2.2 x e; have := hB19.size; exact ⟨by omega, by omega⟩)⟩; clear hB19 HO4)
            go_cut [165] from 150 to 235 (fun v wx => v = .bool false ∧ Hid (CutO w wx m m2 d K (4 + 2 * k + 2 * 3 + 2) nw B P P2 l aa ac la lc ∧ PrV wx na P2.length nc P2 ∧ ∀ x, na = some x → B ≤ x.block ∧ x.block < wx.heap.size))
            case first =>
              obtain ⟨Qm2, hmo⟩ := HO5.out.1.old.1
              have hal := hmo.all HK3.out.1
              clear hmo
              have hi : ob = true ∨ (ob = false ∧ ¬ ((P2.length : Int) ≤ (P.length : Int))) := by
                cases hob : ob with
                | true => exact .inl rfl
                | false => exact .inr ⟨rfl, by have := (HOb.out.2 hob).2; omega⟩
              rcases hi with rfl | ⟨rfl, i4⟩
              all_goals
                go_wp2_with first
                  | (go_at_call 15; refine (ypairs_same w20 oa na P2.length oc nc P2 HO7.out.1.prs HO7.out.2.2.1.prs (by have := HK3.out.1; omega)).mono ?_; rintro e w21 ⟨rfl, hB21⟩; have HO8 : Hid (CutO w w21 m m2 d K (4 + 2 * k + 2 * 3 + 2) nw B P P2 l aa ac la lc ∧ PrV w21 na P2.length nc P2 ∧ ∀ x, na = some x → B ≤ x.block ∧ x.block < w21.heap.size) := ⟨HO7.out.2.1.kept hB21, HO7.out.2.2.1.kept hB21, fun x e => (by have := HO7.out.2.2.2 x e; have := hB21.size; exact ⟨by omega, by omega⟩)⟩; clear hB21 HO7)
                  | (go_at_call 33; refine hal.mono ?_; clear hal; rintro e w20 ⟨oa, oc, rfl, hpo, _, hB20⟩; have HO7 : Hid (PrV w20 oa P2.length oc P2 ∧ CutO w w20 m m2 d K (4 + 2 * k + 2 * 3 + 2) nw B P P2 l aa ac la lc ∧ PrV w20 na P2.length nc P2 ∧ ∀ x, na = some x → B ≤ x.block ∧ x.block < w20.heap.size) := ⟨hpo, HO5.out.1.kept hB20, HO5.out.2.1.kept hB20, fun x e => (by have := HO5.out.2.2 x e; have := hB20.size; exact ⟨by omega, by omega⟩)⟩; clear hpo hB20 HO5)
                go_meet
                case rel => first | exact ⟨rfl, HO8⟩ | exact ⟨by rw [decide_eq_false (by omega)], HO8⟩
            case rest =>
              obtain ⟨rfl, HO9⟩ := hcut
              clear HO5
              go_upto_block 4 with fail
              go_wp2_with fail
              go_loopg [168] P.length (fun gk i wr => ∃ k3 : Nat, k3 + gk = P.length ∧ i = .int .i64 (k3 : Int) ∧ Hid (CutO w wr m m2 d K (4 + 2 * k + 2 * 3 + 2) nw B P P2 l aa ac la lc ∧ PrV wr na P2.length nc P2 ∧ ∀ x, na = some x → B ≤ x.block ∧ x.block < wr.heap.size))
              case atStart => exact ⟨0, by omega, rfl, HO9⟩
              case round =>
                clear HO9
                obtain ⟨k3, hk3, rfl, HI3⟩ := hrel
                cases gk with
                | succ g3 =>
                  have hk65 : k3 < 65536 := by have := HK3.out.2; omega
                  obtain ⟨⟨x, y⟩, hx⟩ : ∃ x, P[k3]? = some x := ⟨_, List.getElem?_eq_getElem (by omega)⟩
                  obtain ⟨ab, ao, rfl, hca⟩ := HI3.out.1.old.2.2.1.prs.2 (by omega)
                  obtain ⟨q1, q2⟩ := hca _ _ hx
                  simp only at q1 q2
                  have i5 : (k3 : Int) < (P.length : Int) := by omega
                  have hlk : lookP P2 x = some y := fact_look HF.out (x, y) (List.mem_of_getElem? hx)
                  obtain ⟨wb, hwb⟩ : ∃ wb, wb = wr.alloc (.cells #[.int .u64 (x : Int), .int .u64 (y : Int)] 39) := ⟨_, rfl⟩
                  have hBa : Below wr.heap.size wr wb := by rw [hwb]; exact (Below.refl _ wr).alloc (Nat.le_refl _) _
                  have hbb : wb.heap[wr.heap.size]? = some (.cells #[.int .u64 (x : Int), .int .u64 (y : Int)] 39) := by rw [hwb]; exact World.alloc_heap_new wr _
                  have cb0 : wb.cell? ⟨wr.heap.size, 0, none⟩ = some (.int .u64 (x : Int)) := by simp [World.cell?, hbb]
                  have cb1 : wb.cell? ⟨wr.heap.size, 1, none⟩ = some (.int .u64 (y : Int)) := by simp [World.cell?, hbb]
                  have hst : Calls Tryz.prog 27 #[.pointer (some ⟨m2, 0, none⟩), .int .u64 (x : Int)] wb fun e w' => e = .returned (.tuple #[.int .u64 (y : Int), .bool true]) ∧ Below wb.heap.size wb w' := by
                    have := (HI3.out.1.kept hBa).old.2.1.standin x
                    rw [hlk] at this
                    exact this
                  have HB : Hid ((CutO w wb m m2 d K (4 + 2 * k + 2 * 3 + 2) nw B P P2 l (some ⟨ab, ao, none⟩) ac la lc ∧ PrV wb na P2.length nc P2 ∧ ∀ x, na = some x → B ≤ x.block ∧ x.block < wb.heap.size) ∧ wb.cell? ⟨wr.heap.size, 1, none⟩ = some (.int .u64 (y : Int))) := ⟨⟨HI3.out.1.kept hBa, HI3.out.2.1.kept hBa, fun x e => (by have := HI3.out.2.2 x e; have := hBa.size; exact ⟨by omega, by omega⟩)⟩, cb1⟩
                  have hsz : Hid (wr.heap.size < wb.heap.size) := (by rw [hwb, World.size_alloc]; exact Nat.lt_succ_self _ : wr.heap.size < wb.heap.size)
                  clear hca hx hlk hbb HI3 cb1 hBa
                  go_upto_region 43 with fail
                  rw [← hwb]
                  clear hwb
                  go_wp2_with (go_at_call 27; refine hst.mono ?_; clear hst; rintro e w22 ⟨rfl, hB22⟩; have cb2 := (hB22.cell (p := ⟨wr.heap.size, 1, none⟩) hsz.out).trans HB.out.2; have HN : Hid (CutO w w22 m m2 d K (4 + 2 * k + 2 * 3 + 2) nw B P P2 l (some ⟨ab, ao, none⟩) ac la lc ∧ PrV w22 na P2.length nc P2 ∧ ∀ x, na = some x → B ≤ x.block ∧ x.block < w22.heap.size) := ⟨HB.out.1.1.kept hB22, HB.out.1.2.1.kept hB22, fun x e => (by have := HB.out.1.2.2 x e; have := hB22.size; exact ⟨by omega, by omega⟩)⟩; clear hB22 HB)
                  go_roundg g3
                  case measure => omega
                  case rel => exact ⟨k3 + 1, by omega, by go_num, HN⟩
                | zero =>
                  obtain rfl : k3 = P.length := by omega
                  have i5 : ¬ ((P.length : Nat) : Int) < (P.length : Int) := by omega
                  clear hk3
                  have hadd := HI3.out.1.add (by omega) HK.out.2 HF.out HL.out.1
                  go_upto_if 191 with (go_at_call 13; refine hadd.mono ?_; clear hadd; rintro e w22 ⟨rfl, hst, hpl, P3, nr, hE, hold, hlk, hlen, hnr⟩; have HE1 : Hid (CutE w w22 m2 d nr P3 ∧ PrV w22 la l.length lc l ∧ PrV w22 na P2.length nc P2) := ⟨hE, hpl, HI3.out.2.1.blocks fun _ x e => hst x.block (HI3.out.2.2 x e).1 (HI3.out.2.2 x e).2⟩; have HE2 : Hid ((P2 ≠ P → P3 = P2) ∧ (∀ p ∈ l, lookP P3 p.1 = some p.2) ∧ P3.length ≤ 3000 ∧ nr ≤ 4) := ⟨hold, hlk, hlen, hnr⟩; clear hst hpl hE hold hlk hlen hnr HI3)
                  have hal := HE1.out.1.me.1.all (by have := HE2.out.2.2.1; omega)
                  go_upto_region 50 with (go_at_call 33; refine hal.mono ?_; clear hal; rintro e w23 ⟨ta, tc, rfl, hpt, _, hB23⟩; have HE3 : Hid (CutE w w23 m2 d nr P3 ∧ PrV w23 la l.length lc l ∧ PrV w23 na P2.length nc P2 ∧ PrV w23 ta P3.length tc P3) := ⟨HE1.out.1.kept hB23, HE1.out.2.1.kept hB23, HE1.out.2.2.kept hB23, hpt⟩; clear hpt hB23 HE1)
                  go_cut [201] from 192 to 235 (fun v wx => v = .bool false ∧ Hid (CutE w wx m2 d nr P3 ∧ PrV wx la l.length lc l))
                  case first =>
                    have hi : ob = true ∨ (ob = false ∧ P3 = P2) := by
                      cases hob : ob with
                      | true => exact .inl rfl
                      | false => exact .inr ⟨rfl, HE2.out.1 (HOb.out.2 hob).1⟩
                    rcases hi with rfl | ⟨rfl, rfl⟩
                    · have HN : Hid (CutE w w23 m2 d nr P3 ∧ PrV w23 la l.length lc l) := ⟨HE3.out.1, HE3.out.2.1⟩
                      go_wp2_with fail
                      go_meet
                      case rel => exact ⟨rfl, HN⟩
                    · go_wp2_with (go_at_call 15; refine (ypairs_same w23 ta na P3.length tc nc P3 HE3.out.2.2.2.prs HE3.out.2.2.1.prs (by have := HK3.out.1; omega)).mono ?_; rintro e w24 ⟨rfl, hB24⟩; have HN : Hid (CutE w w24 m2 d nr P3 ∧ PrV w24 la l.length lc l) := ⟨HE3.out.1.kept hB24, HE3.out.2.1.kept hB24⟩; clear hB24 HE3)
                      go_meet
                      case rel => exact ⟨rfl, HN⟩
                  case rest =>
                    obtain ⟨rfl, HE4⟩ := hcut
                    clear HE3
                    go_upto_block 6 with fail
                    go_wp2_with fail
                    go_loopg [204] l.length (fun gk i wr => ∃ k4 : Nat, k4 + gk = l.length ∧ i = .int .i64 (k4 : Int) ∧ Hid (CutE w wr m2 d nr P3 ∧ PrV wr la l.length lc l))
                    case atStart => exact ⟨0, by omega, rfl, HE4⟩
                    case round =>
                      clear HE4
                      obtain ⟨k4, hk4, rfl, HI4⟩ := hrel
                      cases gk with
                      | succ g4 =>
                        have hk65 : k4 < 65536 := by have := HL.out.2; omega
                        obtain ⟨⟨x, y⟩, hx⟩ : ∃ x, l[k4]? = some x := ⟨_, List.getElem?_eq_getElem (by omega)⟩
                        obtain ⟨ab, ao, rfl, hca⟩ := HI4.out.2.prs.2 (by omega)
                        obtain ⟨q1, q2⟩ := hca _ _ hx
                        simp only at q1 q2
                        have i5 : (k4 : Int) < (l.length : Int) := by omega
                        have hlk : lookP P3 x = some y := HE2.out.2.1 (x, y) (List.mem_of_getElem? hx)
                        obtain ⟨wb, hwb⟩ : ∃ wb, wb = wr.alloc (.cells #[.int .u64 (x : Int), .int .u64 (y : Int)] 39) := ⟨_, rfl⟩
                        have hBa : Below wr.heap.size wr wb := by rw [hwb]; exact (Below.refl _ wr).alloc (Nat.le_refl _) _
                        have hbb : wb.heap[wr.heap.size]? = some (.cells #[.int .u64 (x : Int), .int .u64 (y : Int)] 39) := by rw [hwb]; exact World.alloc_heap_new wr _
                        have cb0 : wb.cell? ⟨wr.heap.size, 0, none⟩ = some (.int .u64 (x : Int)) := by simp [World.cell?, hbb]
                        have cb1 : wb.cell? ⟨wr.heap.size, 1, none⟩ = some (.int .u64 (y : Int)) := by simp [World.cell?, hbb]
                        have hst : Calls Tryz.prog 27 #[.pointer (some ⟨m2, 0, none⟩), .int .u64 (x : Int)] wb fun e w' => e = .returned (.tuple #[.int .u64 (y : Int), .bool true]) ∧ Below wb.heap.size wb w' := by
                          have := (HI4.out.1.kept hBa).me.1.standin x
                          rw [hlk] at this
                          exact this
                        have HB : Hid ((CutE w wb m2 d nr P3 ∧ PrV wb (some ⟨ab, ao, none⟩) l.length lc l) ∧ wb.cell? ⟨wr.heap.size, 1, none⟩ = some (.int .u64 (y : Int))) := ⟨⟨HI4.out.1.kept hBa, HI4.out.2.kept hBa⟩, cb1⟩
                        have hsz : Hid (wr.heap.size < wb.heap.size) := (by rw [hwb, World.size_alloc]; exact Nat.lt_succ_self _ : wr.heap.size < wb.heap.size)
                        clear hca hx hlk hbb HI4 cb1 hBa
                        go_upto_region 55 with fail
                        rw [← hwb]
                        clear hwb
                        go_wp2_with (go_at_call 27; refine hst.mono ?_; clear hst; rintro e w24 ⟨rfl, hB24⟩; have cb2 := (hB24.cell (p := ⟨wr.heap.size, 1, none⟩) hsz.out).trans HB.out.2; have HN : Hid (CutE w w24 m2 d nr P3 ∧ PrV w24 (some ⟨ab, ao, none⟩) l.length lc l) := ⟨HB.out.1.1.kept hB24, HB.out.1.2.kept hB24⟩; clear hB24 HB)
                        go_roundg g4
                        case measure => omega
                        case rel => exact ⟨k4 + 1, by omega, by go_num, HN⟩
                      | zero =>
                        obtain rfl : k4 = l.length := by omega
                        have i5 : ¬ ((l.length : Nat) : Int) < (l.length : Int) := by omega
                        clear hk4
                        have hnr : nr ≤ 4 := HE2.out.2.2.2
                        have i6 : (((nr + 1 : Nat) : Int) == (nr : Int) + 1) = true := by simp
                        have hnm := HI4.out.1.names
                        go_wp2_with first
                          | (go_at_call 8; refine (HWk.out _).mono ?_; rintro e w26 ⟨rfl, hB26⟩; have HB26 : Hid (Below w.heap.size w w26) := HR2.out.trans (hB26.mono HR2.out.size); clear hB26)
                          | (go_at_call 31; refine hrn.mono ?_; clear hrn; rintro e w25 ⟨ra, rc, rfl, hB25⟩; have HR2 : Hid (Below w.heap.size w w25) := (HR1.out.kept hB25).me.2; clear hB25)
                          | (go_at_call 26; refine hnm.mono ?_; clear hnm; rintro e w24 ⟨da, dc, rfl, hB24⟩; have HR1 : Hid (CutE w w24 m2 d nr P3) := HI4.out.1.kept hB24; clear hB24; have hrn := HR1.out.runs)
                        go_ret
                        exact ⟨rfl, HB26.out⟩
end Go.Proofs.YtdjodigimhgklaaGreatDoor
