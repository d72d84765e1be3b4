import Derived.Test.YtggnglgehobglaaL47
/- The walk of PathmapTwo. -/
namespace Go.Proofs.Ytggnglgehobglaa
open Go.RowKit Go.Shelf Go.Maps

attribute [local go_sem] Oper.semAt_some

set_option maxRecDepth 100000 in
set_option maxHeartbeats 8000000 in
theorem pathmapTwo_walk (w : World) (a : Option Addr) (n c : Nat) (rs : List Ru) (b : Option Addr) (n' d : Nat) (rs' : List Ru) (A : ByteArray) (hl : Rus w a n rs) (hnb : n ≤ 100000000000000000) (hz : ∀ r ∈ rs, r.2.1.length ≤ maxLen ∧ r.2.2.length ≤ maxLen) (hl' : Rus w b n' rs') (hnb' : n' ≤ 100000000000000000) (hz' : ∀ r ∈ rs', r.2.1.length ≤ maxLen ∧ r.2.2.length ≤ maxLen) :
    Calls Try.prog 4 #[.slice a n c, .slice b n' d, .string A] w fun e w' => e = .returned (.bool true) ∧ Below w.heap.size w w' := by
  have hmx : Try.prog.follows .mixedOrders = true := by kernel_rfl
  have cA := fun W (hW : Below w.heap.size w W) => cut14_any W a n c rs (hl.kept hW) hnb hz
  have cB := fun W (hW : Below w.heap.size w W) => cut14_any W b n' d rs' (hl'.kept hW) hnb' hz'
  clear hl hnb hz hl' hnb' hz'
  obtain ⟨am, ham⟩ : ∃ m, m = min A.size 300 := ⟨_, rfl⟩
  have m1 : min (A.size : Int) 300 = (am : Int) := by omega
  have m2 : (if (A.size : Int) ≤ 300 then (A.size : Int) else 300) = (am : Int) := by split <;> omega
  have m3 : (if (300 : Int) < (A.size : Int) then 300 else (A.size : Int)) = (am : Int) := by split <;> omega
  have m4 : (if (A.size : Int) < 300 then (A.size : Int) else 300) = (am : Int) := by split <;> omega
  have m5 : (am : Int) ≤ (A.size : Int) := by omega
  have m6 : am ≤ A.size := by omega
  have HS : Hid ((A.extract 0 am).size ≤ 300) := by
    show _ ≤ _
    rw [← bs_len, bs_cut A am ham, List.length_take]
    omega
  clear ham
  go_enter Try.func4, Try.ntmps4
  go_wp2_with fail
  refine (wakes14_any _).mono ?_
  rintro e w1 ⟨rfl, hB1⟩
  have H1 : Hid (Below w.heap.size w w1) := hB1
  clear hB1
  go_wp2_with fail
  generalize A.extract 0 am = A2 at *
  clear m1 m2 m3 m4 m5 m6
  refine (cA _ H1.out).mono ?_
  clear cA
  rintro e w2 ⟨ad, c', rfl, hrow, hB2⟩
  have H2 : Hid (Below w.heap.size w w2) := H1.out.trans (hB2.mono H1.out.size)
  have cN := cut_row hrow
  clear hrow hB2 H1
  generalize (cutR rs).length = N1 at *
  go_wp2_with fail
  refine cN.mono ?_
  clear cN
  rintro e w3 ⟨⟨v1, E1, X1, rfl, hE1, hv1⟩, hB3⟩
  have H3 : Hid (Below w.heap.size w w3) := H2.out.trans (hB3.mono H2.out.size)
  clear hB3 H2
  have H4 : Hid (Below w.heap.size w (w3.alloc (.cells #[.int .i64 E1, .int .i64 X1] 27)) ∧ BoxF (w3.alloc (.cells #[.int .i64 E1, .int .i64 X1] 27)) w3.heap.size E1 X1 ∧ Below w3.heap.size w3 (w3.alloc (.cells #[.int .i64 E1, .int .i64 X1] 27))) := ⟨H3.out.alloc H3.out.size _, BoxF.new w3 E1 X1, (Below.refl _ w3).alloc (Nat.le_refl _) _⟩
  have cB' := cB _ H4.out.1
  clear cB
  go_wp2_with fail
  refine cB'.mono ?_
  clear cB'
  generalize w3.alloc (.cells #[.int .i64 E1, .int .i64 X1] 27) = w4 at *
  generalize hbf : w3.heap.size = bf at *
  rintro e w5 ⟨ad2, c2, rfl, hrow, hB5⟩
  have H5 : Hid (Below w.heap.size w w5 ∧ BoxF w5 bf E1 X1 ∧ Below bf w3 w5) := ⟨H4.out.1.trans (hB5.mono H4.out.1.size), H4.out.2.1.below hB5 H4.out.2.1.lt, H4.out.2.2.trans (hB5.mono (by have := H4.out.2.2.size; omega))⟩
  have cN := cut_row hrow
  clear hrow hB5 H4
  generalize (cutR rs').length = N2 at *
  go_wp2_with fail
  refine cN.mono ?_
  clear cN
  rintro e w6 ⟨⟨v2, E2, X2, rfl, hE2, hv2⟩, hB6⟩
  have H6 : Hid (Below w.heap.size w w6 ∧ BoxF w6 bf E1 X1 ∧ Below bf w3 w6) := ⟨H5.out.1.trans (hB6.mono H5.out.1.size), H5.out.2.1.below hB6 H5.out.2.1.lt, H5.out.2.2.trans (hB6.mono (by have := H5.out.2.2.size; omega))⟩
  clear hB6 H5
  have H7 : Hid (Below w.heap.size w (w6.alloc (.cells #[.int .i64 E2, .int .i64 X2] 27)) ∧ BoxF (w6.alloc (.cells #[.int .i64 E2, .int .i64 X2] 27)) bf E1 X1 ∧ BoxF (w6.alloc (.cells #[.int .i64 E2, .int .i64 X2] 27)) w6.heap.size E2 X2 ∧ Below w3.heap.size w3 (w6.alloc (.cells #[.int .i64 E2, .int .i64 X2] 27)) ∧ Below w6.heap.size w6 (w6.alloc (.cells #[.int .i64 E2, .int .i64 X2] 27))) := by
    have hA : Below w6.heap.size w6 (w6.alloc (.cells #[.int .i64 E2, .int .i64 X2] 27)) := (Below.refl _ w6).alloc (Nat.le_refl _) _
    refine ⟨H6.out.1.alloc H6.out.1.size _, H6.out.2.1.below hA H6.out.2.1.lt, BoxF.new w6 E2 X2, ?_, hA⟩
    rw [hbf]
    exact H6.out.2.2.alloc (by have := H6.out.2.2.size; omega) _
  obtain ⟨c0, c1⟩ := H7.out.2.1.cell
  obtain ⟨d0, d1⟩ := H7.out.2.2.1.cell
  clear hbf H6 H3
  clear c0 c1 d0 d1
  go_upto_region 6 with fail
  obtain ⟨c0, c1⟩ := H7.out.2.1.cell
  obtain ⟨d0, d1⟩ := H7.out.2.2.1.cell
  generalize w6.alloc (.cells #[.int .i64 E2, .int .i64 X2] 27) = w7 at *
  generalize hbg : w6.heap.size = bg at *
  by_cases e1 : E1 = 0
  case neg =>
    obtain rfl := hv1 e1
    clear hE1 hE2 hv2 hv1
    go_wp2_with fail
    refine (wakes14_any _).mono ?_
    rintro e w8 ⟨rfl, hBz⟩
    have Hw8 : Hid (Below w.heap.size w w8) := H7.out.1.trans (hBz.mono H7.out.1.size)
    clear hBz
    go_wp2
    go_ret
    exact ⟨rfl, Hw8.out⟩
  case pos =>
  by_cases e2 : E2 = 0
  case neg =>
    obtain ⟨_, m1, F, rfl, _⟩ := hE1 e1
    obtain rfl := hv2 e2
    subst e1
    clear hE1 hE2 hv2 hv1
    go_wp2_with fail
    refine (wakes14_any _).mono ?_
    rintro e w8 ⟨rfl, hBz⟩
    have Hw8 : Hid (Below w.heap.size w w8) := H7.out.1.trans (hBz.mono H7.out.1.size)
    clear hBz
    go_wp2
    go_ret
    exact ⟨rfl, Hw8.out⟩
  case pos =>
  obtain ⟨rfl, m1, F, rfl, hM1, hU1, hF64⟩ := hE1 e1
  obtain ⟨rfl, m2, G, rfl, hM2, hU2, _⟩ := hE2 e2
  subst hbg
  subst e1
  subst e2
  have HM : Hid (Below w.heap.size w w7 ∧ MpAt w7 m1 F ∧ MpAt w7 m2 G ∧ FormU F ∧ FormU G ∧ F.length ≤ 64) := ⟨H7.out.1, hM1.below H7.out.2.2.2.1, hM2.below H7.out.2.2.2.2, hU1, hU2, hF64⟩
  have cC := compose_any w7 m1 m2 F G HM.out.2.1 HM.out.2.2.1
  clear hE1 hE2 hv1 hv2 hM1 hM2 hU1 hU2 hF64 H7
  go_wp2_with fail
  refine cC.mono ?_
  clear cC c0 c1 d0 d1
  rintro e w8 ⟨⟨ks, hKL, hC⟩, hB8⟩
  have H8 : Hid (Below w.heap.size w w8 ∧ Below w7.heap.size w7 w8) := ⟨HM.out.1.trans (hB8.mono HM.out.1.size), hB8⟩
  clear hB8
  rcases hC with ⟨_, rfl⟩ | ⟨_, v, rfl, hMv⟩
  · clear hKL
    go_wp2_with fail
    refine (wakes14_any _).mono ?_
    rintro e w9 ⟨rfl, hBz⟩
    have Hw9 : Hid (Below w.heap.size w w9) := H8.out.1.trans (hBz.mono H8.out.1.size)
    clear hBz
    go_wp2
    go_ret
    exact ⟨rfl, Hw9.out⟩
  · have t1 := fun h => two1 HM.out.2.1.ok HM.out.2.2.1.ok HM.out.2.2.2.1 HM.out.2.2.2.2.1 hKL (l := bs A2) h
    have t2 := fun h h' => two2 HM.out.2.1.ok HM.out.2.2.1.ok HM.out.2.2.2.1 HM.out.2.2.2.2.1 hKL (l := bs A2) h h'
    clear hKL
    generalize formT (tabL (thL F G)) ks = C at *
    have cI := fun W (hW : Below w8.heap.size w8 W) => Iimage_any W m1 F A2 ((HM.out.2.1.below H8.out.2).below hW) (by have := HS.out; unfold maxLen; omega)
    have cG := fun W (hW : Below w8.heap.size w8 W) (x : ByteArray) (hx : x.size ≤ 1000) => Iimage_any W m2 G x ((HM.out.2.2.1.below H8.out.2).below hW) (by unfold maxLen; omega)
    have cC := fun W (hW : Below w8.heap.size w8 W) => Iimage_any W v C A2 (hMv.below hW) (by have := HS.out; unfold maxLen; omega)
    have HT : Hid (∀ W, Below w8.heap.size w8 W → MpAt W m1 F ∧ FormU F ∧ F.length ≤ 64) := fun W hW => ⟨(HM.out.2.1.below H8.out.2).below hW, HM.out.2.2.2.1, HM.out.2.2.2.2.2⟩
    have HW8 : Hid (Below w.heap.size w w8) := H8.out.1
    clear hMv H8 HM
    go_wp2_with fail
    refine (cI _ (Below.refl _ _)).mono ?_
    clear cI
    rintro e w9 ⟨rfl, hB9⟩
    have H9 : Hid (Below w8.heap.size w8 w9) := hB9
    clear hB9
    by_cases h0 : (thr (bs A2) (imgL F (bs A2))).2 = 0
    · obtain ⟨x, hx1, hx2, hx3⟩ := t1 h0
      rw [hx1]
      rw [hx3] at cC
      have hxs : (mk x).size ≤ 1000 := by rw [← bs_len, bs_mk]; have := isP_len hx2; omega
      have cGx := fun W hW => cG W hW (mk x) hxs
      rw [bs_mk] at cGx
      generalize thr x (imgL G x) = TT at *
      obtain ⟨tx, te⟩ := TT
      clear cG t1 t2 h0 hx1 hx2 hx3
      go_wp2_with fail
      refine (cGx _ H9.out).mono ?_
      clear cGx
      rintro e w10 ⟨rfl, hB10⟩
      have H10 : Hid (Below w8.heap.size w8 w10) := H9.out.trans (hB10.mono H9.out.size)
      clear hB10 H9
      go_wp2_with fail
      refine (cC _ H10.out).mono ?_
      clear cC
      rintro e w11 ⟨rfl, hB11⟩
      have H11 : Hid (Below w8.heap.size w8 w11) := H10.out.trans (hB11.mono H10.out.size)
      clear hB11 H10
      go_wp2_with fail
      refine (trivial_any _).mono ?_
      rintro e t1 ⟨t, rfl, hMt, hBt⟩
      have Ht1 : Hid (Below w8.heap.size w8 t1 ∧ MpAt t1 t trvL) := ⟨H11.out.trans (hBt.mono H11.out.size), hMt⟩
      clear hMt hBt H11
      have cC1 := compose_any t1 m1 t F trvL (HT.out t1 Ht1.out.1).1 Ht1.out.2
      go_wp2_with fail
      refine cC1.mono ?_
      clear cC1
      rintro e t2 ⟨⟨k1, hK1, hC1⟩, hBt⟩
      have Ht2 : Hid (Below w8.heap.size w8 t2 ∧ MpAt t2 t trvL) := ⟨Ht1.out.1.trans (hBt.mono Ht1.out.1.size), Ht1.out.2.below hBt⟩
      clear hBt Ht1
      rw [two_trv (HT.out t2 Ht2.out.1).1.ok (HT.out t2 Ht2.out.1).2.1 hK1] at hC1
      rcases hC1 with ⟨hbad, _⟩ | ⟨_, cv, rfl, hMc⟩
      · rw [tooB_of (HT.out t2 Ht2.out.1).1.ok (HT.out t2 Ht2.out.1).2.2] at hbad
        cases hbad
      have HCv : Hid (MpAt t2 cv F) := hMc
      have cC2 := compose_any t2 t m1 trvL F Ht2.out.2 (HT.out t2 Ht2.out.1).1
      clear hMc hK1
      go_wp2_with fail
      refine cC2.mono ?_
      clear cC2
      rintro e t3 ⟨⟨k2, hK2, hC2⟩, hBt⟩
      have Ht3 : Hid (Below w8.heap.size w8 t3 ∧ MpAt t3 cv F) := ⟨Ht2.out.1.trans (hBt.mono Ht2.out.1.size), HCv.out.below hBt⟩
      clear hBt Ht2
      rw [trv_two (HT.out t3 Ht3.out.1).1.ok (HT.out t3 Ht3.out.1).2.1 hK2] at hC2
      rcases hC2 with ⟨hbad, _⟩ | ⟨_, dv, rfl, hMd⟩
      · rw [tooB_of (HT.out t3 Ht3.out.1).1.ok (HT.out t3 Ht3.out.1).2.2] at hbad
        cases hbad
      have HDv : Hid (MpAt t3 dv F) := hMd
      have cS1 := same14_any t3 cv m1 F F Ht3.out.2 (HT.out t3 Ht3.out.1).1
      rw [decide_eq_true rfl] at cS1
      clear hMd hK2 HCv
      go_wp2_with fail
      refine cS1.mono ?_
      clear cS1
      rintro e t4 ⟨rfl, hBt⟩
      have Ht4 : Hid (Below w8.heap.size w8 t4 ∧ MpAt t4 dv F) := ⟨Ht3.out.1.trans (hBt.mono Ht3.out.1.size), HDv.out.below hBt⟩
      clear hBt Ht3 HDv
      have cS2 := same14_any t4 dv m1 F F Ht4.out.2 (HT.out t4 Ht4.out.1).1
      rw [decide_eq_true rfl] at cS2
      go_wp2_with fail
      refine cS2.mono ?_
      clear cS2
      rintro e t5 ⟨rfl, hBt⟩
      have Ht5 : Hid (Below w.heap.size w t5) := (HW8.out.trans (Ht4.out.1.mono HW8.out.size)).trans (hBt.mono (Nat.le_trans HW8.out.size Ht4.out.1.size))
      clear hBt Ht4
      go_wp2_with fail
      refine (wakes14_any _).mono ?_
      rintro e t6 ⟨rfl, hBt⟩
      have Ht6 : Hid (Below w.heap.size w t6) := Ht5.out.trans (hBt.mono Ht5.out.size)
      clear hBt
      go_wp2
      go_ret
      exact ⟨rfl, Ht6.out⟩
    · by_cases h3 : (thr (bs A2) (imgL F (bs A2))).2 = 3
      · generalize thr (bs A2) (imgL F (bs A2)) = TT at *
        obtain ⟨tx, te⟩ := TT
        simp only at h0 h3 ⊢
        subst h3
        clear cG cC t1 t2 h0
        go_wp2_with fail
        refine (trivial_any _).mono ?_
        rintro e t1 ⟨t, rfl, hMt, hBt⟩
        have Ht1 : Hid (Below w8.heap.size w8 t1 ∧ MpAt t1 t trvL) := ⟨H9.out.trans (hBt.mono H9.out.size), hMt⟩
        clear hMt hBt H9
        have cC1 := compose_any t1 m1 t F trvL (HT.out t1 Ht1.out.1).1 Ht1.out.2
        go_wp2_with fail
        refine cC1.mono ?_
        clear cC1
        rintro e t2 ⟨⟨k1, hK1, hC1⟩, hBt⟩
        have Ht2 : Hid (Below w8.heap.size w8 t2 ∧ MpAt t2 t trvL) := ⟨Ht1.out.1.trans (hBt.mono Ht1.out.1.size), Ht1.out.2.below hBt⟩
        clear hBt Ht1
        rw [two_trv (HT.out t2 Ht2.out.1).1.ok (HT.out t2 Ht2.out.1).2.1 hK1] at hC1
        rcases hC1 with ⟨hbad, _⟩ | ⟨_, cv, rfl, hMc⟩
        · rw [tooB_of (HT.out t2 Ht2.out.1).1.ok (HT.out t2 Ht2.out.1).2.2] at hbad
          cases hbad
        have HCv : Hid (MpAt t2 cv F) := hMc
        have cC2 := compose_any t2 t m1 trvL F Ht2.out.2 (HT.out t2 Ht2.out.1).1
        clear hMc hK1
        go_wp2_with fail
        refine cC2.mono ?_
        clear cC2
        rintro e t3 ⟨⟨k2, hK2, hC2⟩, hBt⟩
        have Ht3 : Hid (Below w8.heap.size w8 t3 ∧ MpAt t3 cv F) := ⟨Ht2.out.1.trans (hBt.mono Ht2.out.1.size), HCv.out.below hBt⟩
        clear hBt Ht2
        rw [trv_two (HT.out t3 Ht3.out.1).1.ok (HT.out t3 Ht3.out.1).2.1 hK2] at hC2
        rcases hC2 with ⟨hbad, _⟩ | ⟨_, dv, rfl, hMd⟩
        · rw [tooB_of (HT.out t3 Ht3.out.1).1.ok (HT.out t3 Ht3.out.1).2.2] at hbad
          cases hbad
        have HDv : Hid (MpAt t3 dv F) := hMd
        have cS1 := same14_any t3 cv m1 F F Ht3.out.2 (HT.out t3 Ht3.out.1).1
        rw [decide_eq_true rfl] at cS1
        clear hMd hK2 HCv
        go_wp2_with fail
        refine cS1.mono ?_
        clear cS1
        rintro e t4 ⟨rfl, hBt⟩
        have Ht4 : Hid (Below w8.heap.size w8 t4 ∧ MpAt t4 dv F) := ⟨Ht3.out.1.trans (hBt.mono Ht3.out.1.size), HDv.out.below hBt⟩
        clear hBt Ht3 HDv
        have cS2 := same14_any t4 dv m1 F F Ht4.out.2 (HT.out t4 Ht4.out.1).1
        rw [decide_eq_true rfl] at cS2
        go_wp2_with fail
        refine cS2.mono ?_
        clear cS2
        rintro e t5 ⟨rfl, hBt⟩
        have Ht5 : Hid (Below w.heap.size w t5) := (HW8.out.trans (Ht4.out.1.mono HW8.out.size)).trans (hBt.mono (Nat.le_trans HW8.out.size Ht4.out.1.size))
        clear hBt Ht4
        go_wp2_with fail
        refine (wakes14_any _).mono ?_
        rintro e t6 ⟨rfl, hBt⟩
        have Ht6 : Hid (Below w.heap.size w t6) := Ht5.out.trans (hBt.mono Ht5.out.size)
        clear hBt
        go_wp2
        go_ret
        exact ⟨rfl, Ht6.out⟩
      · have ht := t2 h0 h3
        rw [ht] at cC
        generalize thr (bs A2) (imgL F (bs A2)) = TT at *
        obtain ⟨tx, te⟩ := TT
        simp only at h0 h3 ht cC ⊢
        rw [show mk [] = (⟨#[]⟩ : ByteArray) from rfl] at cC
        clear cG t1 t2 ht
        go_wp2_with fail
        refine (cC _ H9.out).mono ?_
        clear cC
        rintro e w11 ⟨rfl, hB11⟩
        have H11 : Hid (Below w8.heap.size w8 w11) := H9.out.trans (hB11.mono H9.out.size)
        clear hB11 H9
        go_wp2_with fail
        refine (trivial_any _).mono ?_
        rintro e t1 ⟨t, rfl, hMt, hBt⟩
        have Ht1 : Hid (Below w8.heap.size w8 t1 ∧ MpAt t1 t trvL) := ⟨H11.out.trans (hBt.mono H11.out.size), hMt⟩
        clear hMt hBt H11
        have cC1 := compose_any t1 m1 t F trvL (HT.out t1 Ht1.out.1).1 Ht1.out.2
        go_wp2_with fail
        refine cC1.mono ?_
        clear cC1
        rintro e t2 ⟨⟨k1, hK1, hC1⟩, hBt⟩
        have Ht2 : Hid (Below w8.heap.size w8 t2 ∧ MpAt t2 t trvL) := ⟨Ht1.out.1.trans (hBt.mono Ht1.out.1.size), Ht1.out.2.below hBt⟩
        clear hBt Ht1
        rw [two_trv (HT.out t2 Ht2.out.1).1.ok (HT.out t2 Ht2.out.1).2.1 hK1] at hC1
        rcases hC1 with ⟨hbad, _⟩ | ⟨_, cv, rfl, hMc⟩
        · rw [tooB_of (HT.out t2 Ht2.out.1).1.ok (HT.out t2 Ht2.out.1).2.2] at hbad
          cases hbad
        have HCv : Hid (MpAt t2 cv F) := hMc
        have cC2 := compose_any t2 t m1 trvL F Ht2.out.2 (HT.out t2 Ht2.out.1).1
        clear hMc hK1
        go_wp2_with fail
        refine cC2.mono ?_
        clear cC2
        rintro e t3 ⟨⟨k2, hK2, hC2⟩, hBt⟩
        have Ht3 : Hid (Below w8.heap.size w8 t3 ∧ MpAt t3 cv F) := ⟨Ht2.out.1.trans (hBt.mono Ht2.out.1.size), HCv.out.below hBt⟩
        clear hBt Ht2
        rw [trv_two (HT.out t3 Ht3.out.1).1.ok (HT.out t3 Ht3.out.1).2.1 hK2] at hC2
        rcases hC2 with ⟨hbad, _⟩ | ⟨_, dv, rfl, hMd⟩
        · rw [tooB_of (HT.out t3 Ht3.out.1).1.ok (HT.out t3 Ht3.out.1).2.2] at hbad
          cases hbad
        have HDv : Hid (MpAt t3 dv F) := hMd
        have cS1 := same14_any t3 cv m1 F F Ht3.out.2 (HT.out t3 Ht3.out.1).1
        rw [decide_eq_true rfl] at cS1
        clear hMd hK2 HCv
        go_wp2_with fail
        refine cS1.mono ?_
        clear cS1
        rintro e t4 ⟨rfl, hBt⟩
        have Ht4 : Hid (Below w8.heap.size w8 t4 ∧ MpAt t4 dv F) := ⟨Ht3.out.1.trans (hBt.mono Ht3.out.1.size), HDv.out.below hBt⟩
        clear hBt Ht3 HDv
        have cS2 := same14_any t4 dv m1 F F Ht4.out.2 (HT.out t4 Ht4.out.1).1
        rw [decide_eq_true rfl] at cS2
        go_wp2_with fail
        refine cS2.mono ?_
        clear cS2
        rintro e t5 ⟨rfl, hBt⟩
        have Ht5 : Hid (Below w.heap.size w t5) := (HW8.out.trans (Ht4.out.1.mono HW8.out.size)).trans (hBt.mono (Nat.le_trans HW8.out.size Ht4.out.1.size))
        clear hBt Ht4
        go_wp2_with fail
        refine (wakes14_any _).mono ?_
        rintro e t6 ⟨rfl, hBt⟩
        have Ht6 : Hid (Below w.heap.size w t6) := Ht5.out.trans (hBt.mono Ht5.out.size)
        clear hBt
        go_wp2
        go_ret
        exact ⟨rfl, Ht6.out⟩
end Go.Proofs.Ytggnglgehobglaa
