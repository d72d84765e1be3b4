import Derived.Test.YtiaelcckdodfjaaM40
import Derived.Test.YtiaelcckdodfjaaM44
import Derived.Test.YtiaelcckdodfjaaM45
import Derived.Test.YtiaelcckdodfjaaM46
/- The walk of PathmapThere. -/
namespace Go.Proofs.Ytiaelcckdodfjaa
open Go.RowKit Go.Shelf Go.Maps

attribute [local go_sem] Oper.semAt_some

set_option maxRecDepth 100000 in
set_option maxHeartbeats 4000000 in
theorem pathmapThere_walk (w : World) (a : Option Addr) (n c : Nat) (rs : List Ru) (A B : ByteArray) (hl : Rus w a n rs) (hnb : n ≤ 100000000000000000) (hz : ∀ r ∈ rs, r.2.1.length ≤ maxLen ∧ r.2.2.length ≤ maxLen) :
    Calls Try.prog 3 #[.slice a n c, .string A, .string B] w fun e w' => e = .returned (.bool true) ∧ Below w.heap.size w w' := by
  have HL : Hid (Rus w a n rs ∧ n ≤ 100000000000000000 ∧ ∀ r ∈ rs, r.2.1.length ≤ maxLen ∧ r.2.2.length ≤ maxLen) := ⟨hl, hnb, hz⟩
  clear hl hnb hz
  obtain ⟨am, ham⟩ : ∃ m, m = min A.size 300 := ⟨_, rfl⟩
  obtain ⟨bm, hbm⟩ : ∃ m, m = min B.size 300 := ⟨_, rfl⟩
  have m1 : min (A.size : Int) 300 = (am : Int) := by omega
  have m2 : (if (A.size : Int) ≤ 300 then (A.size : Int) else 300) = (am : Int) := by split <;> omega
  have m3 : (if (300 : Int) < (A.size : Int) then 300 else (A.size : Int)) = (am : Int) := by split <;> omega
  have m4 : (if (A.size : Int) < 300 then (A.size : Int) else 300) = (am : Int) := by split <;> omega
  have m5 : (am : Int) ≤ (A.size : Int) := by omega
  have m6 : am ≤ A.size := by omega
  have n1 : min (B.size : Int) 300 = (bm : Int) := by omega
  have n2 : (if (B.size : Int) ≤ 300 then (B.size : Int) else 300) = (bm : Int) := by split <;> omega
  have n3 : (if (300 : Int) < (B.size : Int) then 300 else (B.size : Int)) = (bm : Int) := by split <;> omega
  have n4 : (if (B.size : Int) < 300 then (B.size : Int) else 300) = (bm : Int) := by split <;> omega
  have n5 : (bm : Int) ≤ (B.size : Int) := by omega
  have n6 : bm ≤ B.size := by omega
  have HS : Hid ((A.extract 0 am).size ≤ 300 ∧ (B.extract 0 bm).size ≤ 300) := ⟨by rw [← bs_len, bs_cut A am ham, List.length_take]; omega, by rw [← bs_len, bs_cut B bm hbm, List.length_take]; omega⟩
  clear ham hbm
  go_enter Try.func3, Try.ntmps3
  go_wp2_with fail
  refine (wakes14_any _).mono ?_
  rintro e w1 ⟨rfl, hB1⟩
  have H1 : Hid (Below w.heap.size w w1) := hB1
  clear hB1
  go_wp2_with fail
  go_quiet (fail)
  generalize A.extract 0 am = A2 at *
  generalize B.extract 0 bm = B2 at *
  clear m1 m2 m3 m4 m5 m6 n1 n2 n3 n4 n5 n6
  have hct := fun W hW => cut14_any W a n c rs (HL.out.1.kept hW) HL.out.2.1 HL.out.2.2
  have H1d : Hid (∀ q, Below w.heap.size w (w1.drewN q)) := fun q => below_drewN H1.out q
  go_wp2_with fail
  refine (hct _ (H1d.out _)).mono ?_
  rintro e w2 ⟨ad, c', rfl, hrow, hB2⟩
  have H2 : Hid (Below w.heap.size w w2) := (H1d.out _).trans (hB2.mono (H1d.out _).size)
  obtain ⟨ad', c2, e', hnc', hnil'⟩ := row_shapeR hrow
  cases e'
  have hcl : (cutR rs).length ≤ 66 := by
    unfold cutR
    rw [List.length_map, List.length_take]
    omega
  have hnw := new_any w2 ad (cutR rs).length c' (cutR rs) (own_rus hrow rfl) hnc' (by omega) (fun r hr => by
    unfold cutR at hr
    obtain ⟨q, _, rfl⟩ := List.mem_map.1 hr
    simp only [c300, List.length_take]
    omega)
  generalize cutR rs = cs at *
  generalize hN0 : cs.length = N at *
  have HN0 : Hid (cs.length = N) := hN0
  clear hN0 hct hrow hB2 hnc' hnil' hcl H1 H1d HL
  go_wp2_with fail
  refine hnw.mono ?_
  clear hnw
  rintro e w3 ⟨hN, hB3⟩
  have H3 : Hid (Below w.heap.size w w3) := H2.out.trans (hB3.mono H2.out.size)
  clear hB3 H2
  have hN' : (∃ E X : Int, E ≠ 0 ∧ e = .returned (.tuple #[.pointer none, .agg #[.int .i64 E, .int .i64 X]])) ∨ ∃ m F, e = .returned (.tuple #[.pointer (some ⟨m, 0, none⟩), .agg #[.int .i64 0, .int .i64 0]]) ∧ MpAt w3 m F ∧ AgrF F ∧ Knd F := by
    rcases hN with ⟨_, he⟩ | ⟨_, k, r, _, hb, _, he⟩ | ⟨_, hG, m, ks, he, hM, hK⟩
    · exact .inl ⟨3, -1, by decide, he⟩
    · exact .inl ⟨_, _, hb, he⟩
    · exact .inr ⟨m, _, he, hM, form_agr HN0.out hG hK, form_knd HN0.out hG hK⟩
  clear hN
  rcases hN' with ⟨E, X, hE, rfl⟩ | ⟨m, F, rfl, hM, hAg, hKn⟩
  · have H4 : Hid (Below w.heap.size w (w3.alloc (.cells #[.int .i64 E, .int .i64 X] 27)) ∧ BoxF (w3.alloc (.cells #[.int .i64 E, .int .i64 X] 27)) w3.heap.size E X) := ⟨H3.out.alloc H3.out.size _, BoxF.new w3 E X⟩
    obtain ⟨c0, c1⟩ := H4.out.2.cell
    go_wp2_with (go_at_call 6; refine (wakes14_any _).mono ?_; rintro e w5 ⟨rfl, hB5⟩; have H5 : Hid (Below w.heap.size w w5) := H4.out.1.trans (hB5.mono H4.out.1.size); clear hB5)
    go_ret
    exact ⟨rfl, H5.out⟩
  · have hF := hM.ok
    have HM : Hid (∀ W, Below w3.heap.size w3 W → MpAt W m F) := fun W hW => hM.below hW
    have cI : ∀ W, Below w3.heap.size w3 W → ∀ s : ByteArray, s.size ≤ 100000 → Calls Try.prog 9 #[.pointer (some ⟨m, 0, none⟩), .string s] W fun e w' => e = .returned (.tuple #[.string (mk (thr (bs s) (imgL F (bs s))).1), .int .i64 (thr (bs s) (imgL F (bs s))).2]) ∧ Below W.heap.size W w' := fun W hW s hs => Iimage_any W m F s (hM.below hW) (by unfold maxLen; omega)
    have cS : ∀ W, Below w3.heap.size w3 W → ∀ s : ByteArray, s.size ≤ 100000 → Calls Try.prog 10 #[.pointer (some ⟨m, 0, none⟩), .string s] W fun e w' => e = .returned (.tuple #[.string (mk (thr (bs s) (srcL F (bs s))).1), .int .i64 (thr (bs s) (srcL F (bs s))).2]) ∧ Below W.heap.size W w' := fun W hW s hs => Isource_any W m F s (hM.below hW) (by unfold maxLen; omega)
    have cR : ∀ W, Below w3.heap.size w3 W → Calls Try.prog 12 #[.pointer (some ⟨m, 0, none⟩), .string A2] W fun e w' => e = .returned (.tuple #[ruV (rulR F (bs A2)).1, .bool (rulR F (bs A2)).2]) ∧ Below W.heap.size W w' := fun W hW => Irule_any W m F A2 (hM.below hW) (by have := HS.out.1; unfold maxLen; omega)
    have t1 := fun h => there1 hF hAg (l := bs A2) h
    have t2 := fun h => there2 hF hAg (l := bs B2) h
    have t3 := fun h1 h2 => there3 hF hAg (a := bs A2) (b := bs B2) h1 h2
    have cIa := fun W hW => cI W hW A2 (by have := HS.out.1; omega)
    have cIb := fun W hW => cI W hW B2 (by have := HS.out.2; omega)
    have cSb := fun W hW => cS W hW B2 (by have := HS.out.2; omega)
    have H4 : Hid (Below w.heap.size w (w3.alloc (.cells #[.int .i64 0, .int .i64 0] 27)) ∧ BoxF (w3.alloc (.cells #[.int .i64 0, .int .i64 0] 27)) w3.heap.size 0 0 ∧ Below w3.heap.size w3 (w3.alloc (.cells #[.int .i64 0, .int .i64 0] 27))) := ⟨H3.out.alloc H3.out.size _, BoxF.new w3 0 0, (Below.refl _ w3).alloc (Nat.le_refl _) _⟩
    obtain ⟨c0, c1⟩ := H4.out.2.1.cell
    clear hM
    go_wp2_with fail
    refine (cIa _ H4.out.2.2).mono ?_
    clear c0 c1
    generalize w3.alloc (.cells #[.int .i64 0, .int .i64 0] 27) = w4 at *
    rintro e w5 ⟨rfl, hB5⟩
    have H5 : Hid (Below w.heap.size w w5 ∧ Below w3.heap.size w3 w5) := ⟨H4.out.1.trans (hB5.mono H4.out.1.size), H4.out.2.2.trans (hB5.mono H4.out.2.2.size)⟩
    clear hB5 H4
    go_wp2_with fail
    refine (cIb _ H5.out.2).mono ?_
    rintro e w6 ⟨rfl, hB6⟩
    have H6 : Hid (Below w.heap.size w w6 ∧ Below w3.heap.size w3 w6) := ⟨H5.out.1.trans (hB6.mono H5.out.1.size), H5.out.2.trans (hB6.mono H5.out.2.size)⟩
    clear hB6 H5 cIa cIb
    by_cases hea : (thr (bs A2) (imgL F (bs A2))).2 = 0
    · obtain ⟨pa, x, hxi, hxp, hxt⟩ := thr_zero hea
      have hb1 := t1 hea
      rw [hxt] at hb1 t3 ⊢
      have hxl : (mk x).size ≤ 100000 := by rw [← bs_len, bs_mk]; have := isP_len hxp; omega
      have cSx := fun W hW => cS W hW (mk x) hxl
      rw [bs_mk] at cSx
      simp only at hb1
      rw [hb1, mk_bs] at cSx
      go_wp2_with fail
      refine (cSx _ H6.out.2).mono ?_
      rintro e w7 ⟨rfl, hB7⟩
      have H7 : Hid (Below w.heap.size w w7 ∧ Below w3.heap.size w3 w7) := ⟨H6.out.1.trans (hB7.mono H6.out.1.size), H6.out.2.trans (hB7.mono H6.out.2.size)⟩
      clear hB7 H6 cSx
      go_wp2_with fail
      refine (cSb _ H7.out.2).mono ?_
      rintro e w8 ⟨rfl, hB8⟩
      have H8 : Hid (Below w.heap.size w w8 ∧ Below w3.heap.size w3 w8) := ⟨H7.out.1.trans (hB8.mono H7.out.1.size), H7.out.2.trans (hB8.mono H7.out.2.size)⟩
      clear hB8 H7 cSb
      by_cases hno : (thr (bs B2) (srcL F (bs B2))).2 = 0
      · obtain ⟨pb, s, hsi, hsp, hst⟩ := thr_zero hno
        have hb2 := t2 hno
        rw [hst] at hb2 ⊢
        have hsl : (mk s).size ≤ 100000 := by rw [← bs_len, bs_mk]; have := isP_len hsp; omega
        have cIs := fun W hW => cI W hW (mk s) hsl
        rw [bs_mk] at cIs
        simp only at hb2
        rw [hb2, mk_bs] at cIs
        clear t2 hno hsi hst hb2
        go_wp2_with fail
        refine (cIs _ H8.out.2).mono ?_
        rintro e w9 ⟨rfl, hB9⟩
        have H9 : Hid (Below w.heap.size w w9 ∧ Below w3.heap.size w3 w9) := ⟨H8.out.1.trans (hB9.mono H8.out.1.size), H8.out.2.trans (hB9.mono H8.out.2.size)⟩
        clear hB9 H8
        clear cIs
        by_cases heb : (thr (bs B2) (imgL F (bs B2))).2 = 0
        · obtain ⟨pb2, y, hyi, hyp, hyt⟩ := thr_zero heb
          obtain ⟨g1, g2⟩ := t3 trivial heb
          rw [hyt] at g1 g2 ⊢
          simp only at g1 g2
          have hyl : (mk y).size ≤ 20000 := by rw [← bs_len, bs_mk]; have := isP_len hyp; omega
          have cN1 := fun W => In_any A2 B2 W (by have := HS.out.1; omega) (by have := HS.out.2; omega)
          have cN2 := fun W => In_any (mk x) (mk y) W (by omega) (by omega)
          rw [bs_mk, bs_mk, ← g1] at cN2
          have hq : ((mk x).toList == (mk y).toList) = (A2.toList == B2.toList) := by rw [toList_bs, toList_bs, toList_bs, toList_bs, bs_mk, bs_mk, Bool.eq_iff_iff, beq_iff_eq, beq_iff_eq]; exact g2.symm
          generalize inP (bs A2) (bs B2) = iv at *
          clear g1 g2 heb hyi t3
          generalize hqq : (A2.toList == B2.toList) = qv at *
          go_wp2_with fail
          refine (cN1 _).mono ?_
          rintro e w20 ⟨rfl, hB20⟩
          have H20 : Hid (Below w.heap.size w w20 ∧ Below w3.heap.size w3 w20) := ⟨H9.out.1.trans (hB20.mono H9.out.1.size), H9.out.2.trans (hB20.mono H9.out.2.size)⟩
          clear hB20 H9
          go_wp2_with fail
          refine (cN2 _).mono ?_
          rintro e w21 ⟨rfl, hB21⟩
          have H21 : Hid (Below w.heap.size w w21 ∧ Below w3.heap.size w3 w21) := ⟨H20.out.1.trans (hB21.mono H20.out.1.size), H20.out.2.trans (hB21.mono H20.out.2.size)⟩
          clear hB21 H20
          clear cN1 cN2
          have hpe : (pathSpot (bs A2)).1 = 0 := by unfold isP at pa; simpa using pa
          have cP := fun W => path_any A2 W (by have := HS.out.1; unfold maxLen; omega)
          simp only [spotV] at cP
          rw [hpe] at cP
          generalize (pathSpot (bs A2)).2 = p2 at *
          have hfd := fun W => field0 (.int .i64 (0 : Int)) (.int .i64 (p2 : Int)) W
          have hrul : rulR F (bs A2) = (ruleT (tabL F) (bs A2), decide (ruleT (tabL F) (bs A2) ≠ noR)) := by unfold rulR; rw [if_pos pa]
          rw [hrul] at cR
          have hkd := thr_kind hF hKn pa
          have hrp := ruleT_ok hF (bs A2)
          rw [hxt] at hkd
          generalize ruleT (tabL F) (bs A2) = R at *
          obtain ⟨rk, rf, rt⟩ := R
          rcases hkd with ⟨_, h⟩ | ⟨h1, h2⟩ | ⟨_, h⟩ | ⟨h1, h2, h3⟩
          · cases h
          · simp only at h1
            subst h1
            have hx2 : x = bs A2 := by cases h2; rfl
            subst hx2
            rw [show decide (((1, rf, rt) : Ru) ≠ noR) = true from by simp [noR]] at cR
            rw [mk_bs]
            try rw [mk_bs] at hq
            clear h2 hrul
            simp only [ruV] at cR
            generalize mk rf = f2 at *
            generalize mk rt = t2 at *
            go_wp2_with fail
            refine (cR _ H21.out.2).mono ?_
            rintro e w10 ⟨rfl, hB10⟩
            have H10 : Hid (Below w.heap.size w (w10.alloc (.cells #[.int .i64 1, .string f2, .string t2] 35)) ∧ BoxR (w10.alloc (.cells #[.int .i64 1, .string f2, .string t2] 35)) w10.heap.size 1 f2 t2) := by
              have h0 := H21.out.1.trans (hB10.mono H21.out.1.size)
              exact ⟨h0.alloc h0.size _, BoxR.new w10 1 f2 t2⟩
            clear hB10 H21 cR cI cS
            go_wp2_with fail
            refine (cP _).mono ?_
            clear cP
            generalize w10.alloc (.cells #[.int .i64 1, .string f2, .string t2] 35) = w11 at *
            generalize w10.heap.size = br at *
            rintro e w12 ⟨rfl, hB12⟩
            have H12 : Hid (Below w.heap.size w w12 ∧ BoxR w12 br 1 f2 t2) := ⟨H10.out.1.trans (hB12.mono H10.out.1.size), H10.out.2.below hB12 H10.out.2.lt⟩
            clear hB12 H10
            obtain ⟨d0, d1, d2⟩ := H12.out.2.cell
            go_wp2_with (go_at_call 6; refine (wakes14_any _).mono ?_; rintro e w13 ⟨rfl, hB13⟩; have H13 : Hid (Below w.heap.size w w13) := H12.out.1.trans (hB13.mono H12.out.1.size); clear hB13)
            go_ret
            exact ⟨rfl, H13.out⟩
          · cases h
          · simp only at h1
            subst h1
            rw [show decide (((3, rf, rt) : Ru) ≠ noR) = true from by simp [noR]] at cR
            have cM := fun W => Move_any A2 (mk rf) (mk rt) W (by have := HS.out.1; omega) (by rw [← bs_len, bs_mk]; have := isP_len hrp.1; simp only at this; omega) (by rw [← bs_len, bs_mk]; have := isP_len hrp.2; simp only at this; omega)
            simp only [bs_mk] at cM
            simp only at h3
            rw [h3.1, h3.2] at cM
            clear h2 h3 hrul
            simp only [ruV] at cR
            generalize mk rf = f2 at *
            generalize mk rt = t2 at *
            go_wp2_with fail
            refine (cR _ H21.out.2).mono ?_
            rintro e w10 ⟨rfl, hB10⟩
            have H10 : Hid (Below w.heap.size w (w10.alloc (.cells #[.int .i64 3, .string f2, .string t2] 35)) ∧ BoxR (w10.alloc (.cells #[.int .i64 3, .string f2, .string t2] 35)) w10.heap.size 3 f2 t2) := by
              have h0 := H21.out.1.trans (hB10.mono H21.out.1.size)
              exact ⟨h0.alloc h0.size _, BoxR.new w10 3 f2 t2⟩
            clear hB10 H21 cR cI cS
            go_wp2_with fail
            refine (cP _).mono ?_
            clear cP
            generalize w10.alloc (.cells #[.int .i64 3, .string f2, .string t2] 35) = w11 at *
            generalize w10.heap.size = br at *
            rintro e w12 ⟨rfl, hB12⟩
            have H12 : Hid (Below w.heap.size w w12 ∧ BoxR w12 br 3 f2 t2) := ⟨H10.out.1.trans (hB12.mono H10.out.1.size), H10.out.2.below hB12 H10.out.2.lt⟩
            clear hB12 H10
            obtain ⟨d0, d1, d2⟩ := H12.out.2.cell
            go_wp2_with fail
            refine (cM _).mono ?_
            clear cM d0 d1 d2
            rintro e w14 ⟨rfl, hB14⟩
            replace H12 : Hid (Below w.heap.size w w14 ∧ BoxR w14 br 3 f2 t2) := ⟨H12.out.1.trans (hB14.mono H12.out.1.size), H12.out.2.below hB14 H12.out.2.lt⟩
            clear hB14
            go_wp2_with (go_at_call 6; refine (wakes14_any _).mono ?_; rintro e w13 ⟨rfl, hB13⟩; have H13 : Hid (Below w.heap.size w w13) := H12.out.1.trans (hB13.mono H12.out.1.size); clear hB13)
            go_ret
            exact ⟨rfl, H13.out⟩
        · obtain ⟨y, hy⟩ : ∃ y, y = (thr (bs B2) (imgL F (bs B2))).1 := ⟨_, rfl⟩
          obtain ⟨eb, he⟩ : ∃ eb, eb = (thr (bs B2) (imgL F (bs B2))).2 := ⟨_, rfl⟩
          rw [← hy, ← he]
          rw [← he] at heb
          clear hy he t3
          have hpe : (pathSpot (bs A2)).1 = 0 := by unfold isP at pa; simpa using pa
          have cP := fun W => path_any A2 W (by have := HS.out.1; unfold maxLen; omega)
          simp only [spotV] at cP
          rw [hpe] at cP
          generalize (pathSpot (bs A2)).2 = p2 at *
          have hfd := fun W => field0 (.int .i64 (0 : Int)) (.int .i64 (p2 : Int)) W
          have hrul : rulR F (bs A2) = (ruleT (tabL F) (bs A2), decide (ruleT (tabL F) (bs A2) ≠ noR)) := by unfold rulR; rw [if_pos pa]
          rw [hrul] at cR
          have hkd := thr_kind hF hKn pa
          have hrp := ruleT_ok hF (bs A2)
          rw [hxt] at hkd
          generalize ruleT (tabL F) (bs A2) = R at *
          obtain ⟨rk, rf, rt⟩ := R
          rcases hkd with ⟨_, h⟩ | ⟨h1, h2⟩ | ⟨_, h⟩ | ⟨h1, h2, h3⟩
          · cases h
          · simp only at h1
            subst h1
            have hx2 : x = bs A2 := by cases h2; rfl
            subst hx2
            rw [show decide (((1, rf, rt) : Ru) ≠ noR) = true from by simp [noR]] at cR
            rw [mk_bs]
            try rw [mk_bs] at hq
            clear h2 hrul
            simp only [ruV] at cR
            generalize mk rf = f2 at *
            generalize mk rt = t2 at *
            go_wp2_with fail
            refine (cR _ H9.out.2).mono ?_
            rintro e w10 ⟨rfl, hB10⟩
            have H10 : Hid (Below w.heap.size w (w10.alloc (.cells #[.int .i64 1, .string f2, .string t2] 35)) ∧ BoxR (w10.alloc (.cells #[.int .i64 1, .string f2, .string t2] 35)) w10.heap.size 1 f2 t2) := by
              have h0 := H9.out.1.trans (hB10.mono H9.out.1.size)
              exact ⟨h0.alloc h0.size _, BoxR.new w10 1 f2 t2⟩
            clear hB10 H9 cR cI cS
            go_wp2_with fail
            refine (cP _).mono ?_
            clear cP
            generalize w10.alloc (.cells #[.int .i64 1, .string f2, .string t2] 35) = w11 at *
            generalize w10.heap.size = br at *
            rintro e w12 ⟨rfl, hB12⟩
            have H12 : Hid (Below w.heap.size w w12 ∧ BoxR w12 br 1 f2 t2) := ⟨H10.out.1.trans (hB12.mono H10.out.1.size), H10.out.2.below hB12 H10.out.2.lt⟩
            clear hB12 H10
            obtain ⟨d0, d1, d2⟩ := H12.out.2.cell
            go_wp2_with (go_at_call 6; refine (wakes14_any _).mono ?_; rintro e w13 ⟨rfl, hB13⟩; have H13 : Hid (Below w.heap.size w w13) := H12.out.1.trans (hB13.mono H12.out.1.size); clear hB13)
            go_ret
            exact ⟨rfl, H13.out⟩
          · cases h
          · simp only at h1
            subst h1
            rw [show decide (((3, rf, rt) : Ru) ≠ noR) = true from by simp [noR]] at cR
            have cM := fun W => Move_any A2 (mk rf) (mk rt) W (by have := HS.out.1; omega) (by rw [← bs_len, bs_mk]; have := isP_len hrp.1; simp only at this; omega) (by rw [← bs_len, bs_mk]; have := isP_len hrp.2; simp only at this; omega)
            simp only [bs_mk] at cM
            simp only at h3
            rw [h3.1, h3.2] at cM
            clear h2 h3 hrul
            simp only [ruV] at cR
            generalize mk rf = f2 at *
            generalize mk rt = t2 at *
            go_wp2_with fail
            refine (cR _ H9.out.2).mono ?_
            rintro e w10 ⟨rfl, hB10⟩
            have H10 : Hid (Below w.heap.size w (w10.alloc (.cells #[.int .i64 3, .string f2, .string t2] 35)) ∧ BoxR (w10.alloc (.cells #[.int .i64 3, .string f2, .string t2] 35)) w10.heap.size 3 f2 t2) := by
              have h0 := H9.out.1.trans (hB10.mono H9.out.1.size)
              exact ⟨h0.alloc h0.size _, BoxR.new w10 3 f2 t2⟩
            clear hB10 H9 cR cI cS
            go_wp2_with fail
            refine (cP _).mono ?_
            clear cP
            generalize w10.alloc (.cells #[.int .i64 3, .string f2, .string t2] 35) = w11 at *
            generalize w10.heap.size = br at *
            rintro e w12 ⟨rfl, hB12⟩
            have H12 : Hid (Below w.heap.size w w12 ∧ BoxR w12 br 3 f2 t2) := ⟨H10.out.1.trans (hB12.mono H10.out.1.size), H10.out.2.below hB12 H10.out.2.lt⟩
            clear hB12 H10
            obtain ⟨d0, d1, d2⟩ := H12.out.2.cell
            go_wp2_with fail
            refine (cM _).mono ?_
            clear cM d0 d1 d2
            rintro e w14 ⟨rfl, hB14⟩
            replace H12 : Hid (Below w.heap.size w w14 ∧ BoxR w14 br 3 f2 t2) := ⟨H12.out.1.trans (hB14.mono H12.out.1.size), H12.out.2.below hB14 H12.out.2.lt⟩
            clear hB14
            go_wp2_with (go_at_call 6; refine (wakes14_any _).mono ?_; rintro e w13 ⟨rfl, hB13⟩; have H13 : Hid (Below w.heap.size w w13) := H12.out.1.trans (hB13.mono H12.out.1.size); clear hB13)
            go_ret
            exact ⟨rfl, H13.out⟩
      · obtain ⟨s, hs⟩ : ∃ s, s = (thr (bs B2) (srcL F (bs B2))).1 := ⟨_, rfl⟩
        obtain ⟨no, hn⟩ : ∃ no, no = (thr (bs B2) (srcL F (bs B2))).2 := ⟨_, rfl⟩
        rw [← hs, ← hn]
        rw [← hn] at hno
        clear hs hn t2
        by_cases heb : (thr (bs B2) (imgL F (bs B2))).2 = 0
        · obtain ⟨pb2, y, hyi, hyp, hyt⟩ := thr_zero heb
          obtain ⟨g1, g2⟩ := t3 trivial heb
          rw [hyt] at g1 g2 ⊢
          simp only at g1 g2
          have hyl : (mk y).size ≤ 20000 := by rw [← bs_len, bs_mk]; have := isP_len hyp; omega
          have cN1 := fun W => In_any A2 B2 W (by have := HS.out.1; omega) (by have := HS.out.2; omega)
          have cN2 := fun W => In_any (mk x) (mk y) W (by omega) (by omega)
          rw [bs_mk, bs_mk, ← g1] at cN2
          have hq : ((mk x).toList == (mk y).toList) = (A2.toList == B2.toList) := by rw [toList_bs, toList_bs, toList_bs, toList_bs, bs_mk, bs_mk, Bool.eq_iff_iff, beq_iff_eq, beq_iff_eq]; exact g2.symm
          generalize inP (bs A2) (bs B2) = iv at *
          clear g1 g2 heb hyi t3
          generalize hqq : (A2.toList == B2.toList) = qv at *
          go_wp2_with fail
          refine (cN1 _).mono ?_
          rintro e w20 ⟨rfl, hB20⟩
          have H20 : Hid (Below w.heap.size w w20 ∧ Below w3.heap.size w3 w20) := ⟨H8.out.1.trans (hB20.mono H8.out.1.size), H8.out.2.trans (hB20.mono H8.out.2.size)⟩
          clear hB20 H8
          go_wp2_with fail
          refine (cN2 _).mono ?_
          rintro e w21 ⟨rfl, hB21⟩
          have H21 : Hid (Below w.heap.size w w21 ∧ Below w3.heap.size w3 w21) := ⟨H20.out.1.trans (hB21.mono H20.out.1.size), H20.out.2.trans (hB21.mono H20.out.2.size)⟩
          clear hB21 H20
          clear cN1 cN2
          have hpe : (pathSpot (bs A2)).1 = 0 := by unfold isP at pa; simpa using pa
          have cP := fun W => path_any A2 W (by have := HS.out.1; unfold maxLen; omega)
          simp only [spotV] at cP
          rw [hpe] at cP
          generalize (pathSpot (bs A2)).2 = p2 at *
          have hfd := fun W => field0 (.int .i64 (0 : Int)) (.int .i64 (p2 : Int)) W
          have hrul : rulR F (bs A2) = (ruleT (tabL F) (bs A2), decide (ruleT (tabL F) (bs A2) ≠ noR)) := by unfold rulR; rw [if_pos pa]
          rw [hrul] at cR
          have hkd := thr_kind hF hKn pa
          have hrp := ruleT_ok hF (bs A2)
          rw [hxt] at hkd
          generalize ruleT (tabL F) (bs A2) = R at *
          obtain ⟨rk, rf, rt⟩ := R
          rcases hkd with ⟨_, h⟩ | ⟨h1, h2⟩ | ⟨_, h⟩ | ⟨h1, h2, h3⟩
          · cases h
          · simp only at h1
            subst h1
            have hx2 : x = bs A2 := by cases h2; rfl
            subst hx2
            rw [show decide (((1, rf, rt) : Ru) ≠ noR) = true from by simp [noR]] at cR
            rw [mk_bs]
            try rw [mk_bs] at hq
            clear h2 hrul
            simp only [ruV] at cR
            generalize mk rf = f2 at *
            generalize mk rt = t2 at *
            go_wp2_with fail
            refine (cR _ H21.out.2).mono ?_
            rintro e w10 ⟨rfl, hB10⟩
            have H10 : Hid (Below w.heap.size w (w10.alloc (.cells #[.int .i64 1, .string f2, .string t2] 35)) ∧ BoxR (w10.alloc (.cells #[.int .i64 1, .string f2, .string t2] 35)) w10.heap.size 1 f2 t2) := by
              have h0 := H21.out.1.trans (hB10.mono H21.out.1.size)
              exact ⟨h0.alloc h0.size _, BoxR.new w10 1 f2 t2⟩
            clear hB10 H21 cR cI cS
            go_wp2_with fail
            refine (cP _).mono ?_
            clear cP
            generalize w10.alloc (.cells #[.int .i64 1, .string f2, .string t2] 35) = w11 at *
            generalize w10.heap.size = br at *
            rintro e w12 ⟨rfl, hB12⟩
            have H12 : Hid (Below w.heap.size w w12 ∧ BoxR w12 br 1 f2 t2) := ⟨H10.out.1.trans (hB12.mono H10.out.1.size), H10.out.2.below hB12 H10.out.2.lt⟩
            clear hB12 H10
            obtain ⟨d0, d1, d2⟩ := H12.out.2.cell
            go_wp2_with (go_at_call 6; refine (wakes14_any _).mono ?_; rintro e w13 ⟨rfl, hB13⟩; have H13 : Hid (Below w.heap.size w w13) := H12.out.1.trans (hB13.mono H12.out.1.size); clear hB13)
            go_ret
            exact ⟨rfl, H13.out⟩
          · cases h
          · simp only at h1
            subst h1
            rw [show decide (((3, rf, rt) : Ru) ≠ noR) = true from by simp [noR]] at cR
            have cM := fun W => Move_any A2 (mk rf) (mk rt) W (by have := HS.out.1; omega) (by rw [← bs_len, bs_mk]; have := isP_len hrp.1; simp only at this; omega) (by rw [← bs_len, bs_mk]; have := isP_len hrp.2; simp only at this; omega)
            simp only [bs_mk] at cM
            simp only at h3
            rw [h3.1, h3.2] at cM
            clear h2 h3 hrul
            simp only [ruV] at cR
            generalize mk rf = f2 at *
            generalize mk rt = t2 at *
            go_wp2_with fail
            refine (cR _ H21.out.2).mono ?_
            rintro e w10 ⟨rfl, hB10⟩
            have H10 : Hid (Below w.heap.size w (w10.alloc (.cells #[.int .i64 3, .string f2, .string t2] 35)) ∧ BoxR (w10.alloc (.cells #[.int .i64 3, .string f2, .string t2] 35)) w10.heap.size 3 f2 t2) := by
              have h0 := H21.out.1.trans (hB10.mono H21.out.1.size)
              exact ⟨h0.alloc h0.size _, BoxR.new w10 3 f2 t2⟩
            clear hB10 H21 cR cI cS
            go_wp2_with fail
            refine (cP _).mono ?_
            clear cP
            generalize w10.alloc (.cells #[.int .i64 3, .string f2, .string t2] 35) = w11 at *
            generalize w10.heap.size = br at *
            rintro e w12 ⟨rfl, hB12⟩
            have H12 : Hid (Below w.heap.size w w12 ∧ BoxR w12 br 3 f2 t2) := ⟨H10.out.1.trans (hB12.mono H10.out.1.size), H10.out.2.below hB12 H10.out.2.lt⟩
            clear hB12 H10
            obtain ⟨d0, d1, d2⟩ := H12.out.2.cell
            go_wp2_with fail
            refine (cM _).mono ?_
            clear cM d0 d1 d2
            rintro e w14 ⟨rfl, hB14⟩
            replace H12 : Hid (Below w.heap.size w w14 ∧ BoxR w14 br 3 f2 t2) := ⟨H12.out.1.trans (hB14.mono H12.out.1.size), H12.out.2.below hB14 H12.out.2.lt⟩
            clear hB14
            go_wp2_with (go_at_call 6; refine (wakes14_any _).mono ?_; rintro e w13 ⟨rfl, hB13⟩; have H13 : Hid (Below w.heap.size w w13) := H12.out.1.trans (hB13.mono H12.out.1.size); clear hB13)
            go_ret
            exact ⟨rfl, H13.out⟩
        · obtain ⟨y, hy⟩ : ∃ y, y = (thr (bs B2) (imgL F (bs B2))).1 := ⟨_, rfl⟩
          obtain ⟨eb, he⟩ : ∃ eb, eb = (thr (bs B2) (imgL F (bs B2))).2 := ⟨_, rfl⟩
          rw [← hy, ← he]
          rw [← he] at heb
          clear hy he t3
          have hpe : (pathSpot (bs A2)).1 = 0 := by unfold isP at pa; simpa using pa
          have cP := fun W => path_any A2 W (by have := HS.out.1; unfold maxLen; omega)
          simp only [spotV] at cP
          rw [hpe] at cP
          generalize (pathSpot (bs A2)).2 = p2 at *
          have hfd := fun W => field0 (.int .i64 (0 : Int)) (.int .i64 (p2 : Int)) W
          have hrul : rulR F (bs A2) = (ruleT (tabL F) (bs A2), decide (ruleT (tabL F) (bs A2) ≠ noR)) := by unfold rulR; rw [if_pos pa]
          rw [hrul] at cR
          have hkd := thr_kind hF hKn pa
          have hrp := ruleT_ok hF (bs A2)
          rw [hxt] at hkd
          generalize ruleT (tabL F) (bs A2) = R at *
          obtain ⟨rk, rf, rt⟩ := R
          rcases hkd with ⟨_, h⟩ | ⟨h1, h2⟩ | ⟨_, h⟩ | ⟨h1, h2, h3⟩
          · cases h
          · simp only at h1
            subst h1
            have hx2 : x = bs A2 := by cases h2; rfl
            subst hx2
            rw [show decide (((1, rf, rt) : Ru) ≠ noR) = true from by simp [noR]] at cR
            rw [mk_bs]
            try rw [mk_bs] at hq
            clear h2 hrul
            simp only [ruV] at cR
            generalize mk rf = f2 at *
            generalize mk rt = t2 at *
            go_wp2_with fail
            refine (cR _ H8.out.2).mono ?_
            rintro e w10 ⟨rfl, hB10⟩
            have H10 : Hid (Below w.heap.size w (w10.alloc (.cells #[.int .i64 1, .string f2, .string t2] 35)) ∧ BoxR (w10.alloc (.cells #[.int .i64 1, .string f2, .string t2] 35)) w10.heap.size 1 f2 t2) := by
              have h0 := H8.out.1.trans (hB10.mono H8.out.1.size)
              exact ⟨h0.alloc h0.size _, BoxR.new w10 1 f2 t2⟩
            clear hB10 H8 cR cI cS
            go_wp2_with fail
            refine (cP _).mono ?_
            clear cP
            generalize w10.alloc (.cells #[.int .i64 1, .string f2, .string t2] 35) = w11 at *
            generalize w10.heap.size = br at *
            rintro e w12 ⟨rfl, hB12⟩
            have H12 : Hid (Below w.heap.size w w12 ∧ BoxR w12 br 1 f2 t2) := ⟨H10.out.1.trans (hB12.mono H10.out.1.size), H10.out.2.below hB12 H10.out.2.lt⟩
            clear hB12 H10
            obtain ⟨d0, d1, d2⟩ := H12.out.2.cell
            go_wp2_with (go_at_call 6; refine (wakes14_any _).mono ?_; rintro e w13 ⟨rfl, hB13⟩; have H13 : Hid (Below w.heap.size w w13) := H12.out.1.trans (hB13.mono H12.out.1.size); clear hB13)
            go_ret
            exact ⟨rfl, H13.out⟩
          · cases h
          · simp only at h1
            subst h1
            rw [show decide (((3, rf, rt) : Ru) ≠ noR) = true from by simp [noR]] at cR
            have cM := fun W => Move_any A2 (mk rf) (mk rt) W (by have := HS.out.1; omega) (by rw [← bs_len, bs_mk]; have := isP_len hrp.1; simp only at this; omega) (by rw [← bs_len, bs_mk]; have := isP_len hrp.2; simp only at this; omega)
            simp only [bs_mk] at cM
            simp only at h3
            rw [h3.1, h3.2] at cM
            clear h2 h3 hrul
            simp only [ruV] at cR
            generalize mk rf = f2 at *
            generalize mk rt = t2 at *
            go_wp2_with fail
            refine (cR _ H8.out.2).mono ?_
            rintro e w10 ⟨rfl, hB10⟩
            have H10 : Hid (Below w.heap.size w (w10.alloc (.cells #[.int .i64 3, .string f2, .string t2] 35)) ∧ BoxR (w10.alloc (.cells #[.int .i64 3, .string f2, .string t2] 35)) w10.heap.size 3 f2 t2) := by
              have h0 := H8.out.1.trans (hB10.mono H8.out.1.size)
              exact ⟨h0.alloc h0.size _, BoxR.new w10 3 f2 t2⟩
            clear hB10 H8 cR cI cS
            go_wp2_with fail
            refine (cP _).mono ?_
            clear cP
            generalize w10.alloc (.cells #[.int .i64 3, .string f2, .string t2] 35) = w11 at *
            generalize w10.heap.size = br at *
            rintro e w12 ⟨rfl, hB12⟩
            have H12 : Hid (Below w.heap.size w w12 ∧ BoxR w12 br 3 f2 t2) := ⟨H10.out.1.trans (hB12.mono H10.out.1.size), H10.out.2.below hB12 H10.out.2.lt⟩
            clear hB12 H10
            obtain ⟨d0, d1, d2⟩ := H12.out.2.cell
            go_wp2_with fail
            refine (cM _).mono ?_
            clear cM d0 d1 d2
            rintro e w14 ⟨rfl, hB14⟩
            replace H12 : Hid (Below w.heap.size w w14 ∧ BoxR w14 br 3 f2 t2) := ⟨H12.out.1.trans (hB14.mono H12.out.1.size), H12.out.2.below hB14 H12.out.2.lt⟩
            clear hB14
            go_wp2_with (go_at_call 6; refine (wakes14_any _).mono ?_; rintro e w13 ⟨rfl, hB13⟩; have H13 : Hid (Below w.heap.size w w13) := H12.out.1.trans (hB13.mono H12.out.1.size); clear hB13)
            go_ret
            exact ⟨rfl, H13.out⟩
    · clear t1
      have hea2 : ¬ (thr (bs A2) (imgL F (bs A2))).2 = 0 := hea
      go_wp2_with fail
      refine (cSb _ H6.out.2).mono ?_
      rintro e w8 ⟨rfl, hB8⟩
      have H8 : Hid (Below w.heap.size w w8 ∧ Below w3.heap.size w3 w8) := ⟨H6.out.1.trans (hB8.mono H6.out.1.size), H6.out.2.trans (hB8.mono H6.out.2.size)⟩
      clear hB8 H6
      clear cSb hea2
      by_cases hno : (thr (bs B2) (srcL F (bs B2))).2 = 0
      · obtain ⟨pb, s, hsi, hsp, hst⟩ := thr_zero hno
        have hb2 := t2 hno
        rw [hst] at hb2 ⊢
        have hsl : (mk s).size ≤ 100000 := by rw [← bs_len, bs_mk]; have := isP_len hsp; omega
        have cIs := fun W hW => cI W hW (mk s) hsl
        rw [bs_mk] at cIs
        simp only at hb2
        rw [hb2, mk_bs] at cIs
        clear t2 hno hsi hst hb2
        go_wp2_with fail
        refine (cIs _ H8.out.2).mono ?_
        rintro e w9 ⟨rfl, hB9⟩
        have H9 : Hid (Below w.heap.size w w9 ∧ Below w3.heap.size w3 w9) := ⟨H8.out.1.trans (hB9.mono H8.out.1.size), H8.out.2.trans (hB9.mono H8.out.2.size)⟩
        clear hB9 H8
        clear cIs
        obtain ⟨y, hy⟩ : ∃ y, y = (thr (bs B2) (imgL F (bs B2))).1 := ⟨_, rfl⟩
        obtain ⟨eb, he⟩ : ∃ eb, eb = (thr (bs B2) (imgL F (bs B2))).2 := ⟨_, rfl⟩
        rw [← hy, ← he]
        clear hy he t3
        cases pa : isP (bs A2) with
        | false =>
          have hpe : (pathSpot (bs A2)).1 ≠ 0 := isP_spot pa
          have cP := fun W => path_any A2 W (by have := HS.out.1; unfold maxLen; omega)
          simp only [spotV] at cP
          have hrul : rulR F (bs A2) = (noR, false) := by unfold rulR; rw [if_neg (by rw [pa]; decide)]
          rw [hrul] at cR
          have he : thr (bs A2) (imgL F (bs A2)) = ([], ((pathSpot (bs A2)).1 : Int)) := by unfold thr; rw [if_pos pa]
          rw [he]
          clear he hrul
          generalize (pathSpot (bs A2)).1 = p1 at *
          generalize (pathSpot (bs A2)).2 = p2 at *
          have hpi : ¬ (p1 : Int) = 0 := by omega
          have hfd := fun W => field0 (.int .i64 (p1 : Int)) (.int .i64 (p2 : Int)) W
          skip
          simp only [ruV, noR] at cR
          generalize mk [] = f2 at *
          go_wp2_with fail
          refine (cR _ H9.out.2).mono ?_
          rintro e w10 ⟨rfl, hB10⟩
          have H10 : Hid (Below w.heap.size w (w10.alloc (.cells #[.int .i64 0, .string f2, .string f2] 35)) ∧ BoxR (w10.alloc (.cells #[.int .i64 0, .string f2, .string f2] 35)) w10.heap.size 0 f2 f2) := by
            have h0 := H9.out.1.trans (hB10.mono H9.out.1.size)
            exact ⟨h0.alloc h0.size _, BoxR.new w10 0 f2 f2⟩
          clear hB10 H9 cR cI cS
          go_wp2_with fail
          refine (cP _).mono ?_
          clear cP
          generalize w10.alloc (.cells #[.int .i64 0, .string f2, .string f2] 35) = w11 at *
          generalize w10.heap.size = br at *
          rintro e w12 ⟨rfl, hB12⟩
          have H12 : Hid (Below w.heap.size w w12 ∧ BoxR w12 br 0 f2 f2) := ⟨H10.out.1.trans (hB12.mono H10.out.1.size), H10.out.2.below hB12 H10.out.2.lt⟩
          clear hB12 H10
          obtain ⟨d0, d1, d2⟩ := H12.out.2.cell
          go_wp2_with (go_at_call 6; refine (wakes14_any _).mono ?_; rintro e w13 ⟨rfl, hB13⟩; have H13 : Hid (Below w.heap.size w w13) := H12.out.1.trans (hB13.mono H12.out.1.size); clear hB13)
          go_ret
          exact ⟨rfl, H13.out⟩
        | true =>
          have hpe : (pathSpot (bs A2)).1 = 0 := by unfold isP at pa; simpa using pa
          have cP := fun W => path_any A2 W (by have := HS.out.1; unfold maxLen; omega)
          simp only [spotV] at cP
          rw [hpe] at cP
          generalize (pathSpot (bs A2)).2 = p2 at *
          have hfd := fun W => field0 (.int .i64 (0 : Int)) (.int .i64 (p2 : Int)) W
          have hrul : rulR F (bs A2) = (ruleT (tabL F) (bs A2), decide (ruleT (tabL F) (bs A2) ≠ noR)) := by unfold rulR; rw [if_pos pa]
          rw [hrul] at cR
          have hkd := thr_kind hF hKn pa
          have hrp := ruleT_ok hF (bs A2)
          generalize hRR : ruleT (tabL F) (bs A2) = R at *
          clear hRR
          obtain ⟨rk, rf, rt⟩ := R
          rcases hkd with ⟨h1, h2⟩ | ⟨h1, h2⟩ | ⟨h1, h2⟩ | ⟨h1, h2, h3⟩
          · cases h1
            have he : thr (bs A2) (imgL F (bs A2)) = ([], 4) := h2
            rw [he]
            rw [show decide (((0, [], []) : Ru) ≠ noR) = false from by simp [noR]] at cR
            clear h2 he hrul
            simp only [ruV] at cR
            generalize mk [] = f2 at *
            go_wp2_with fail
            refine (cR _ H9.out.2).mono ?_
            rintro e w10 ⟨rfl, hB10⟩
            have H10 : Hid (Below w.heap.size w (w10.alloc (.cells #[.int .i64 0, .string f2, .string f2] 35)) ∧ BoxR (w10.alloc (.cells #[.int .i64 0, .string f2, .string f2] 35)) w10.heap.size 0 f2 f2) := by
              have h0 := H9.out.1.trans (hB10.mono H9.out.1.size)
              exact ⟨h0.alloc h0.size _, BoxR.new w10 0 f2 f2⟩
            clear hB10 H9 cR cI cS
            go_wp2_with fail
            refine (cP _).mono ?_
            clear cP
            generalize w10.alloc (.cells #[.int .i64 0, .string f2, .string f2] 35) = w11 at *
            generalize w10.heap.size = br at *
            rintro e w12 ⟨rfl, hB12⟩
            have H12 : Hid (Below w.heap.size w w12 ∧ BoxR w12 br 0 f2 f2) := ⟨H10.out.1.trans (hB12.mono H10.out.1.size), H10.out.2.below hB12 H10.out.2.lt⟩
            clear hB12 H10
            obtain ⟨d0, d1, d2⟩ := H12.out.2.cell
            go_wp2_with (go_at_call 6; refine (wakes14_any _).mono ?_; rintro e w13 ⟨rfl, hB13⟩; have H13 : Hid (Below w.heap.size w w13) := H12.out.1.trans (hB13.mono H12.out.1.size); clear hB13)
            go_ret
            exact ⟨rfl, H13.out⟩
          · exact absurd (by rw [h2]) hea
          · simp only at h1
            subst h1
            rw [h2]
            rw [show decide (((2, rf, rt) : Ru) ≠ noR) = true from by simp [noR]] at cR
            clear h2 hrul
            simp only [ruV] at cR
            generalize mk rf = f2 at *
            generalize mk rt = t2 at *
            go_wp2_with fail
            refine (cR _ H9.out.2).mono ?_
            rintro e w10 ⟨rfl, hB10⟩
            have H10 : Hid (Below w.heap.size w (w10.alloc (.cells #[.int .i64 2, .string f2, .string t2] 35)) ∧ BoxR (w10.alloc (.cells #[.int .i64 2, .string f2, .string t2] 35)) w10.heap.size 2 f2 t2) := by
              have h0 := H9.out.1.trans (hB10.mono H9.out.1.size)
              exact ⟨h0.alloc h0.size _, BoxR.new w10 2 f2 t2⟩
            clear hB10 H9 cR cI cS
            go_wp2_with fail
            refine (cP _).mono ?_
            clear cP
            generalize w10.alloc (.cells #[.int .i64 2, .string f2, .string t2] 35) = w11 at *
            generalize w10.heap.size = br at *
            rintro e w12 ⟨rfl, hB12⟩
            have H12 : Hid (Below w.heap.size w w12 ∧ BoxR w12 br 2 f2 t2) := ⟨H10.out.1.trans (hB12.mono H10.out.1.size), H10.out.2.below hB12 H10.out.2.lt⟩
            clear hB12 H10
            obtain ⟨d0, d1, d2⟩ := H12.out.2.cell
            go_wp2_with (go_at_call 6; refine (wakes14_any _).mono ?_; rintro e w13 ⟨rfl, hB13⟩; have H13 : Hid (Below w.heap.size w w13) := H12.out.1.trans (hB13.mono H12.out.1.size); clear hB13)
            go_ret
            exact ⟨rfl, H13.out⟩
          · simp only at h1
            subst h1
            rw [show decide (((3, rf, rt) : Ru) ≠ noR) = true from by simp [noR]] at cR
            have h23 : (thr (bs A2) (imgL F (bs A2))).2 = 3 := h2.resolve_left hea
            have cM := fun W => Move_any A2 (mk rf) (mk rt) W (by have := HS.out.1; omega) (by rw [← bs_len, bs_mk]; have := isP_len hrp.1; simp only at this; omega) (by rw [← bs_len, bs_mk]; have := isP_len hrp.2; simp only at this; omega)
            simp only [bs_mk] at cM
            simp only at h3
            rw [h3.1, h3.2] at cM
            rw [h23] at cM
            rw [h23]
            generalize (thr (bs A2) (imgL F (bs A2))).1 = x at *
            clear h2 h3 hrul h23
            simp only [ruV] at cR
            generalize mk rf = f2 at *
            generalize mk rt = t2 at *
            go_wp2_with fail
            refine (cR _ H9.out.2).mono ?_
            rintro e w10 ⟨rfl, hB10⟩
            have H10 : Hid (Below w.heap.size w (w10.alloc (.cells #[.int .i64 3, .string f2, .string t2] 35)) ∧ BoxR (w10.alloc (.cells #[.int .i64 3, .string f2, .string t2] 35)) w10.heap.size 3 f2 t2) := by
              have h0 := H9.out.1.trans (hB10.mono H9.out.1.size)
              exact ⟨h0.alloc h0.size _, BoxR.new w10 3 f2 t2⟩
            clear hB10 H9 cR cI cS
            go_wp2_with fail
            refine (cP _).mono ?_
            clear cP
            generalize w10.alloc (.cells #[.int .i64 3, .string f2, .string t2] 35) = w11 at *
            generalize w10.heap.size = br at *
            rintro e w12 ⟨rfl, hB12⟩
            have H12 : Hid (Below w.heap.size w w12 ∧ BoxR w12 br 3 f2 t2) := ⟨H10.out.1.trans (hB12.mono H10.out.1.size), H10.out.2.below hB12 H10.out.2.lt⟩
            clear hB12 H10
            obtain ⟨d0, d1, d2⟩ := H12.out.2.cell
            go_wp2_with fail
            refine (cM _).mono ?_
            clear cM d0 d1 d2
            rintro e w14 ⟨rfl, hB14⟩
            replace H12 : Hid (Below w.heap.size w w14 ∧ BoxR w14 br 3 f2 t2) := ⟨H12.out.1.trans (hB14.mono H12.out.1.size), H12.out.2.below hB14 H12.out.2.lt⟩
            clear hB14
            go_wp2_with (go_at_call 6; refine (wakes14_any _).mono ?_; rintro e w13 ⟨rfl, hB13⟩; have H13 : Hid (Below w.heap.size w w13) := H12.out.1.trans (hB13.mono H12.out.1.size); clear hB13)
            go_ret
            exact ⟨rfl, H13.out⟩
      · obtain ⟨s, hs⟩ : ∃ s, s = (thr (bs B2) (srcL F (bs B2))).1 := ⟨_, rfl⟩
        obtain ⟨no, hn⟩ : ∃ no, no = (thr (bs B2) (srcL F (bs B2))).2 := ⟨_, rfl⟩
        rw [← hs, ← hn]
        rw [← hn] at hno
        clear hs hn t2
        obtain ⟨y, hy⟩ : ∃ y, y = (thr (bs B2) (imgL F (bs B2))).1 := ⟨_, rfl⟩
        obtain ⟨eb, he⟩ : ∃ eb, eb = (thr (bs B2) (imgL F (bs B2))).2 := ⟨_, rfl⟩
        rw [← hy, ← he]
        clear hy he t3
        cases pa : isP (bs A2) with
        | false =>
          have hpe : (pathSpot (bs A2)).1 ≠ 0 := isP_spot pa
          have cP := fun W => path_any A2 W (by have := HS.out.1; unfold maxLen; omega)
          simp only [spotV] at cP
          have hrul : rulR F (bs A2) = (noR, false) := by unfold rulR; rw [if_neg (by rw [pa]; decide)]
          rw [hrul] at cR
          have he : thr (bs A2) (imgL F (bs A2)) = ([], ((pathSpot (bs A2)).1 : Int)) := by unfold thr; rw [if_pos pa]
          rw [he]
          clear he hrul
          generalize (pathSpot (bs A2)).1 = p1 at *
          generalize (pathSpot (bs A2)).2 = p2 at *
          have hpi : ¬ (p1 : Int) = 0 := by omega
          have hfd := fun W => field0 (.int .i64 (p1 : Int)) (.int .i64 (p2 : Int)) W
          skip
          simp only [ruV, noR] at cR
          generalize mk [] = f2 at *
          go_wp2_with fail
          refine (cR _ H8.out.2).mono ?_
          rintro e w10 ⟨rfl, hB10⟩
          have H10 : Hid (Below w.heap.size w (w10.alloc (.cells #[.int .i64 0, .string f2, .string f2] 35)) ∧ BoxR (w10.alloc (.cells #[.int .i64 0, .string f2, .string f2] 35)) w10.heap.size 0 f2 f2) := by
            have h0 := H8.out.1.trans (hB10.mono H8.out.1.size)
            exact ⟨h0.alloc h0.size _, BoxR.new w10 0 f2 f2⟩
          clear hB10 H8 cR cI cS
          go_wp2_with fail
          refine (cP _).mono ?_
          clear cP
          generalize w10.alloc (.cells #[.int .i64 0, .string f2, .string f2] 35) = w11 at *
          generalize w10.heap.size = br at *
          rintro e w12 ⟨rfl, hB12⟩
          have H12 : Hid (Below w.heap.size w w12 ∧ BoxR w12 br 0 f2 f2) := ⟨H10.out.1.trans (hB12.mono H10.out.1.size), H10.out.2.below hB12 H10.out.2.lt⟩
          clear hB12 H10
          obtain ⟨d0, d1, d2⟩ := H12.out.2.cell
          go_wp2_with (go_at_call 6; refine (wakes14_any _).mono ?_; rintro e w13 ⟨rfl, hB13⟩; have H13 : Hid (Below w.heap.size w w13) := H12.out.1.trans (hB13.mono H12.out.1.size); clear hB13)
          go_ret
          exact ⟨rfl, H13.out⟩
        | true =>
          have hpe : (pathSpot (bs A2)).1 = 0 := by unfold isP at pa; simpa using pa
          have cP := fun W => path_any A2 W (by have := HS.out.1; unfold maxLen; omega)
          simp only [spotV] at cP
          rw [hpe] at cP
          generalize (pathSpot (bs A2)).2 = p2 at *
          have hfd := fun W => field0 (.int .i64 (0 : Int)) (.int .i64 (p2 : Int)) W
          have hrul : rulR F (bs A2) = (ruleT (tabL F) (bs A2), decide (ruleT (tabL F) (bs A2) ≠ noR)) := by unfold rulR; rw [if_pos pa]
          rw [hrul] at cR
          have hkd := thr_kind hF hKn pa
          have hrp := ruleT_ok hF (bs A2)
          generalize hRR : ruleT (tabL F) (bs A2) = R at *
          clear hRR
          obtain ⟨rk, rf, rt⟩ := R
          rcases hkd with ⟨h1, h2⟩ | ⟨h1, h2⟩ | ⟨h1, h2⟩ | ⟨h1, h2, h3⟩
          · cases h1
            have he : thr (bs A2) (imgL F (bs A2)) = ([], 4) := h2
            rw [he]
            rw [show decide (((0, [], []) : Ru) ≠ noR) = false from by simp [noR]] at cR
            clear h2 he hrul
            simp only [ruV] at cR
            generalize mk [] = f2 at *
            go_wp2_with fail
            refine (cR _ H8.out.2).mono ?_
            rintro e w10 ⟨rfl, hB10⟩
            have H10 : Hid (Below w.heap.size w (w10.alloc (.cells #[.int .i64 0, .string f2, .string f2] 35)) ∧ BoxR (w10.alloc (.cells #[.int .i64 0, .string f2, .string f2] 35)) w10.heap.size 0 f2 f2) := by
              have h0 := H8.out.1.trans (hB10.mono H8.out.1.size)
              exact ⟨h0.alloc h0.size _, BoxR.new w10 0 f2 f2⟩
            clear hB10 H8 cR cI cS
            go_wp2_with fail
            refine (cP _).mono ?_
            clear cP
            generalize w10.alloc (.cells #[.int .i64 0, .string f2, .string f2] 35) = w11 at *
            generalize w10.heap.size = br at *
            rintro e w12 ⟨rfl, hB12⟩
            have H12 : Hid (Below w.heap.size w w12 ∧ BoxR w12 br 0 f2 f2) := ⟨H10.out.1.trans (hB12.mono H10.out.1.size), H10.out.2.below hB12 H10.out.2.lt⟩
            clear hB12 H10
            obtain ⟨d0, d1, d2⟩ := H12.out.2.cell
            go_wp2_with (go_at_call 6; refine (wakes14_any _).mono ?_; rintro e w13 ⟨rfl, hB13⟩; have H13 : Hid (Below w.heap.size w w13) := H12.out.1.trans (hB13.mono H12.out.1.size); clear hB13)
            go_ret
            exact ⟨rfl, H13.out⟩
          · exact absurd (by rw [h2]) hea
          · simp only at h1
            subst h1
            rw [h2]
            rw [show decide (((2, rf, rt) : Ru) ≠ noR) = true from by simp [noR]] at cR
            clear h2 hrul
            simp only [ruV] at cR
            generalize mk rf = f2 at *
            generalize mk rt = t2 at *
            go_wp2_with fail
            refine (cR _ H8.out.2).mono ?_
            rintro e w10 ⟨rfl, hB10⟩
            have H10 : Hid (Below w.heap.size w (w10.alloc (.cells #[.int .i64 2, .string f2, .string t2] 35)) ∧ BoxR (w10.alloc (.cells #[.int .i64 2, .string f2, .string t2] 35)) w10.heap.size 2 f2 t2) := by
              have h0 := H8.out.1.trans (hB10.mono H8.out.1.size)
              exact ⟨h0.alloc h0.size _, BoxR.new w10 2 f2 t2⟩
            clear hB10 H8 cR cI cS
            go_wp2_with fail
            refine (cP _).mono ?_
            clear cP
            generalize w10.alloc (.cells #[.int .i64 2, .string f2, .string t2] 35) = w11 at *
            generalize w10.heap.size = br at *
            rintro e w12 ⟨rfl, hB12⟩
            have H12 : Hid (Below w.heap.size w w12 ∧ BoxR w12 br 2 f2 t2) := ⟨H10.out.1.trans (hB12.mono H10.out.1.size), H10.out.2.below hB12 H10.out.2.lt⟩
            clear hB12 H10
            obtain ⟨d0, d1, d2⟩ := H12.out.2.cell
            go_wp2_with (go_at_call 6; refine (wakes14_any _).mono ?_; rintro e w13 ⟨rfl, hB13⟩; have H13 : Hid (Below w.heap.size w w13) := H12.out.1.trans (hB13.mono H12.out.1.size); clear hB13)
            go_ret
            exact ⟨rfl, H13.out⟩
          · simp only at h1
            subst h1
            rw [show decide (((3, rf, rt) : Ru) ≠ noR) = true from by simp [noR]] at cR
            have h23 : (thr (bs A2) (imgL F (bs A2))).2 = 3 := h2.resolve_left hea
            have cM := fun W => Move_any A2 (mk rf) (mk rt) W (by have := HS.out.1; omega) (by rw [← bs_len, bs_mk]; have := isP_len hrp.1; simp only at this; omega) (by rw [← bs_len, bs_mk]; have := isP_len hrp.2; simp only at this; omega)
            simp only [bs_mk] at cM
            simp only at h3
            rw [h3.1, h3.2] at cM
            rw [h23] at cM
            rw [h23]
            generalize (thr (bs A2) (imgL F (bs A2))).1 = x at *
            clear h2 h3 hrul h23
            simp only [ruV] at cR
            generalize mk rf = f2 at *
            generalize mk rt = t2 at *
            go_wp2_with fail
            refine (cR _ H8.out.2).mono ?_
            rintro e w10 ⟨rfl, hB10⟩
            have H10 : Hid (Below w.heap.size w (w10.alloc (.cells #[.int .i64 3, .string f2, .string t2] 35)) ∧ BoxR (w10.alloc (.cells #[.int .i64 3, .string f2, .string t2] 35)) w10.heap.size 3 f2 t2) := by
              have h0 := H8.out.1.trans (hB10.mono H8.out.1.size)
              exact ⟨h0.alloc h0.size _, BoxR.new w10 3 f2 t2⟩
            clear hB10 H8 cR cI cS
            go_wp2_with fail
            refine (cP _).mono ?_
            clear cP
            generalize w10.alloc (.cells #[.int .i64 3, .string f2, .string t2] 35) = w11 at *
            generalize w10.heap.size = br at *
            rintro e w12 ⟨rfl, hB12⟩
            have H12 : Hid (Below w.heap.size w w12 ∧ BoxR w12 br 3 f2 t2) := ⟨H10.out.1.trans (hB12.mono H10.out.1.size), H10.out.2.below hB12 H10.out.2.lt⟩
            clear hB12 H10
            obtain ⟨d0, d1, d2⟩ := H12.out.2.cell
            go_wp2_with fail
            refine (cM _).mono ?_
            clear cM d0 d1 d2
            rintro e w14 ⟨rfl, hB14⟩
            replace H12 : Hid (Below w.heap.size w w14 ∧ BoxR w14 br 3 f2 t2) := ⟨H12.out.1.trans (hB14.mono H12.out.1.size), H12.out.2.below hB14 H12.out.2.lt⟩
            clear hB14
            go_wp2_with (go_at_call 6; refine (wakes14_any _).mono ?_; rintro e w13 ⟨rfl, hB13⟩; have H13 : Hid (Below w.heap.size w w13) := H12.out.1.trans (hB13.mono H12.out.1.size); clear hB13)
            go_ret
            exact ⟨rfl, H13.out⟩
end Go.Proofs.Ytiaelcckdodfjaa
