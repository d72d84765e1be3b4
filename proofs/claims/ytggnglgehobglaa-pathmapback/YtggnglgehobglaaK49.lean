import Derived.Test.YtggnglgehobglaaK38
import Derived.Test.YtggnglgehobglaaK42
import Derived.Test.YtggnglgehobglaaK43
import Derived.Test.YtggnglgehobglaaK48
/- The walk of PathmapBack. -/
namespace Go.Proofs.Ytggnglgehobglaa
open Go.RowKit Go.Shelf Go.Maps

attribute [local go_sem] Oper.semAt_some

/-- images by what leads back, as the exported functions tell them -/
theorem back_thr {F : List Ru} (hF : FOk F) (hU : FormU F) {ks : List (List UInt8)} (hK : KeyL (tabL (bkL F)) ks) (l : List UInt8) : thr l (imgL (formT (tabL (bkL F)) ks) l) = thr l (srcL F l) := by
  by_cases h : isP l = true
  · rw [bk_image hF hU hK h]
  · have h' : isP l = false := by simpa using h
    unfold thr
    rw [if_pos h', if_pos h']
set_option maxRecDepth 100000 in
set_option maxHeartbeats 8000000 in
theorem pathmapBack_walk (w : World) (a : Option Addr) (n c : Nat) (rs : List Ru) (A : ByteArray) (hl : Rus w a n rs) (hnb : n ≤ 100000000000000000) (hz : ∀ r ∈ rs, r.2.1.length ≤ maxLen ∧ r.2.2.length ≤ maxLen) :
    Calls Try.prog 3 #[.slice a n c, .string A] w fun e w' => e = .returned (.bool true) ∧ Below w.heap.size w w' := by
  have HL : Hid (Rus w a n rs ∧ n ≤ 100000000000000000 ∧ ∀ r ∈ rs, r.2.1.length ≤ maxLen ∧ r.2.2.length ≤ maxLen) := ⟨hl, hnb, hz⟩
  have hmx : Try.prog.follows .mixedOrders = true := by kernel_rfl
  clear hl hnb hz
  obtain ⟨am, ham⟩ : ∃ m, m = min A.size 300 := ⟨_, rfl⟩
  have m1 : min (A.size : Int) 300 = (am : Int) := by omega
  have m2 : (if (A.size : Int) ≤ 300 then (A.size : Int) else 300) = (am : Int) := by split <;> omega
  have m3 : (if (300 : Int) < (A.size : Int) then 300 else (A.size : Int)) = (am : Int) := by split <;> omega
  have m4 : (if (A.size : Int) < 300 then (A.size : Int) else 300) = (am : Int) := by split <;> omega
  have m5 : (am : Int) ≤ (A.size : Int) := by omega
  have m6 : am ≤ A.size := by omega
  have HS : Hid ((A.extract 0 am).size ≤ 300) := by
    show _ ≤ _
    rw [← bs_len, bs_cut A am ham, List.length_take]
    omega
  clear ham
  go_enter Try.func3, Try.ntmps3
  go_wp2_with fail
  refine (wakes14_any _).mono ?_
  rintro e w1 ⟨rfl, hB1⟩
  have H1 : Hid (Below w.heap.size w w1) := hB1
  clear hB1
  go_wp2_with fail
  generalize A.extract 0 am = A2 at *
  clear m1 m2 m3 m4 m5 m6
  have hct := fun W hW => cut14_any W a n c rs (HL.out.1.kept hW) HL.out.2.1 HL.out.2.2
  refine (hct _ H1.out).mono ?_
  rintro e w2 ⟨ad, c', rfl, hrow, hB2⟩
  have H2 : Hid (Below w.heap.size w w2) := H1.out.trans (hB2.mono H1.out.size)
  obtain ⟨ad', c2, e', hnc', hnil'⟩ := row_shapeR hrow
  cases e'
  have hcl : (cutR rs).length ≤ 66 := by
    unfold cutR
    rw [List.length_map, List.length_take]
    omega
  have hnw := new_any w2 ad (cutR rs).length c' (cutR rs) (own_rus hrow rfl) hnc' (by omega) (fun r hr => by
    unfold cutR at hr
    obtain ⟨q, _, rfl⟩ := List.mem_map.1 hr
    simp only [c300, List.length_take]
    omega)
  generalize cutR rs = cs at *
  generalize hN0 : cs.length = N at *
  have HN0 : Hid (cs.length = N) := hN0
  clear hN0 hct hrow hB2 hnc' hnil' hcl H1 HL
  go_wp2_with fail
  refine hnw.mono ?_
  clear hnw
  rintro e w3 ⟨hN, hB3⟩
  have H3 : Hid (Below w.heap.size w w3) := H2.out.trans (hB3.mono H2.out.size)
  clear hB3 H2
  have hN' : (∃ E X : Int, E ≠ 0 ∧ e = .returned (.tuple #[.pointer none, .agg #[.int .i64 E, .int .i64 X]])) ∨ ∃ m F, e = .returned (.tuple #[.pointer (some ⟨m, 0, none⟩), .agg #[.int .i64 0, .int .i64 0]]) ∧ MpAt w3 m F ∧ FormU F := by
    rcases hN with ⟨_, he⟩ | ⟨_, k, r, _, hb, _, he⟩ | ⟨_, hG, m, ks, he, hM, hK⟩
    · exact .inl ⟨3, -1, by decide, he⟩
    · exact .inl ⟨_, _, hb, he⟩
    · exact .inr ⟨m, _, he, hM, new_formU HN0.out hG hK⟩
  clear hN
  rcases hN' with ⟨E, X, hE, rfl⟩ | ⟨m, F, rfl, hM, hU⟩
  · have H4 : Hid (Below w.heap.size w (w3.alloc (.cells #[.int .i64 E, .int .i64 X] 27)) ∧ BoxF (w3.alloc (.cells #[.int .i64 E, .int .i64 X] 27)) w3.heap.size E X) := ⟨H3.out.alloc H3.out.size _, BoxF.new w3 E X⟩
    obtain ⟨c0, c1⟩ := H4.out.2.cell
    go_wp2_with (go_at_call 5; refine (wakes14_any _).mono ?_; rintro e w5 ⟨rfl, hB5⟩; have H5 : Hid (Below w.heap.size w w5) := H4.out.1.trans (hB5.mono H4.out.1.size); clear hB5)
    go_ret
    exact ⟨rfl, H5.out⟩
  · have hF := hM.ok
    have H4 : Hid (Below w.heap.size w (w3.alloc (.cells #[.int .i64 0, .int .i64 0] 27)) ∧ BoxF (w3.alloc (.cells #[.int .i64 0, .int .i64 0] 27)) w3.heap.size 0 0 ∧ MpAt (w3.alloc (.cells #[.int .i64 0, .int .i64 0] 27)) m F) := ⟨H3.out.alloc H3.out.size _, BoxF.new w3 0 0, hM.below ((Below.refl _ w3).alloc (Nat.le_refl _) _)⟩
    obtain ⟨c0, c1⟩ := H4.out.2.1.cell
    have cV := inverse_any _ m F H4.out.2.2 hU
    have HU : Hid (FormU F ∧ FOk F) := ⟨hU, hF⟩
    clear hM hU hF H3
    go_wp2_with fail
    refine cV.mono ?_
    clear cV c0 c1
    generalize w3.alloc (.cells #[.int .i64 0, .int .i64 0] 27) = w4 at *
    rintro e w5 ⟨v, kb, rfl, hMv, hKb, hB5⟩
    obtain ⟨hUv, hFv⟩ := bk_formU HU.out.2 HU.out.1 hKb
    have hbt := back_thr HU.out.2 HU.out.1 hKb (bs A2)
    have hall := fun h => bk_all hKb h
    have htw := fun kt hT h => bk_twice (kt := kt) HU.out.2 HU.out.1 hKb hT (hall h)
    have H5 : Hid (Below w.heap.size w w5 ∧ MpAt w5 m F ∧ Below w4.heap.size w4 w5) := ⟨H4.out.1.trans (hB5.mono H4.out.1.size), H4.out.2.2.below hB5, hB5⟩
    have HT : Hid (∀ kt, KeyL (tabL (bkL (formT (tabL (bkL F)) kb))) kt → (formT (tabL (bkL F)) kb).length = F.length → formT (tabL (bkL (formT (tabL (bkL F)) kb))) kt = F) := fun kt hT h => htw kt hT h
    clear hKb hB5 htw hall
    generalize formT (tabL (bkL F)) kb = G at *
    have HV : Hid (FormU G ∧ MpAt w5 v G) := ⟨hUv, hMv⟩
    have cI := Iimage_any w5 v G A2 hMv (by have := HS.out; unfold maxLen; omega)
    have cS := fun W hW => Isource_any W m F A2 (H5.out.2.1.below hW) (by have := HS.out; unfold maxLen; omega)
    rw [hbt] at cI
    clear hUv hFv hMv hbt
    generalize thr (bs A2) (srcL F (bs A2)) = TT at *
    go_wp2_with fail
    refine cI.mono ?_
    clear cI
    rintro e w6 ⟨rfl, hB6⟩
    have H6 : Hid (Below w.heap.size w w6 ∧ Below w5.heap.size w5 w6) := ⟨H5.out.1.trans (hB6.mono H5.out.1.size), hB6⟩
    clear hB6
    go_wp2_with fail
    refine (cS _ H6.out.2).mono ?_
    clear cS
    rintro e w7 ⟨rfl, hB7⟩
    have H7 : Hid (Below w.heap.size w w7 ∧ Below w5.heap.size w5 w7) := ⟨H6.out.1.trans (hB7.mono H6.out.1.size), H6.out.2.trans (hB7.mono H6.out.2.size)⟩
    clear hB7 H6
    obtain ⟨tx, te⟩ := TT
    simp only
    have cW := inverse_any w7 v G (HV.out.2.below H7.out.2) HV.out.1
    go_wp2_with fail
    refine cW.mono ?_
    clear cW
    rintro e w8 ⟨u, kt, rfl, hMu, hKt, hB8⟩
    have htw := HT.out kt hKt
    generalize formT (tabL (bkL G)) kt = D at *
    have H8 : Hid (Below w.heap.size w w8 ∧ MpAt w8 m F ∧ MpAt w8 v G ∧ MpAt w8 u D ∧ (G.length = F.length → D = F)) := ⟨H7.out.1.trans (hB8.mono H7.out.1.size), (H5.out.2.1.below H7.out.2).below hB8, (HV.out.2.below H7.out.2).below hB8, hMu, htw⟩
    clear hMu hKt hB8 htw HT HV H7 H5 HU H4 HN0 HS
    have cRv := fun W hW => rules_any W v G (H8.out.2.2.1.below hW)
    have cRm := fun W hW => rules_any W m F (H8.out.2.1.below hW)
    have cRu := fun W hW => rules_any W u D (H8.out.2.2.2.1.below hW)
    have cSm := fun W hW => same14_any W u m D F (H8.out.2.2.2.1.below hW) (H8.out.2.1.below hW)
    have HZ : Hid (G.length = F.length → D = F) := H8.out.2.2.2.2
    generalize hgl : G.length = gl at *
    generalize hfl : F.length = fl at *
    generalize hdl : D.length = dl at *
    clear hgl hfl hdl
    go_wp2_with fail
    refine (cRv _ (Below.refl _ _)).mono ?_
    rintro e w9 ⟨a9, c9, rfl, _, _, _, hB9⟩
    have H9 : Hid (Below w8.heap.size w8 w9) := hB9
    clear hB9
    go_wp2_with fail
    refine (cRm _ H9.out).mono ?_
    clear cRm
    rintro e w10 ⟨a10, c10, rfl, _, _, _, hB10⟩
    have H10 : Hid (Below w8.heap.size w8 w10) := H9.out.trans (hB10.mono H9.out.size)
    clear hB10 H9
    by_cases h1 : gl = fl
    · have i1 : (gl : Int) = (fl : Int) := by omega
      have hDF := HZ.out h1
      rw [decide_eq_true hDF] at cSm
      subst h1
      clear i1 HZ hDF
      go_wp2_with fail
      refine (cRu _ H10.out).mono ?_
      clear cRu
      rintro e w11 ⟨a11, c11, rfl, _, _, _, hB11⟩
      have H11 : Hid (Below w8.heap.size w8 w11) := H10.out.trans (hB11.mono H10.out.size)
      clear hB11 H10
      go_wp2_with fail
      refine (cRv _ H11.out).mono ?_
      clear cRv
      rintro e w12 ⟨a12, c12, rfl, _, _, _, hB12⟩
      have H12 : Hid (Below w8.heap.size w8 w12) := H11.out.trans (hB12.mono H11.out.size)
      clear hB12 H11
      by_cases h2 : dl = gl
      · subst h2
        go_wp2_with fail
        refine (cSm _ H12.out).mono ?_
        clear cSm
        rintro e w13 ⟨rfl, hB13⟩
        have H13 : Hid (Below w8.heap.size w8 w13) := H12.out.trans (hB13.mono H12.out.size)
        clear hB13 H12
        go_wp2_with fail
        refine (wakes14_any _).mono ?_
        rintro e w14 ⟨rfl, hB14⟩
        have H14 : Hid (Below w.heap.size w w14) := (H8.out.1.trans (H13.out.mono H8.out.1.size)).trans (hB14.mono (Nat.le_trans H8.out.1.size H13.out.size))
        clear hB14
        go_wp2
        go_ret
        exact ⟨rfl, H14.out⟩
      · have i2 : ¬ (dl : Int) = (gl : Int) := by omega
        clear cSm
        go_wp2_with fail
        refine (wakes14_any _).mono ?_
        rintro e w14 ⟨rfl, hB14⟩
        have H14 : Hid (Below w.heap.size w w14) := (H8.out.1.trans (H12.out.mono H8.out.1.size)).trans (hB14.mono (Nat.le_trans H8.out.1.size H12.out.size))
        clear hB14
        go_wp2
        go_ret
        exact ⟨rfl, H14.out⟩
    · have i1 : ¬ (gl : Int) = (fl : Int) := by omega
      clear cSm cRu cRv HZ
      go_wp2_with fail
      refine (wakes14_any _).mono ?_
      rintro e w14 ⟨rfl, hB14⟩
      have H14 : Hid (Below w.heap.size w w14) := (H8.out.1.trans (H10.out.mono H8.out.1.size)).trans (hB14.mono (Nat.le_trans H8.out.1.size H10.out.size))
      clear hB14
      go_wp2
      go_ret
      exact ⟨rfl, H14.out⟩
end Go.Proofs.Ytggnglgehobglaa
