import Derived.Test.YtggnglgehobglaaGreatDoorP35
import Derived.Test.YtggnglgehobglaaGreatDoorP41
import Derived.Test.YtggnglgehobglaaGreatDoorP42
import Derived.Test.YtggnglgehobglaaGreatDoorP49
/- The walk of PathmapForm. -/
namespace Go.Proofs.YtggnglgehobglaaGreatDoor
open Go.RowKit Go.Shelf Go.Maps

attribute [local go_sem] Oper.semAt_some

theorem new_b (w : World) (ad : Option Addr) (n c : Nat) (cs : List Ru) (hl : Rus w ad n cs) (hnc : n ≤ c) (hn : n ≤ 66) (hz : ∀ r ∈ cs, r.2.1.length ≤ 100000 ∧ r.2.2.length ≤ 100000) :
    Calls Tryz.prog 20 #[.slice ad n c] w fun e w' => ((∃ E X : Int, E ≠ 0 ∧ e = .returned (.tuple #[.pointer none, .agg #[.int .i64 E, .int .i64 X]])) ∨ ∃ m ks, e = .returned (.tuple #[.pointer (some ⟨m, 0, none⟩), .agg #[.int .i64 0, .int .i64 0]]) ∧ MpAt w' m (formT (tabL cs) ks) ∧ KeyL (tabL cs) ks ∧ Bes cs ∧ cs.length ≤ 64) ∧ Below w.heap.size w w' := by
  refine (new_any w ad n c cs hl hnc (by omega) hz).mono ?_
  rintro e w' ⟨hN, hB⟩
  refine ⟨?_, hB⟩
  have hlen := hl.1
  rcases hN with ⟨_, he⟩ | ⟨_, k, r, _, hb, _, he⟩ | ⟨h64, hG, m, ks, he, hM, hK⟩
  · exact .inl ⟨3, -1, by decide, he⟩
  · exact .inl ⟨_, _, hb, he⟩
  · exact .inr ⟨m, ks, he, hM, hK, bes_of (by rw [hlen]; exact hG), by omega⟩
/-- a Map and its one form -/
theorem form_facts {cs : List Ru} (hb : Bes cs) (h64 : cs.length ≤ 64) {ks : List (List UInt8)} (hK : KeyL (tabL cs) ks) : FormU (formT (tabL cs) ks) ∧ (formT (tabL cs) ks).length ≤ 64 := by
  refine ⟨new_formU rfl hb.good hK, ?_⟩
  have h1 := formT_len (tabL cs) ks
  have h2 := key_len hK
  omega
theorem text_back {F : List Ru} (hU : FormU F) (hF : FOk F) (hn : F.length ≤ 64) : readT (prT F) = .ok F ∧ prT F = textR F := by
  have ho := hU.okR hF
  have := (prE_ok (l := F) (by omega) (List.all_eq_true.2 ho)).2
  rw [this]
  exact ⟨readT_text F ho hn, rfl⟩

set_option maxRecDepth 100000 in
set_option maxHeartbeats 16000000 in
theorem pathmapForm_walk (a1 : Option Addr) (n1 c1 : Nat) (r1 : List Ru) (a2 : Option Addr) (n2 c2 : Nat) (r2 : List Ru) (w : World)
    (h1 : Rus w a1 n1 r1) (s1 : ∀ x ∈ r1, x.2.1.length ≤ maxLen ∧ x.2.2.length ≤ maxLen) (o1 : n1 * 40 ≤ 140737488351232) (_ : a1 = none → n1 = 0 ∧ c1 = 0)
    (h2 : Rus w a2 n2 r2) (s2 : ∀ x ∈ r2, x.2.1.length ≤ maxLen ∧ x.2.2.length ≤ maxLen) (o2 : n2 * 40 ≤ 140737488351232) (_ : a2 = none → n2 = 0 ∧ c2 = 0) (hT : Tabs w) :
    Calls Tryz.prog 4 #[.slice a1 n1 c1, .slice a2 n2 c2] w fun e w' => e = .returned (.bool true) ∧ Below w.heap.size w w' := by
  have hmx : Tryz.prog.follows .mixedOrders = true := by kernel_rfl
  have cA := fun W (hW : Below w.heap.size w W) => cut14_any W a1 n1 c1 r1 (h1.kept hW) (by omega) s1
  have cB := fun W (hW : Below w.heap.size w W) => cut14_any W a2 n2 c2 r2 (h2.kept hW) (by omega) s2
  have HTb : Hid (∀ W, Below w.heap.size w W → Tabs W) := fun W hW => hT.below hW
  clear h1 s1 o1 h2 s2 o2 hT
  go_enter Tryz.func4, Tryz.ntmps4
  go_wp2_with fail
  refine (wakes14_any _).mono ?_
  rintro e w0 ⟨rfl, hB⟩
  have H0 : Hid (Below w.heap.size w w0) := hB
  clear hB
  go_wp2_with fail
  refine (cA _ H0.out).mono ?_
  clear cA
  rintro e w1 ⟨ad, c', rfl, hrow, hB⟩
  obtain ⟨ad', c2', e', hnc', hnil'⟩ := row_shapeR hrow
  cases e'
  have hRu := own_rus hrow rfl
  have hcz := cut_small r1
  have H1 : Hid (Below w.heap.size w w1 ∧ Rus w1 ad (cutR r1).length (cutR r1)) := ⟨H0.out.trans (hB.mono H0.out.size), hRu⟩
  have cN := new_b w1 ad (cutR r1).length c' (cutR r1) hRu hnc' hcz.1 hcz.2
  clear hrow hB H0 hRu hnc' hnil'
  generalize cutR r1 = cs at *
  generalize hN : cs.length = N at *
  have HN : Hid (cs.length = N ∧ N ≤ 66) := ⟨hN, hcz.1⟩
  clear hN hcz
  go_wp2_with fail
  refine cN.mono ?_
  clear cN
  rintro e w2 ⟨hNw, hB⟩
  have H2 : Hid (Below w.heap.size w w2 ∧ Rus w2 ad N cs) := ⟨H1.out.1.trans (hB.mono H1.out.1.size), H1.out.2.kept hB⟩
  clear hB H1
  rcases hNw with ⟨E, X, hE, rfl⟩ | ⟨m, ks, rfl, hM, hK, hbs, h64⟩
  · have H4 : Hid (Below w.heap.size w (w2.alloc (.cells #[.int .i64 E, .int .i64 X] 45)) ∧ BoxF (w2.alloc (.cells #[.int .i64 E, .int .i64 X] 45)) w2.heap.size E X) := ⟨H2.out.1.alloc H2.out.1.size _, BoxF.new w2 E X⟩
    obtain ⟨c0, c1⟩ := H4.out.2.cell
    go_wp2_with (go_at_call 6; refine (wakes14_any _).mono ?_; rintro e w5 ⟨rfl, hB5⟩; have H5 : Hid (Below w.heap.size w w5) := H4.out.1.trans (hB5.mono H4.out.1.size); clear hB5)
    go_ret
    exact ⟨rfl, H5.out⟩
  have h64' : cs.length ≤ 64 := by rw [HN.out.1]; exact h64
  obtain ⟨hU, hFn⟩ := form_facts hbs h64' hK
  have hturn := fun kt hT' => form_turned hbs (kt := kt) hK hT'
  have HB : Hid (Bes cs ∧ cs.length ≤ 64) := ⟨hbs, h64'⟩
  generalize formT (tabL cs) ks = F at *
  have HTU : Hid (∀ kt, KeyL (tabL cs.reverse) kt → formT (tabL cs.reverse) kt = F) := hturn
  have HF : Hid (FormU F ∧ FOk F ∧ F.length ≤ 64) := ⟨hU, hM.ok, hFn⟩
  have H3 : Hid (Below w.heap.size w (w2.alloc (.cells #[.int .i64 0, .int .i64 0] 45)) ∧ BoxF (w2.alloc (.cells #[.int .i64 0, .int .i64 0] 45)) w2.heap.size 0 0 ∧ Rus (w2.alloc (.cells #[.int .i64 0, .int .i64 0] 45)) ad N cs ∧ MpAt (w2.alloc (.cells #[.int .i64 0, .int .i64 0] 45)) m F) := by
    have hA : Below w2.heap.size w2 (w2.alloc (.cells #[.int .i64 0, .int .i64 0] 45)) := (Below.refl _ w2).alloc (Nat.le_refl _) _
    exact ⟨H2.out.1.alloc H2.out.1.size _, BoxF.new w2 0 0, H2.out.2.kept hA, hM.below hA⟩
  obtain ⟨c0, c1⟩ := H3.out.2.1.cell
  have cR := rules_any _ m F H3.out.2.2.2
  clear hU hFn hturn hbs h64 h64' hK hM H2
  go_wp2_with fail
  refine cR.mono ?_
  clear cR c0 c1
  generalize w2.alloc (.cells #[.int .i64 0, .int .i64 0] 45) = w3 at *
  rintro e w4 ⟨ar, cr, rfl, hRr, hcr, hnr, hB⟩
  have H4 : Hid (Below w.heap.size w w4 ∧ Rus w4 ad N cs ∧ MpAt w4 m F) := ⟨H3.out.1.trans (hB.mono H3.out.1.size), H3.out.2.2.1.kept hB, H3.out.2.2.2.below hB⟩
  have cN := new_good w4 ar F.length cr F hRr hcr (HF.out.1.bes HF.out.2.1) HF.out.2.2
  clear hRr hcr hnr hB H3
  generalize hFL : F.length = FL at *
  have HFL : Hid (F.length = FL) := hFL
  clear hFL
  go_wp2_with fail
  refine cN.mono ?_
  clear cN
  rintro e w5 ⟨⟨n, kn, rfl, hMn, hKn⟩, hB⟩
  rw [form_again HF.out.1 HF.out.2.1 hKn] at hMn
  have H5 : Hid (Below w.heap.size w (w5.alloc (.cells #[.int .i64 0, .int .i64 0] 45)) ∧ BoxF (w5.alloc (.cells #[.int .i64 0, .int .i64 0] 45)) w5.heap.size 0 0 ∧ Rus (w5.alloc (.cells #[.int .i64 0, .int .i64 0] 45)) ad N cs ∧ MpAt (w5.alloc (.cells #[.int .i64 0, .int .i64 0] 45)) m F ∧ MpAt (w5.alloc (.cells #[.int .i64 0, .int .i64 0] 45)) n F) := by
    have hA : Below w5.heap.size w5 (w5.alloc (.cells #[.int .i64 0, .int .i64 0] 45)) := (Below.refl _ w5).alloc (Nat.le_refl _) _
    have hB2 : Below w.heap.size w w5 := H4.out.1.trans (hB.mono H4.out.1.size)
    exact ⟨hB2.alloc hB2.size _, BoxF.new w5 0 0, (H4.out.2.1.kept hB).kept hA, (H4.out.2.2.below hB).below hA, hMn.below hA⟩
  obtain ⟨c0, c1⟩ := H5.out.2.1.cell
  have cS := same14_any _ m n F F H5.out.2.2.2.1 H5.out.2.2.2.2
  rw [decide_eq_true rfl] at cS
  clear hMn hKn hB H4
  go_wp2_with fail
  refine cS.mono ?_
  clear cS c0 c1
  generalize w5.alloc (.cells #[.int .i64 0, .int .i64 0] 45) = w6 at *
  rintro e w7 ⟨rfl, hB⟩
  have H7 : Hid (Below w.heap.size w w7 ∧ Rus w7 ad N cs ∧ MpAt w7 m F ∧ MpAt w7 n F) := ⟨H5.out.1.trans (hB.mono H5.out.1.size), H5.out.2.2.1.kept hB, H5.out.2.2.2.1.below hB, H5.out.2.2.2.2.below hB⟩
  clear hB H5
  have cT := text_any w7 n F H7.out.2.2.2 (HTb.out _ H7.out.1)
  generalize hpt : mk (prT F) = PT at *
  have HPT : Hid (mk (prT F) = PT) := hpt
  clear hpt
  go_wp2_with fail
  refine cT.mono ?_
  clear cT
  rintro e w8 ⟨rfl, hB⟩
  have H8 : Hid (Below w.heap.size w w8 ∧ Rus w8 ad N cs ∧ MpAt w8 m F ∧ MpAt w8 n F) := ⟨H7.out.1.trans (hB.mono H7.out.1.size), H7.out.2.1.kept hB, H7.out.2.2.1.below hB, H7.out.2.2.2.below hB⟩
  clear hB H7
  have cT := fun W hW hM => text_any W m F hM (HTb.out W hW)
  rw [HPT.out] at cT
  go_wp2_with fail
  refine (cT _ H8.out.1 H8.out.2.2.1).mono ?_
  rintro e w9 ⟨rfl, hB⟩
  have H9 : Hid (Below w.heap.size w w9 ∧ Rus w9 ad N cs ∧ MpAt w9 m F ∧ MpAt w9 n F) := ⟨H8.out.1.trans (hB.mono H8.out.1.size), H8.out.2.1.kept hB, H8.out.2.2.1.below hB, H8.out.2.2.2.below hB⟩
  clear hB H8
  have cK1 := key_any w9 n F H9.out.2.2.2 (HTb.out _ H9.out.1)
  have cK2 := fun W hW hM => key_any W m F hM (HTb.out W hW)
  generalize keyF F = KF at *
  go_wp2_with fail
  refine cK1.mono ?_
  clear cK1
  rintro e w10 ⟨rfl, hB⟩
  have H10 : Hid (Below w.heap.size w w10 ∧ Rus w10 ad N cs ∧ MpAt w10 m F) := ⟨H9.out.1.trans (hB.mono H9.out.1.size), H9.out.2.1.kept hB, H9.out.2.2.1.below hB⟩
  clear hB H9
  go_wp2_with fail
  refine (cK2 _ H10.out.1 H10.out.2.2).mono ?_
  clear cK2
  rintro e w11 ⟨rfl, hB⟩
  have H11 : Hid (Below w.heap.size w w11 ∧ Rus w11 ad N cs ∧ MpAt w11 m F) := ⟨H10.out.1.trans (hB.mono H10.out.1.size), H10.out.2.1.kept hB, H10.out.2.2.below hB⟩
  clear hB H10
  go_wp2_with fail
  have hN66 := HN.out.2
  go_loopw [73, 9] (fun i f wr => ∃ (k c' : Nat) (at_ : Option Addr), k ≤ N ∧ i = .int .i64 (k : Int) ∧ f = .slice at_ k c' ∧ Hid (wr.ownsRow w11.heap.size 31 3 (.slice at_ k c') k (ruCells (cs.reverse.take k)) ∧ Below w11.heap.size w11 wr)) (fun i _ _ => N - (intOf i).toNat)
  case atStart => exact ⟨0, 0, none, Nat.zero_le _, rfl, rfl, ⟨rfl, .inl ⟨rfl, rfl⟩⟩, Below.refl _ _⟩
  case round =>
    obtain ⟨k, cc, at_, hk, rfl, rfl, H⟩ := hrel
    by_cases hlt : k < N
    · obtain ⟨j, hj⟩ : ∃ j, j = N - 1 - k := ⟨_, rfl⟩
      have hjN : j < N := by omega
      have hji : (N : Int) - 1 - (k : Int) = (j : Int) := by omega
      obtain ⟨r, hr⟩ : ∃ r, cs[j]? = some r := ⟨_, List.getElem?_eq_getElem (by rw [HN.out.1]; exact hjN)⟩
      obtain ⟨b1, o1, hae, hc1⟩ := (H11.out.2.1.kept H.out.2).2 (by omega)
      subst hae
      obtain ⟨q0, q1, q2⟩ := hc1 j r hr
      have HR : Hid (cs.reverse.take (k + 1) = cs.reverse.take k ++ [r]) := by
        show _ = _
        have hkr : k < cs.reverse.length := by rw [List.length_reverse, HN.out.1]; exact hlt
        rw [List.take_succ_eq_append_getElem hkr, List.getElem_reverse]
        congr 2
        have e : cs.length - 1 - k = j := by rw [HN.out.1, hj]
        rw [← Option.some.injEq, ← hr, ← List.getElem?_eq_getElem, e]
      obtain ⟨f, hf⟩ : ∃ f, f = mk r.2.1 := ⟨_, rfl⟩
      obtain ⟨t, ht⟩ : ∃ t, t = mk r.2.2 := ⟨_, rfl⟩
      rw [← hf] at q1
      rw [← ht] at q2
      have H6 : Hid ((wr.alloc (.cells #[.int .i64 r.1, .string f, .string t] 31)).ownsRow w11.heap.size 31 3 (.slice at_ k cc) k (ruCells (cs.reverse.take k)) ∧ Rus (wr.alloc (.cells #[.int .i64 r.1, .string f, .string t] 31)) (some ⟨wr.heap.size, 0, none⟩) 1 [r] ∧ Below w11.heap.size w11 (wr.alloc (.cells #[.int .i64 r.1, .string f, .string t] 31))) := by
        have hA : Below wr.heap.size wr (wr.alloc (.cells #[.int .i64 r.1, .string f, .string t] 31)) := (Below.refl _ wr).alloc (Nat.le_refl _) _
        refine ⟨rowB H.out.1 hA, ⟨rfl, fun _ => ⟨_, 0, rfl, fun i x hx => ?_⟩⟩, H.out.2.trans (hA.mono H.out.2.size)⟩
        obtain ⟨e1, e2, e3⟩ := (BoxR.new wr r.1 f t).cell
        match i, hx with
        | 0, hx => cases hx; exact ⟨e1, by rw [← hf]; exact e2, by rw [← ht]; exact e3⟩
      have i5 : (k : Int) < (N : Int) := by omega
      have i6 : ¬ N ≤ k := by omega
      have i7 : (j : Int) < (N : Int) := by omega
      have i8 : ¬ (j : Int) < 0 := by omega
      have i9 : (0 : Int) ≤ (j : Int) := by omega
      generalize r.1 = kk at *
      clear hc1 hr hf ht hj H
      go_wp2_with (at_builtin; refine wpList_appR rfl _ _ rfl w11.heap.size k 1 1 _ (cs.reverse.take k) [r] _ rfl rfl H6.out.1 H6.out.2.1 (fun h => by cases h) (by omega) H6.out.2.2.size ?_; intro ad' c'' w7 hc' hown hB7; have H7 : Hid (w7.ownsRow w11.heap.size 31 3 (.slice ad' (k + 1) c'') (k + 1) (ruCells (cs.reverse.take (k + 1))) ∧ Below w11.heap.size w11 w7) := ⟨by rw [HR.out]; exact hown, H6.out.2.2.trans hB7⟩; clear hown hB7 hc')
      go_roundw
      case rel => exact ⟨k + 1, c'', ad', by omega, by simp, rfl, H7.out⟩
      case measure => simp [intOf]; omega
    · obtain rfl : k = N := by omega
      have i5 : ¬ (k : Int) < (k : Int) := by omega
      have hown := H.out.1
      rw [List.take_of_length_le (by rw [List.length_reverse, HN.out.1]; exact Nat.le_refl _)] at hown
      obtain ⟨ad9, c9, e9, hnc9, hnil9⟩ := row_shapeR hown
      cases e9
      have cO := new_good wr at_ k cc cs.reverse (own_rus hown (by rw [List.length_reverse, HN.out.1])) hnc9 HB.out.1.rev (by rw [List.length_reverse]; exact HB.out.2)
      have H12 : Hid (Below w.heap.size w wr ∧ MpAt wr m F) := ⟨H11.out.1.trans (H.out.2.mono H11.out.1.size), H11.out.2.2.below H.out.2⟩
      clear hown hnc9 hnil9 H H11
      go_wp2_with fail
      refine cO.mono ?_
      clear cO
      rintro e w12 ⟨⟨o, ko, rfl, hMo, hKo⟩, hB⟩
      rw [HTU.out ko hKo] at hMo
      have H13 : Hid (Below w.heap.size w (w12.alloc (.cells #[.int .i64 0, .int .i64 0] 45)) ∧ BoxF (w12.alloc (.cells #[.int .i64 0, .int .i64 0] 45)) w12.heap.size 0 0 ∧ MpAt (w12.alloc (.cells #[.int .i64 0, .int .i64 0] 45)) m F ∧ MpAt (w12.alloc (.cells #[.int .i64 0, .int .i64 0] 45)) o F) := by
        have hA : Below w12.heap.size w12 (w12.alloc (.cells #[.int .i64 0, .int .i64 0] 45)) := (Below.refl _ w12).alloc (Nat.le_refl _) _
        have hB2 : Below w.heap.size w w12 := H12.out.1.trans (hB.mono H12.out.1.size)
        exact ⟨hB2.alloc hB2.size _, BoxF.new w12 0 0, (H12.out.2.below hB).below hA, hMo.below hA⟩
      obtain ⟨c0, c1⟩ := H13.out.2.1.cell
      have cS := same14_any _ o m F F H13.out.2.2.2 H13.out.2.2.1
      rw [decide_eq_true rfl] at cS
      clear hMo hKo hB H12 HTU HB HN
      go_wp2_with fail
      refine cS.mono ?_
      clear cS c0 c1
      generalize w12.alloc (.cells #[.int .i64 0, .int .i64 0] 45) = w13 at *
      rintro e w14 ⟨rfl, hB⟩
      have H14 : Hid (Below w.heap.size w w14 ∧ MpAt w14 m F) := ⟨H13.out.1.trans (hB.mono H13.out.1.size), H13.out.2.2.1.below hB⟩
      clear hB H13
      go_wp2_with fail
      refine (cT _ H14.out.1 H14.out.2).mono ?_
      rintro e w15 ⟨rfl, hB⟩
      have H15 : Hid (Below w.heap.size w w15 ∧ MpAt w15 m F) := ⟨H14.out.1.trans (hB.mono H14.out.1.size), H14.out.2.below hB⟩
      clear hB H14
      have hpl : PT.size ≤ maxLen := by
        rw [← HPT.out, ← bs_len, bs_mk]
        have := prT_len F
        unfold maxLen
        omega
      have cRd := uread_any PT w15 (HTb.out _ H15.out.1) hpl
      have hrt : readT (bs PT) = .ok F := by rw [← HPT.out, bs_mk]; exact (text_back HF.out.1 HF.out.2.1 (by rw [HFL.out]; exact HF.out.2.2)).1
      have HRT : Hid (readT (bs PT) = .ok F) := hrt
      clear hpl hrt
      go_wp2_with fail
      refine cRd.mono ?_
      clear cRd
      intro e w16 hRp
      obtain ⟨ar, cr, rfl, hRr, hcr, hnr, hB⟩ := read_ok HRT.out hRp
      clear hRp
      rw [HFL.out] at hRr hcr
      rw [HFL.out]
      have H16 : Hid (Below w.heap.size w (w16.alloc (.cells #[.int .i64 0, .int .i64 0] 48)) ∧ (w16.alloc (.cells #[.int .i64 0, .int .i64 0] 48)).heap[w16.heap.size]? = some (.cells #[.int .i64 0, .int .i64 0] 48 (0, 0)) ∧ MpAt (w16.alloc (.cells #[.int .i64 0, .int .i64 0] 48)) m F ∧ Rus (w16.alloc (.cells #[.int .i64 0, .int .i64 0] 48)) ar FL F) := by
        have hA : Below w16.heap.size w16 (w16.alloc (.cells #[.int .i64 0, .int .i64 0] 48)) := (Below.refl _ w16).alloc (Nat.le_refl _) _
        have hB2 : Below w.heap.size w w16 := H15.out.1.trans (hB.mono H15.out.1.size)
        exact ⟨hB2.alloc hB2.size _, World.alloc_heap_new w16 _, (H15.out.2.below hB).below hA, hRr.kept hA⟩
      have cP := new_good _ ar FL cr F H16.out.2.2.2 hcr (HF.out.1.bes HF.out.2.1) (by rw [HFL.out]; exact HF.out.2.2)
      clear hRr hcr hnr hB H15
      go_wp2_with fail
      refine cP.mono ?_
      clear cP
      generalize w16.alloc (.cells #[.int .i64 0, .int .i64 0] 48) = w17 at *
      generalize w16.heap.size = bs16 at *
      rintro e w18 ⟨⟨p, kp, rfl, hMp, hKp⟩, hB⟩
      rw [form_again HF.out.1 HF.out.2.1 hKp] at hMp
      have H18 : Hid (Below w.heap.size w (w18.alloc (.cells #[.int .i64 0, .int .i64 0] 45)) ∧ BoxF (w18.alloc (.cells #[.int .i64 0, .int .i64 0] 45)) w18.heap.size 0 0 ∧ (w18.alloc (.cells #[.int .i64 0, .int .i64 0] 45)).heap[bs16]? = some (.cells #[.int .i64 0, .int .i64 0] 48 (0, 0)) ∧ MpAt (w18.alloc (.cells #[.int .i64 0, .int .i64 0] 45)) m F ∧ MpAt (w18.alloc (.cells #[.int .i64 0, .int .i64 0] 45)) p F) := by
        have hA : Below w18.heap.size w18 (w18.alloc (.cells #[.int .i64 0, .int .i64 0] 45)) := (Below.refl _ w18).alloc (Nat.le_refl _) _
        have hB2 : Below w.heap.size w w18 := H16.out.1.trans (hB.mono H16.out.1.size)
        have hlt := (Array.getElem?_eq_some_iff.1 H16.out.2.1).1
        exact ⟨hB2.alloc hB2.size _, BoxF.new w18 0 0, (hA.block _ (Nat.lt_of_lt_of_le hlt hB.size)).trans ((hB.block _ hlt).trans H16.out.2.1), (H16.out.2.2.1.below hB).below hA, hMp.below hA⟩
      obtain ⟨c0, c1⟩ := H18.out.2.1.cell
      obtain ⟨d0, d1⟩ := duo_cells H18.out.2.2.1
      have cS := same14_any _ p m F F H18.out.2.2.2.2 H18.out.2.2.2.1
      rw [decide_eq_true rfl] at cS
      clear hMp hKp hB H16
      go_wp2_with fail
      refine cS.mono ?_
      clear cS c0 c1 d0 d1
      generalize w18.alloc (.cells #[.int .i64 0, .int .i64 0] 45) = w19 at *
      rintro e w20 ⟨rfl, hB⟩
      have H20 : Hid (Below w.heap.size w w20 ∧ MpAt w20 m F) := ⟨H18.out.1.trans (hB.mono H18.out.1.size), H18.out.2.2.2.1.below hB⟩
      clear hB H18
      go_wp2_with fail
      refine (cB _ H20.out.1).mono ?_
      clear cB
      rintro e w21 ⟨a21, d21, rfl, hrow, hB⟩
      obtain ⟨ad', c2', e', hnc', hnil'⟩ := row_shapeR hrow
      cases e'
      have hRu := own_rus hrow rfl
      have hcz := cut_small r2
      have H21 : Hid (Below w.heap.size w w21 ∧ MpAt w21 m F) := ⟨H20.out.1.trans (hB.mono H20.out.1.size), H20.out.2.below hB⟩
      have cN := new_b w21 a21 (cutR r2).length d21 (cutR r2) hRu hnc' hcz.1 hcz.2
      clear hrow hB H20 hRu hnc' hnil' hcz
      generalize cutR r2 = ds at *
      generalize hDN : ds.length = DN at *
      have HDN : Hid (ds.length = DN) := hDN
      clear hDN
      go_wp2_with fail
      refine cN.mono ?_
      clear cN
      rintro e w22 ⟨hNw, hB⟩
      have H22 : Hid (Below w.heap.size w w22 ∧ MpAt w22 m F) := ⟨H21.out.1.trans (hB.mono H21.out.1.size), H21.out.2.below hB⟩
      clear hB H21
      rcases hNw with ⟨E, X, hE, rfl⟩ | ⟨q, kq, rfl, hMq, hKq, hbq, h64q⟩
      · have H23 : Hid (Below w.heap.size w (w22.alloc (.cells #[.int .i64 E, .int .i64 X] 45)) ∧ BoxF (w22.alloc (.cells #[.int .i64 E, .int .i64 X] 45)) w22.heap.size E X) := ⟨H22.out.1.alloc H22.out.1.size _, BoxF.new w22 E X⟩
        obtain ⟨c0, c1⟩ := H23.out.2.cell
        go_wp2
        go_ret
        exact ⟨rfl, H23.out.1⟩
      have h64q' : ds.length ≤ 64 := by rw [HDN.out]; exact h64q
      obtain ⟨hUq, hGn⟩ := form_facts hbq h64q' hKq
      generalize formT (tabL ds) kq = G at *
      have HG : Hid (FormU G ∧ FOk G ∧ G.length ≤ 64) := ⟨hUq, hMq.ok, hGn⟩
      have H23 : Hid (Below w.heap.size w (w22.alloc (.cells #[.int .i64 0, .int .i64 0] 45)) ∧ BoxF (w22.alloc (.cells #[.int .i64 0, .int .i64 0] 45)) w22.heap.size 0 0 ∧ MpAt (w22.alloc (.cells #[.int .i64 0, .int .i64 0] 45)) m F ∧ MpAt (w22.alloc (.cells #[.int .i64 0, .int .i64 0] 45)) q G) := by
        have hA : Below w22.heap.size w22 (w22.alloc (.cells #[.int .i64 0, .int .i64 0] 45)) := (Below.refl _ w22).alloc (Nat.le_refl _) _
        exact ⟨H22.out.1.alloc H22.out.1.size _, BoxF.new w22 0 0, H22.out.2.below hA, hMq.below hA⟩
      obtain ⟨c0, c1⟩ := H23.out.2.1.cell
      have cS := same14_any _ m q F G H23.out.2.2.1 H23.out.2.2.2
      clear hUq hGn hbq h64q h64q' hKq hMq H22 HDN
      go_wp2_with fail
      refine cS.mono ?_
      clear cS c0 c1
      generalize w22.alloc (.cells #[.int .i64 0, .int .i64 0] 45) = w23 at *
      generalize w22.heap.size = b22 at *
      rintro e w24 ⟨rfl, hB⟩
      have H24 : Hid (Below w.heap.size w w24 ∧ BoxF w24 b22 0 0 ∧ MpAt w24 m F ∧ MpAt w24 q G) := ⟨H23.out.1.trans (hB.mono H23.out.1.size), H23.out.2.1.below hB H23.out.2.1.lt, H23.out.2.2.1.below hB, H23.out.2.2.2.below hB⟩
      clear hB H23
      by_cases hFG : F = G
      · subst hFG
        rw [decide_eq_true rfl]
        obtain ⟨c0, c1⟩ := H24.out.2.1.cell
        have cS := same14_any w24 q m F F H24.out.2.2.2 H24.out.2.2.1
        rw [decide_eq_true rfl] at cS
        go_wp2_with fail
        refine cS.mono ?_
        clear cS c0 c1
        rintro e w25 ⟨rfl, hB⟩
        have H25 : Hid (Below w.heap.size w w25 ∧ MpAt w25 m F ∧ MpAt w25 q F) := ⟨H24.out.1.trans (hB.mono H24.out.1.size), H24.out.2.2.1.below hB, H24.out.2.2.2.below hB⟩
        clear hB H24
        have cTq := text_any w25 q F H25.out.2.2 (HTb.out _ H25.out.1)
        rw [HPT.out] at cTq
        go_wp2_with fail
        refine cTq.mono ?_
        clear cTq
        rintro e w26 ⟨rfl, hB⟩
        have H26 : Hid (Below w.heap.size w w26 ∧ MpAt w26 m F) := ⟨H25.out.1.trans (hB.mono H25.out.1.size), H25.out.2.1.below hB⟩
        clear hB H25
        go_wp2_with fail
        refine (cT _ H26.out.1 H26.out.2).mono ?_
        rintro e w27 ⟨rfl, hB⟩
        have H27 : Hid (Below w.heap.size w w27) := H26.out.1.trans (hB.mono H26.out.1.size)
        clear hB H26
        go_wp2_with fail
        refine (wakes14_any _).mono ?_
        rintro e w28 ⟨rfl, hB⟩
        have H28 : Hid (Below w.heap.size w w28) := H27.out.trans (hB.mono H27.out.size)
        clear hB H27
        go_wp2
        go_ret
        exact ⟨rfl, H28.out⟩
      · rw [decide_eq_false hFG]
        have HFG : Hid (F ≠ G) := hFG
        have cR1 := rules_own w24 m F H24.out.2.2.1
        rw [HFL.out] at cR1
        clear hFG
        go_wp2_with fail
        refine cR1.mono ?_
        clear cR1
        rintro e w25 ⟨a25, c25, rfl, hR25, hB⟩
        have H25 : Hid (Below w.heap.size w w25 ∧ MpAt w25 m F ∧ MpAt w25 q G ∧ w25.ownsRow w24.heap.size 31 3 (.slice a25 FL c25) FL (ruCells F) ∧ Below w24.heap.size w24 w25 ∧ MpAt w24 m F ∧ MpAt w24 q G ∧ Below w.heap.size w w24) := ⟨H24.out.1.trans (hB.mono H24.out.1.size), H24.out.2.2.1.below hB, H24.out.2.2.2.below hB, hR25, hB, H24.out.2.2.1, H24.out.2.2.2, H24.out.1⟩
        clear hB H24 hR25
        have cR2 := rules_any w25 q G H25.out.2.2.1
        generalize hGL : G.length = GL at *
        have HGL : Hid (G.length = GL) := hGL
        clear hGL
        go_wp2_with fail
        refine cR2.mono ?_
        clear cR2
        rintro e w26 ⟨a26, c26, rfl, hR26, hc26, hn26, hB⟩
        have H26 : Hid (w26.ownsRow w24.heap.size 31 3 (.slice a25 FL c25) FL (ruCells F) ∧ Rus w26 a26 GL G ∧ (a26 = none → GL = 0 ∧ c26 = 0) ∧ Below w24.heap.size w24 w26 ∧ (FL + GL) * 40 ≤ 140737488355328 ∧ w24.heap.size ≤ w26.heap.size) := ⟨rowB H25.out.2.2.2.1 hB, hR26, hn26, H25.out.2.2.2.2.1.trans (hB.mono H25.out.2.2.2.2.1.size), by have h1 := HF.out.2.2; have h2 := HG.out.2.2; omega, Nat.le_trans H25.out.2.2.2.2.1.size hB.size⟩
        have H24 : Hid (MpAt w24 m F ∧ MpAt w24 q G ∧ Below w.heap.size w w24) := ⟨H25.out.2.2.2.2.2.1, H25.out.2.2.2.2.2.2.1, H25.out.2.2.2.2.2.2.2⟩
        clear hR26 hc26 hn26 hB H25
        go_wp2_with (at_builtin; refine wpList_appR rfl _ _ rfl w24.heap.size FL GL c26 _ F G a26 rfl rfl H26.out.1 H26.out.2.1 H26.out.2.2.1 H26.out.2.2.2.2.1 H26.out.2.2.2.2.2 ?_; intro a27 c27 w27 hc27 hown hB27; have H27 : Hid (Rus w27 a27 (FL + GL) (F ++ G) ∧ Below w24.heap.size w24 w27) := by { refine ⟨own_rus hown (by rw [List.length_append, HFL.out, HGL.out]), H26.out.2.2.2.1.trans hB27⟩ }; clear hown hB27 hc27)
        have HL : Hid (FL + GL = (F ++ G).length) := by show _ = _; rw [List.length_append, HFL.out, HGL.out]
        have hTL : FL + GL ≤ 128 := by have h1 := HF.out.2.2; have h2 := HG.out.2.2; omega
        have HD : Hid (F ≠ G ∧ FormU F ∧ FormU G ∧ FOk F ∧ FOk G) := ⟨HFG.out, HF.out.1, HG.out.1, HF.out.2.1, HG.out.2.1⟩
        generalize hTLe : FL + GL = TL at *
        have HTLe : Hid (FL + GL = TL) := hTLe
        clear hTLe
        clear H26 HFG HF HG HFL HGL cT HPT
        go_loopw [165] (fun v wr => ∃ k : Nat, k ≤ TL ∧ v = .int .i64 (k : Int) ∧ Hid (Below w24.heap.size w24 wr ∧ Rus wr a27 TL (F ++ G) ∧ ∀ r ∈ (F ++ G).take k, thr r.2.1 (imgL F r.2.1) = thr r.2.1 (imgL G r.2.1))) (fun v _ => TL - (intOf v).toNat)
        case atStart => exact ⟨0, Nat.zero_le _, rfl, H27.out.2, H27.out.1, fun r hr => by simp at hr⟩
        case round =>
          clear H27
          obtain ⟨k, hk, rfl, H⟩ := hrel
          by_cases hlt : k < TL
          · obtain ⟨r, hr⟩ : ∃ r, (F ++ G)[k]? = some r := ⟨_, List.getElem?_eq_getElem (by rw [← HL.out]; exact hlt)⟩
            obtain ⟨b1, o1, hae, hc1⟩ := H.out.2.1.2 (by omega)
            subst hae
            obtain ⟨q0, q1, q2⟩ := hc1 k r hr
            have hrp : isP r.2.1 = true := by
              rcases List.mem_append.1 (List.mem_of_getElem? hr) with h | h
              · exact (HD.out.2.2.2.1 r h).1
              · exact (HD.out.2.2.2.2 r h).1
            obtain ⟨f, hf⟩ : ∃ f, f = mk r.2.1 := ⟨_, rfl⟩
            obtain ⟨t, ht⟩ : ∃ t, t = mk r.2.2 := ⟨_, rfl⟩
            have hfs : f.size ≤ 200 := by rw [hf, ← bs_len, bs_mk]; exact isP_len hrp
            have hfb : bs f = r.2.1 := by rw [hf, bs_mk]
            rw [← hf] at q1
            rw [← ht] at q2
            have hW3 : Below wr.heap.size wr (wr.alloc (.cells #[.int .i64 r.1, .string f, .string t] 31)) := (Below.refl _ wr).alloc (Nat.le_refl _) _
            have HBx : Hid (BoxR (wr.alloc (.cells #[.int .i64 r.1, .string f, .string t] 31)) wr.heap.size r.1 f t ∧ Below w24.heap.size w24 (wr.alloc (.cells #[.int .i64 r.1, .string f, .string t] 31)) ∧ Rus (wr.alloc (.cells #[.int .i64 r.1, .string f, .string t] 31)) (some ⟨b1, o1, none⟩) TL (F ++ G)) := ⟨BoxR.new wr r.1 f t, H.out.1.trans (hW3.mono H.out.1.size), H.out.2.1.kept hW3⟩
            have cU1 := fun W (hW : Below w24.heap.size w24 W) => Irule_any W m F f (H24.out.1.below hW) (by unfold maxLen; omega)
            have cU2 := fun W (hW : Below w24.heap.size w24 W) => Irule_any W q G f (H24.out.2.1.below hW) (by unfold maxLen; omega)
            have cI1 := fun W (hW : Below w24.heap.size w24 W) => Iimage_any W m F f (H24.out.1.below hW) (by unfold maxLen; omega)
            have cI2 := fun W (hW : Below w24.heap.size w24 W) => Iimage_any W q G f (H24.out.2.1.below hW) (by unfold maxLen; omega)
            rw [hfb] at cU1 cU2 cI1 cI2
            have HNX : Hid (thr r.2.1 (imgL F r.2.1) = thr r.2.1 (imgL G r.2.1) → ∀ x ∈ (F ++ G).take (k + 1), thr x.2.1 (imgL F x.2.1) = thr x.2.1 (imgL G x.2.1)) := fun he x hx => by
              obtain ⟨hkl, e⟩ := List.getElem?_eq_some_iff.1 hr
              rw [List.take_succ_eq_append_getElem hkl, e] at hx
              rcases List.mem_append.1 hx with h | h
              · exact H.out.2.2 x h
              · simp at h
                rw [h]
                exact he
            generalize thr r.2.1 (imgL F r.2.1) = T1 at *
            generalize thr r.2.1 (imgL G r.2.1) = T2 at *
            generalize rulR F r.2.1 = U1 at *
            generalize rulR G r.2.1 = U2 at *
            obtain ⟨⟨xk, xf, xt⟩, xb⟩ := U1
            obtain ⟨⟨yk, yf, yt⟩, yb⟩ := U2
            obtain ⟨t1, e1⟩ := T1
            obtain ⟨t2, e2⟩ := T2
            simp only [ruV] at cU1 cU2 cI1 cI2
            have HTT : Hid (mk t1 = mk t2 → e1 = e2 → ((t1, e1) : List UInt8 × Int) = (t2, e2)) := fun h1 h2 => by
              have := congrArg bs h1
              rw [bs_mk, bs_mk] at this
              rw [this, h2]
            have hst : ((mk t1).toList == (mk t2).toList) = decide (mk t1 = mk t2) := by
              rw [plain_str]
              exact decide_eq_decide.2 ⟨fun h => bs_inj h, fun h => by rw [h]⟩
            generalize mk xf = xf' at *
            generalize mk xt = xt' at *
            generalize mk yf = yf' at *
            generalize mk yt = yt' at *
            generalize mk t1 = s1 at *
            generalize mk t2 = s2 at *
            generalize r.1 = kk at *
            have i5 : (k : Int) < (TL : Int) := by omega
            have i5b : (k : Int) < (FL : Int) + (GL : Int) := by have := HTLe.out; omega
            have i6 : ¬ TL ≤ k := by omega
            have i6b : ¬ FL + GL ≤ k := by have := HTLe.out; omega
            clear hc1 hr hrp hf ht hfb hW3 H
            go_upto_region 29 with fail
            generalize wr.alloc (.cells #[.int .i64 kk, .string f, .string t] 31) = v3 at *
            generalize wr.heap.size = bx at *
            clear q0 q1 q2
            obtain ⟨d0, d1, d2⟩ := HBx.out.1.cell
            go_wp2_with fail
            refine (cU1 _ HBx.out.2.1).mono ?_
            clear cU1 d0 d1 d2
            rintro e v4 ⟨rfl, hB⟩
            have H4 : Hid (BoxR (v4.alloc (.cells #[.int .i64 xk, .string xf', .string xt'] 31)) bx kk f t ∧ BoxR (v4.alloc (.cells #[.int .i64 xk, .string xf', .string xt'] 31)) v4.heap.size xk xf' xt' ∧ Below w24.heap.size w24 (v4.alloc (.cells #[.int .i64 xk, .string xf', .string xt'] 31)) ∧ Rus (v4.alloc (.cells #[.int .i64 xk, .string xf', .string xt'] 31)) (some ⟨b1, o1, none⟩) TL (F ++ G)) := by
              have hA : Below v4.heap.size v4 (v4.alloc (.cells #[.int .i64 xk, .string xf', .string xt'] 31)) := (Below.refl _ v4).alloc (Nat.le_refl _) _
              have hb := HBx.out.1.below hB HBx.out.1.lt
              have hB2 : Below w24.heap.size w24 v4 := HBx.out.2.1.trans (hB.mono HBx.out.2.1.size)
              exact ⟨hb.below hA hb.lt, BoxR.new v4 xk xf' xt', hB2.alloc hB2.size _, (HBx.out.2.2.kept hB).kept hA⟩
            clear hB HBx
            go_upto_region 30 with fail
            generalize v4.alloc (.cells #[.int .i64 xk, .string xf', .string xt'] 31) = v5 at *
            generalize v4.heap.size = by_ at *
            obtain ⟨d0, d1, d2⟩ := H4.out.1.cell
            go_wp2_with fail
            refine (cU2 _ H4.out.2.2.1).mono ?_
            clear cU2 d0 d1 d2
            rintro e v6 ⟨rfl, hB⟩
            have H6 : Hid (BoxR (v6.alloc (.cells #[.int .i64 yk, .string yf', .string yt'] 31)) bx kk f t ∧ BoxR (v6.alloc (.cells #[.int .i64 yk, .string yf', .string yt'] 31)) by_ xk xf' xt' ∧ BoxR (v6.alloc (.cells #[.int .i64 yk, .string yf', .string yt'] 31)) v6.heap.size yk yf' yt' ∧ Below w24.heap.size w24 (v6.alloc (.cells #[.int .i64 yk, .string yf', .string yt'] 31)) ∧ Rus (v6.alloc (.cells #[.int .i64 yk, .string yf', .string yt'] 31)) (some ⟨b1, o1, none⟩) TL (F ++ G)) := by
              have hA : Below v6.heap.size v6 (v6.alloc (.cells #[.int .i64 yk, .string yf', .string yt'] 31)) := (Below.refl _ v6).alloc (Nat.le_refl _) _
              have hb := H4.out.1.below hB H4.out.1.lt
              have hb2 := H4.out.2.1.below hB H4.out.2.1.lt
              have hB2 : Below w24.heap.size w24 v6 := H4.out.2.2.1.trans (hB.mono H4.out.2.2.1.size)
              exact ⟨hb.below hA hb.lt, hb2.below hA hb2.lt, BoxR.new v6 yk yf' yt', hB2.alloc hB2.size _, (H4.out.2.2.2.kept hB).kept hA⟩
            clear hB H4
            go_upto_region 31 with fail
            generalize v6.alloc (.cells #[.int .i64 yk, .string yf', .string yt'] 31) = v7 at *
            generalize v6.heap.size = bz at *
            obtain ⟨d0, d1, d2⟩ := H6.out.1.cell
            go_wp2_with fail
            refine (cI1 _ H6.out.2.2.2.1).mono ?_
            clear cI1 d0 d1 d2
            rintro e v8 ⟨rfl, hB⟩
            have H8 : Hid (BoxR v8 bx kk f t ∧ BoxR v8 by_ xk xf' xt' ∧ BoxR v8 bz yk yf' yt' ∧ Below w24.heap.size w24 v8 ∧ Rus v8 (some ⟨b1, o1, none⟩) TL (F ++ G)) := ⟨H6.out.1.below hB H6.out.1.lt, H6.out.2.1.below hB H6.out.2.1.lt, H6.out.2.2.1.below hB H6.out.2.2.1.lt, H6.out.2.2.2.1.trans (hB.mono H6.out.2.2.2.1.size), H6.out.2.2.2.2.kept hB⟩
            clear hB H6
            obtain ⟨d0, d1, d2⟩ := H8.out.1.cell
            go_wp2_with fail
            refine (cI2 _ H8.out.2.2.2.1).mono ?_
            clear cI2 d0 d1 d2
            rintro e v9 ⟨rfl, hB⟩
            have H9 : Hid (BoxR v9 by_ xk xf' xt' ∧ BoxR v9 bz yk yf' yt' ∧ Below w24.heap.size w24 v9 ∧ Rus v9 (some ⟨b1, o1, none⟩) TL (F ++ G) ∧ Below w.heap.size w v9) := by
              have hB2 := H8.out.2.2.2.1.trans (hB.mono H8.out.2.2.2.1.size)
              exact ⟨H8.out.2.1.below hB H8.out.2.1.lt, H8.out.2.2.1.below hB H8.out.2.2.1.lt, hB2, H8.out.2.2.2.2.kept hB, H24.out.2.2.trans (hB2.mono H24.out.2.2.size)⟩
            clear hB H8
            obtain ⟨d0, d1, d2⟩ := H9.out.1.cell
            obtain ⟨g0, g1, g2⟩ := H9.out.2.1.cell
            clear d1 d2 g1 g2
            by_cases hb : xb = yb
            case neg =>
              have hb' : (xb != yb) = true := by simpa using hb
              have hb2 : (xb == yb) = false := by simpa using hb
              clear hst
              go_wp2_with fail
              refine (wakes14_any _).mono ?_
              rintro e z ⟨rfl, hBz⟩
              have Hz : Hid (Below w.heap.size w z) := H9.out.2.2.2.2.trans (hBz.mono H9.out.2.2.2.2.size)
              clear hBz
              go_wp2
              go_ret
              exact ⟨rfl, Hz.out⟩
            case pos =>
            subst hb
            obtain ⟨p1, hp1⟩ : ∃ p, p = (xk == 2) := ⟨_, rfl⟩
            obtain ⟨p2, hp2⟩ : ∃ p, p = (yk == 2) := ⟨_, rfl⟩
            rw [eq_comm] at hp1 hp2
            by_cases hp : p1 = p2
            case neg =>
              have hp' : (p1 != p2) = true := by simpa using hp
              have hp3 : (p1 == p2) = false := by simpa using hp
              clear hst
              go_wp2_with fail
              refine (wakes14_any _).mono ?_
              rintro e z ⟨rfl, hBz⟩
              have Hz : Hid (Below w.heap.size w z) := H9.out.2.2.2.2.trans (hBz.mono H9.out.2.2.2.2.size)
              clear hBz
              go_wp2
              go_ret
              exact ⟨rfl, Hz.out⟩
            case pos =>
            subst hp
            by_cases hs : s1 = s2
            case neg =>
              rw [decide_eq_false hs] at hst
              go_wp2_with fail
              refine (wakes14_any _).mono ?_
              rintro e z ⟨rfl, hBz⟩
              have Hz : Hid (Below w.heap.size w z) := H9.out.2.2.2.2.trans (hBz.mono H9.out.2.2.2.2.size)
              clear hBz
              go_wp2
              go_ret
              exact ⟨rfl, Hz.out⟩
            case pos =>
            subst hs
            by_cases he : e1 = e2
            case neg =>
              clear hst
              go_wp2_with fail
              refine (wakes14_any _).mono ?_
              rintro e z ⟨rfl, hBz⟩
              have Hz : Hid (Below w.heap.size w z) := H9.out.2.2.2.2.trans (hBz.mono H9.out.2.2.2.2.size)
              clear hBz
              go_wp2
              go_ret
              exact ⟨rfl, Hz.out⟩
            case pos =>
            have HN : Hid (∀ x ∈ (F ++ G).take (k + 1), thr x.2.1 (imgL F x.2.1) = thr x.2.1 (imgL G x.2.1)) := HNX.out (HTT.out rfl he)
            subst he
            clear hst
            go_wp2
            go_roundw
            case rel => exact ⟨k + 1, by omega, by simp, H9.out.2.2.1, H9.out.2.2.2.1, HN.out⟩
            case measure => simp [intOf]; omega
          · exfalso
            obtain rfl : k = TL := by omega
            refine HD.out.1 (form_told HD.out.2.1 HD.out.2.2.1 HD.out.2.2.2.1 HD.out.2.2.2.2 (fun r hr => H.out.2.2 r ?_))
            rw [List.take_of_length_le (by rw [← HL.out]; exact Nat.le_refl _)]
            exact hr
end Go.Proofs.YtggnglgehobglaaGreatDoor
