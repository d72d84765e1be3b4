import Derived.Test.YtggnglgehobglaaGreatDoorP29
/- The walks of ruleThrough, tooLong, Trivial. -/
namespace Go.Proofs.YtggnglgehobglaaGreatDoor
open Go.RowKit Go.Shelf Go.Maps

attribute [local go_sem] Oper.semAt_some

theorem imgL_len2 {F : List Ru} (hF : FOk F) {l x : List UInt8} (h : imgL F l = some x) : x.length ≤ l.length + 201 := by
  unfold imgL at h
  split at h
  · have h1 := congrArg List.length (Option.some.inj h)
    have h2 := joinR_len (tgtR (ruleT (tabL F) l)) ((restP l (ruleT (tabL F) l).2.1).getD [])
    have h3 := isP_len (tgtR_isP (ruleT_ok hF l))
    have h4 := restP_getD l (ruleT (tabL F) l).2.1
    omega
  · cases h
set_option maxRecDepth 100000 in
theorem through_any (w : World) (a b : Nat) (F G : List Ru) (s : ByteArray) (hM : MpAt w a F) (hV : MpAt w b G) (hs : s.size ≤ 1000) :
    Calls Tryz.prog 27 #[.pointer (some ⟨a, 0, none⟩), .pointer (some ⟨b, 0, none⟩), .string s] w fun e w' => e = .returned (ruV (thR F G (bs s))) ∧ Below w.heap.size w w' := by
  have cA := fun W hW => image_any W a F s (hM.below hW) (by omega)
  have cD := fun W => drop_any s W
  have HE : Hid (mk (bs s) = s) := mk_bs s
  have H1 : Hid (Below w.heap.size w (w.alloc (.cells #[.int .i64 0, .string ⟨#[]⟩, .string ⟨#[]⟩] 31)) ∧ BoxR (w.alloc (.cells #[.int .i64 0, .string ⟨#[]⟩, .string ⟨#[]⟩] 31)) w.heap.size 0 ⟨#[]⟩ ⟨#[]⟩) := ⟨(Below.refl _ w).alloc (Nat.le_refl _) _, BoxR.new w 0 ⟨#[]⟩ ⟨#[]⟩⟩
  cases h1 : imgL F (bs s) with
  | none =>
    rw [h1] at cA
    simp only [Option.getD_none, Option.isSome_none] at cA
    have HT : Hid (ruV (thR F G (bs s)) = rv 2 s ⟨#[]⟩) := by show _ = _; unfold thR; rw [h1]; show rv 2 (mk (bs s)) (mk []) = _; rw [HE.out]; rfl
    generalize ruV (thR F G (bs s)) = RV at *
    clear h1 hM hV
    go_enter Tryz.func27, Tryz.ntmps27
    go_wp2_with fail
    refine (cA _ H1.out.1).mono ?_
    rintro e w2 ⟨rfl, hB⟩
    have Hw2 : Hid (Below w.heap.size w w2 ∧ BoxR w2 w.heap.size 0 ⟨#[]⟩ ⟨#[]⟩) := ⟨H1.out.1.trans (hB.mono H1.out.1.size), H1.out.2.below hB H1.out.2.lt⟩
    clear hB
    go_wp2_with fail
    refine (cD _).mono ?_
    rintro e w3 ⟨rfl, hB⟩
    have Hw3 : Hid (Below w.heap.size w w3 ∧ BoxR w3 w.heap.size 0 ⟨#[]⟩ ⟨#[]⟩) := ⟨Hw2.out.1.trans (hB.mono Hw2.out.1.size), Hw2.out.2.below hB Hw2.out.2.lt⟩
    clear hB
    have hb4 : BoxR w3 w.heap.size 0 ⟨#[]⟩ ⟨#[]⟩ := Hw3.out.2
    obtain ⟨y0, y1, y2⟩ := hb4.cell
    obtain ⟨z0, z1, z2⟩ := hb4.frozen
    have HZ : Hid (BoxR (((w3.setCell ⟨w.heap.size, 0, none⟩ (.int .i64 2)).setCell ⟨w.heap.size, 1, none⟩ (.string s)).setCell ⟨w.heap.size, 2, none⟩ (.string ⟨#[]⟩)) w.heap.size 2 s ⟨#[]⟩ ∧ Below w.heap.size w (((w3.setCell ⟨w.heap.size, 0, none⟩ (.int .i64 2)).setCell ⟨w.heap.size, 1, none⟩ (.string s)).setCell ⟨w.heap.size, 2, none⟩ (.string ⟨#[]⟩))) :=
      ⟨hb4.all 2 s ⟨#[]⟩, ((Hw3.out.1.setCell (p := ⟨w.heap.size, 0, none⟩) (Nat.le_refl _) _).setCell (p := ⟨w.heap.size, 1, none⟩) (Nat.le_refl _) _).setCell (p := ⟨w.heap.size, 2, none⟩) (Nat.le_refl _) _⟩
    clear hb4
    go_wp2
    exact mrule_ret (k := 6) rfl HZ.out.1 rfl rfl ⟨by rw [HT.out], HZ.out.2⟩
  | some x =>
    rw [h1] at cA
    simp only [Option.getD_some, Option.isSome_some] at cA
    have hxl := imgL_len2 hM.ok h1
    rw [bs_len] at hxl
    obtain ⟨X, hX⟩ : ∃ X, X = mk x := ⟨_, rfl⟩
    have hXb : bs X = x := by rw [hX, bs_mk]
    have hXs : X.size ≤ 2000 := by rw [← bs_len, hXb]; omega
    rw [← hX] at cA
    have cB := fun W hW => image_any W b G X (hV.below hW) (by omega)
    rw [hXb] at cB
    clear hX hXb hxl hXs
    cases h2 : imgL G x with
    | none =>
      rw [h2] at cB
      simp only [Option.getD_none, Option.isSome_none] at cB
      have HT : Hid (ruV (thR F G (bs s)) = rv 2 s ⟨#[]⟩) := by show _ = _; unfold thR; rw [h1]; show ruV (match imgL G x with | none => (2, bs s, []) | some y => (3, bs s, y)) = _; rw [h2]; show rv 2 (mk (bs s)) (mk []) = _; rw [HE.out]; rfl
      generalize ruV (thR F G (bs s)) = RV at *
      clear h1 h2 hM hV
      go_enter Tryz.func27, Tryz.ntmps27
      go_wp2_with fail
      refine (cA _ H1.out.1).mono ?_
      rintro e w2 ⟨rfl, hB⟩
      have Hw2 : Hid (Below w.heap.size w w2 ∧ BoxR w2 w.heap.size 0 ⟨#[]⟩ ⟨#[]⟩) := ⟨H1.out.1.trans (hB.mono H1.out.1.size), H1.out.2.below hB H1.out.2.lt⟩
      clear hB
      go_wp2_with fail
      refine (cB _ Hw2.out.1).mono ?_
      rintro e w3 ⟨rfl, hB⟩
      have Hw3 : Hid (Below w.heap.size w w3 ∧ BoxR w3 w.heap.size 0 ⟨#[]⟩ ⟨#[]⟩) := ⟨Hw2.out.1.trans (hB.mono Hw2.out.1.size), Hw2.out.2.below hB Hw2.out.2.lt⟩
      clear hB
      go_wp2_with fail
      refine (cD _).mono ?_
      rintro e w4 ⟨rfl, hB⟩
      have Hw4 : Hid (Below w.heap.size w w4 ∧ BoxR w4 w.heap.size 0 ⟨#[]⟩ ⟨#[]⟩) := ⟨Hw3.out.1.trans (hB.mono Hw3.out.1.size), Hw3.out.2.below hB Hw3.out.2.lt⟩
      clear hB
      have hb4 : BoxR w4 w.heap.size 0 ⟨#[]⟩ ⟨#[]⟩ := Hw4.out.2
      obtain ⟨y0, y1, y2⟩ := hb4.cell
      obtain ⟨z0, z1, z2⟩ := hb4.frozen
      have HZ : Hid (BoxR (((w4.setCell ⟨w.heap.size, 0, none⟩ (.int .i64 2)).setCell ⟨w.heap.size, 1, none⟩ (.string s)).setCell ⟨w.heap.size, 2, none⟩ (.string ⟨#[]⟩)) w.heap.size 2 s ⟨#[]⟩ ∧ Below w.heap.size w (((w4.setCell ⟨w.heap.size, 0, none⟩ (.int .i64 2)).setCell ⟨w.heap.size, 1, none⟩ (.string s)).setCell ⟨w.heap.size, 2, none⟩ (.string ⟨#[]⟩))) :=
        ⟨hb4.all 2 s ⟨#[]⟩, ((Hw4.out.1.setCell (p := ⟨w.heap.size, 0, none⟩) (Nat.le_refl _) _).setCell (p := ⟨w.heap.size, 1, none⟩) (Nat.le_refl _) _).setCell (p := ⟨w.heap.size, 2, none⟩) (Nat.le_refl _) _⟩
      clear hb4
      go_wp2
      exact mrule_ret (k := 6) rfl HZ.out.1 rfl rfl ⟨by rw [HT.out], HZ.out.2⟩
    | some y =>
      rw [h2] at cB
      simp only [Option.getD_some, Option.isSome_some] at cB
      have HT : Hid (ruV (thR F G (bs s)) = rv 3 s (mk y)) := by show _ = _; unfold thR; rw [h1]; show ruV (match imgL G x with | none => (2, bs s, []) | some y => (3, bs s, y)) = _; rw [h2]; show rv 3 (mk (bs s)) (mk y) = _; rw [HE.out]
      generalize ruV (thR F G (bs s)) = RV at *
      generalize mk y = Y at *
      have cM := fun W => move_any s Y W
      clear h1 h2 hM hV cD
      go_enter Tryz.func27, Tryz.ntmps27
      go_wp2_with fail
      refine (cA _ H1.out.1).mono ?_
      rintro e w2 ⟨rfl, hB⟩
      have Hw2 : Hid (Below w.heap.size w w2 ∧ BoxR w2 w.heap.size 0 ⟨#[]⟩ ⟨#[]⟩) := ⟨H1.out.1.trans (hB.mono H1.out.1.size), H1.out.2.below hB H1.out.2.lt⟩
      clear hB
      go_wp2_with fail
      refine (cB _ Hw2.out.1).mono ?_
      rintro e w3 ⟨rfl, hB⟩
      have Hw3 : Hid (Below w.heap.size w w3 ∧ BoxR w3 w.heap.size 0 ⟨#[]⟩ ⟨#[]⟩) := ⟨Hw2.out.1.trans (hB.mono Hw2.out.1.size), Hw2.out.2.below hB Hw2.out.2.lt⟩
      clear hB
      go_wp2_with fail
      refine (cM _).mono ?_
      rintro e w4 ⟨rfl, hB⟩
      have Hw4 : Hid (Below w.heap.size w w4 ∧ BoxR w4 w.heap.size 0 ⟨#[]⟩ ⟨#[]⟩) := ⟨Hw3.out.1.trans (hB.mono Hw3.out.1.size), Hw3.out.2.below hB Hw3.out.2.lt⟩
      clear hB
      have hb4 : BoxR w4 w.heap.size 0 ⟨#[]⟩ ⟨#[]⟩ := Hw4.out.2
      obtain ⟨y0, y1, y2⟩ := hb4.cell
      obtain ⟨z0, z1, z2⟩ := hb4.frozen
      have HZ : Hid (BoxR (((w4.setCell ⟨w.heap.size, 0, none⟩ (.int .i64 3)).setCell ⟨w.heap.size, 1, none⟩ (.string s)).setCell ⟨w.heap.size, 2, none⟩ (.string Y)) w.heap.size 3 s Y ∧ Below w.heap.size w (((w4.setCell ⟨w.heap.size, 0, none⟩ (.int .i64 3)).setCell ⟨w.heap.size, 1, none⟩ (.string s)).setCell ⟨w.heap.size, 2, none⟩ (.string Y))) :=
        ⟨hb4.all 3 s Y, ((Hw4.out.1.setCell (p := ⟨w.heap.size, 0, none⟩) (Nat.le_refl _) _).setCell (p := ⟨w.heap.size, 1, none⟩) (Nat.le_refl _) _).setCell (p := ⟨w.heap.size, 2, none⟩) (Nat.le_refl _) _⟩
      clear hb4
      go_wp2
      exact mrule_ret (k := 6) rfl HZ.out.1 rfl rfl ⟨by rw [HT.out], HZ.out.2⟩
/-- are these more rules than a Map has, or rows that are no paths? -/
def tooB (F : List Ru) : Bool := F.any (fun r => !isP r.2.1 || !isP r.2.2) || decide (64 < F.length)
set_option maxRecDepth 100000 in
set_option maxHeartbeats 4000000 in
theorem tooLong_any (w : World) (a : Option Addr) (n c : Nat) (F : List Ru) (hl : Rus w a n F) (hn : n ≤ 100000) (hz : ∀ r ∈ F, r.2.1.length ≤ 100000 ∧ r.2.2.length ≤ 100000) :
    Calls Tryz.prog 29 #[.slice a n c] w fun e w' => e = .returned (.bool (tooB F)) ∧ Below w.heap.size w w' := by
  have HL : Hid (Rus w a n F ∧ ∀ r ∈ F, r.2.1.length ≤ 100000 ∧ r.2.2.length ≤ 100000) := ⟨hl, hz⟩
  obtain ⟨E, hE⟩ : ∃ E, E = tooB F := ⟨_, rfl⟩
  rw [← hE]
  have HE0 : Hid (E = ((F.drop 0).any (fun r => !isP r.2.1 || !isP r.2.2) || decide (64 < n))) := by show _ = _; rw [hE]; unfold tooB; rw [hl.1]; rfl
  clear hE hl hz
  go_enter Tryz.func29, Tryz.ntmps29
  go_wp2
  go_loopw [7] (fun v wr => ∃ k : Nat, k ≤ n ∧ v = .int .i64 (k : Int) ∧ Hid (Below w.heap.size w wr ∧ E = ((F.drop k).any (fun r => !isP r.2.1 || !isP r.2.2) || decide (64 < n)))) (fun v _ => n - (intOf v).toNat)
  case atStart => exact ⟨0, Nat.zero_le _, rfl, Below.refl _ _, HE0.out⟩
  case round =>
    clear HE0
    obtain ⟨k, hk, rfl, H⟩ := hrel
    by_cases hlt : k < n
    · have hkF : k < F.length := by rw [HL.out.1.1]; exact hlt
      obtain ⟨r, hr⟩ : ∃ r, F[k]? = some r := ⟨_, List.getElem?_eq_getElem hkF⟩
      obtain ⟨b1, o1, hae, hc1⟩ := (HL.out.1.kept H.out.1).2 (by omega)
      subst hae
      obtain ⟨q0, q1, q2⟩ := hc1 k r hr
      have hrz := HL.out.2 r (List.mem_of_getElem? hr)
      have hE : E = ((!isP r.2.1 || !isP r.2.2) || ((F.drop (k + 1)).any (fun r => !isP r.2.1 || !isP r.2.2) || decide (64 < n))) := by
        rw [H.out.2, List.drop_eq_getElem_cons hkF, List.any_cons]
        rw [List.getElem?_eq_getElem hkF] at hr
        rw [Option.some.inj hr, Bool.or_assoc]
      obtain ⟨f, hf⟩ : ∃ f, f = mk r.2.1 := ⟨_, rfl⟩
      obtain ⟨t, ht⟩ : ∃ t, t = mk r.2.2 := ⟨_, rfl⟩
      rw [← hf] at q1
      rw [← ht] at q2
      have cF := fun W => misPath_any f W (by rw [hf, ← bs_len, bs_mk]; unfold maxLen; omega)
      have cT := fun W => misPath_any t W (by rw [ht, ← bs_len, bs_mk]; unfold maxLen; omega)
      rw [show bs f = r.2.1 by rw [hf, bs_mk]] at cF
      rw [show bs t = r.2.2 by rw [ht, bs_mk]] at cT
      have i5 : (k : Int) < (n : Int) := by omega
      have i6 : ¬ n ≤ k := by omega
      have HBx : Hid (BoxR (wr.alloc (.cells #[.int .i64 r.1, .string f, .string t] 31)) wr.heap.size r.1 f t ∧ Below w.heap.size w (wr.alloc (.cells #[.int .i64 r.1, .string f, .string t] 31))) := ⟨BoxR.new wr r.1 f t, H.out.1.alloc H.out.1.size _⟩
      generalize r.1 = kk at *
      generalize isP r.2.1 = pf at *
      generalize isP r.2.2 = pt at *
      clear hc1 hr hrz hf ht H hkF
      go_upto_region 4 with fail
      generalize wr.alloc (.cells #[.int .i64 kk, .string f, .string t] 31) = w2 at *
      generalize wr.heap.size = bx at *
      obtain ⟨d0, d1, d2⟩ := HBx.out.1.cell
      clear q0 q1 q2
      go_wp2_with fail
      refine (cF _).mono ?_
      clear cF d0 d1 d2
      rintro e w3 ⟨rfl, hB3⟩
      have HB3 : Hid (BoxR w3 bx kk f t ∧ Below w.heap.size w w3) := ⟨HBx.out.1.below hB3 HBx.out.1.lt, HBx.out.2.trans (hB3.mono HBx.out.2.size)⟩
      clear hB3 HBx
      cases pf with
      | false =>
        have HN : Hid (E = true) := by show _ = _; rw [hE]; rfl
        clear hE cT
        go_wp2
        go_ret
        exact ⟨by rw [HN.out]; rfl, HB3.out.2⟩
      | true =>
        obtain ⟨d0, d1, d2⟩ := HB3.out.1.cell
        go_wp2_with fail
        refine (cT _).mono ?_
        clear cT d0 d1 d2
        rintro e w4 ⟨rfl, hB4⟩
        have HB4 : Hid (Below w.heap.size w w4) := HB3.out.2.trans (hB4.mono HB3.out.2.size)
        clear hB4 HB3
        cases pt with
        | false =>
          have HN : Hid (E = true) := by show _ = _; rw [hE]; rfl
          clear hE
          go_wp2
          go_ret
          exact ⟨by rw [HN.out]; rfl, HB4.out⟩
        | true =>
          have HN : Hid (E = ((F.drop (k + 1)).any (fun r => !isP r.2.1 || !isP r.2.2) || decide (64 < n))) := by show _ = _; rw [hE]; rfl
          clear hE
          go_wp2
          go_roundw
          case rel => exact ⟨k + 1, by omega, by simp, HB4.out, HN.out⟩
          case measure => simp [intOf]; omega
    · obtain rfl : k = n := by omega
      have i5 : ¬ (k : Int) < (k : Int) := by omega
      have hE : E = decide (64 < k) := by
        rw [H.out.2, List.drop_of_length_le (by rw [HL.out.1.1]; exact Nat.le_refl _)]
        rfl
      have HB : Hid (Below w.heap.size w wr) := H.out.1
      clear H
      by_cases h64 : 64 < k
      · have i7 : (64 : Int) < (k : Int) := by omega
        have HN : Hid (E = true) := by show _ = _; rw [hE]; exact decide_eq_true h64
        clear hE
        go_wp2
        go_ret
        exact ⟨by rw [HN.out]; rfl, HB.out⟩
      · have i7 : ¬ (64 : Int) < (k : Int) := by omega
        have HN : Hid (E = false) := by show _ = _; rw [hE]; exact decide_eq_false h64
        clear hE
        go_wp2
        go_ret
        exact ⟨by rw [HN.out]; rfl, HB.out⟩
theorem trivial_any (w : World) : Calls Tryz.prog 7 #[] w fun e w' => ∃ v, e = .returned (.pointer (some ⟨v, 0, none⟩)) ∧ MpAt w' v trvL ∧ Below w.heap.size w w' := by
  go_enter Tryz.func7, Tryz.ntmps7
  go_wp2_with fail
  refine (keep_any _ _).mono ?_
  rintro e w1 ⟨rfl, hB1⟩
  have H1 : Hid (Below w.heap.size w w1) := hB1
  clear hB1
  have hmo := mapOf_any (w1.alloc (.cells #[.int .i64 1, .string ⟨#[]⟩, .string ⟨#[]⟩] 31)) (some ⟨w1.heap.size, 0, none⟩) 1 1 trvL ⟨rfl, fun _ => ⟨_, 0, rfl, fun j x hx => by
    obtain ⟨e1, e2, e3⟩ := (BoxR.new w1 1 ⟨#[]⟩ ⟨#[]⟩).cell
    match j, hx with
    | 0, hx => cases hx; exact ⟨e1, e2, e3⟩⟩⟩ (Nat.le_refl _) (by omega) (fun h => by cases h) trv_ok
  have H2 : Hid (Below w.heap.size w (w1.alloc (.cells #[.int .i64 1, .string ⟨#[]⟩, .string ⟨#[]⟩] 31))) := H1.out.alloc H1.out.size _
  go_wp2_with fail
  refine hmo.mono ?_
  clear hmo
  rintro e w2 ⟨⟨v, rfl, hMp, _⟩, hB2⟩
  have H3 : Hid (Below w.heap.size w w2 ∧ MpAt w2 v trvL) := ⟨H2.out.trans (hB2.mono H2.out.size), hMp⟩
  clear hMp hB2
  go_wp2
  go_ret
  exact ⟨v, rfl, H3.out.2, H3.out.1⟩
end Go.Proofs.YtggnglgehobglaaGreatDoor
