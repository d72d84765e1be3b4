import Derived.Test.YtggnglgehobglaaGreatDoorN17
/- The walk of a Map's source. -/
namespace Go.Proofs.YtggnglgehobglaaGreatDoor
open Go.RowKit Go.Shelf Go.Maps

attribute [local go_sem] Oper.semAt_some

/-- the row of which another one is the image: by the first rule that lets rows through, and in whose To it lies -/
def srcR (F : List Ru) : List Ru → List UInt8 → Option (List UInt8)
  | [], _ => none
  | r :: rs, i => if letsK r.1 then
      (match restP i (tgtR r) with
      | none => srcR F rs i
      | some left => if letsK (ruleT (tabL F) (joinR r.2.1 left)).1 then some (joinR r.2.1 left) else none)
    else srcR F rs i
def srcL (F : List Ru) (i : List UInt8) : Option (List UInt8) := srcR F F i
theorem srcR_drop (F : List Ru) (k : Nat) (r : Ru) (i : List UInt8) (h : F[k]? = some r) : srcR F (F.drop k) i = if letsK r.1 then
      (match restP i (tgtR r) with
      | none => srcR F (F.drop (k + 1)) i
      | some left => if letsK (ruleT (tabL F) (joinR r.2.1 left)).1 then some (joinR r.2.1 left) else none)
    else srcR F (F.drop (k + 1)) i := by
  obtain ⟨hk, rfl⟩ := List.getElem?_eq_some_iff.1 h
  rw [List.drop_eq_getElem_cons hk]
  rfl
theorem tgtR_isP {r : Ru} (h : isP r.2.1 = true ∧ isP r.2.2 = true) : isP (tgtR r) = true := by
  unfold tgtR
  split
  · exact h.1
  · exact h.2
theorem joinR_len (p q : List UInt8) : (joinR p q).length ≤ p.length + q.length + 1 := by
  unfold joinR
  split
  · rw [List.length_append]; omega
  · rw [List.length_append, List.length_cons]; omega
theorem restP_getD (p q : List UInt8) : ((restP p q).getD []).length ≤ p.length := by
  cases h : restP p q with
  | none => exact Nat.zero_le _
  | some r => exact restP_len p q r h
theorem imgL_len {F : List Ru} (hF : FOk F) {l x : List UInt8} (h : imgL F l = some x) (hl : l.length ≤ 200) : x.length ≤ 1000000 := by
  unfold imgL at h
  split at h
  · have h1 := isP_len (tgtR_isP (ruleT_ok hF l))
    have h2 := restP_getD l (ruleT (tabL F) l).2.1
    have h3 := joinR_len (tgtR (ruleT (tabL F) l)) ((restP l (ruleT (tabL F) l).2.1).getD [])
    have h4 := congrArg List.length (Option.some.inj h)
    omega
  · cases h
theorem srcR_len {F : List Ru} : ∀ (rs : List Ru), FOk rs → ∀ {l x : List UInt8}, srcR F rs l = some x → l.length ≤ 200 → x.length ≤ 1000000
  | [], _, _, _, h, _ => by cases h
  | r :: rs, hF, l, x, h, hl => by
    have ih := srcR_len (F := F) rs (fun y hy => hF y (List.mem_cons_of_mem _ hy)) (l := l) (x := x)
    simp only [srcR] at h
    split at h
    · split at h
      · exact ih h hl
      · rename_i left hleft
        split at h
        · have h4 := congrArg List.length (Option.some.inj h)
          have h1 := isP_len (hF r (by simp)).1
          have h2 := restP_len l (tgtR r) left hleft
          have h3 := joinR_len r.2.1 left
          omega
        · cases h
    · exact ih h hl
theorem srcL_len {F : List Ru} (hF : FOk F) {l x : List UInt8} (h : srcL F l = some x) (hl : l.length ≤ 200) : x.length ≤ 1000000 := srcR_len F hF h hl
set_option maxRecDepth 100000 in
set_option maxHeartbeats 4000000 in
theorem source_any (w : World) (m : Nat) (F : List Ru) (s : ByteArray) (hM : MpAt w m F) (hs : s.size ≤ 300000) :
    Calls Tryz.prog 26 #[.pointer (some ⟨m, 0, none⟩), .string s] w fun e w' => e = .returned (.tuple #[.string (mk ((srcL F (bs s)).getD [])), .bool (srcL F (bs s)).isSome]) ∧ Below w.heap.size w w' := by
  obtain ⟨a, n, c, b, c0, c1, h1, h2, h3, h4⟩ := hM.ex
  have HM : Hid (MpAt w m F ∧ Rus w a n F ∧ TbAt w b (tabL F) n ∧ w.cell? ⟨m, 1, none⟩ = some (.map (some b))) := ⟨hM, h1, h3, c1⟩
  obtain ⟨E, hE⟩ : ∃ E, E = srcL F (bs s) := ⟨_, rfl⟩
  rw [← hE]
  have HE0 : Hid (E = srcR F (F.drop 0) (bs s)) := by show _ = _; rw [hE]; rfl
  have hn1 := h4.1
  clear hE hM h1 h2 h3 h4 c1
  go_enter Tryz.func26, Tryz.ntmps26
  go_wp2
  clear c0
  go_loopw [16] (fun v wr => ∃ k : Nat, k ≤ n ∧ v = .int .i64 (k : Int) ∧ Hid (Below w.heap.size w wr ∧ E = srcR F (F.drop k) (bs s))) (fun v _ => n - (intOf v).toNat)
  case atStart => exact ⟨0, Nat.zero_le _, rfl, Below.refl _ _, HE0.out⟩
  case round =>
    clear HE0
    obtain ⟨k, hk, rfl, H⟩ := hrel
    by_cases hlt : k < n
    · obtain ⟨r, hr⟩ : ∃ r, F[k]? = some r := ⟨_, List.getElem?_eq_getElem (by rw [HM.out.2.1.1]; exact hlt)⟩
      obtain ⟨b1, o1, hae, hc1⟩ := (HM.out.2.1.kept H.out.1).2 (by omega)
      subst hae
      obtain ⟨q0, q1, q2⟩ := hc1 k r hr
      have hrok := HM.out.1.ok r (List.mem_of_getElem? hr)
      have hsd := srcR_drop F k r (bs s) hr
      have hE := H.out.2.trans hsd
      obtain ⟨f', hf'⟩ : ∃ f', f' = mk r.2.1 := ⟨_, rfl⟩
      obtain ⟨t', ht'⟩ : ∃ t', t' = mk r.2.2 := ⟨_, rfl⟩
      obtain ⟨kk, hkk⟩ : ∃ kk, kk = r.1 := ⟨_, rfl⟩
      rw [← hf'] at q1
      rw [← ht'] at q2
      rw [← hkk] at q0 hE
      have hfb : bs f' = r.2.1 := by rw [hf', bs_mk]
      have hTg : bs (tgt kk f' t') = tgtR r := by
        rw [hkk, hf', ht']
        unfold tgt tgtR
        split <;> rw [bs_mk]
      have hTp := tgtR_isP hrok
      have hTs : (tgt kk f' t').size ≤ 200 := by rw [← bs_len, hTg]; exact isP_len hTp
      have hfs : f'.size ≤ 200 := by rw [← bs_len, hfb]; exact isP_len hrok.1
      have hle := fun W => lets_any kk f' t' W
      have hta := fun W => target_any kk f' t' W
      have hre := fun W => mrest_any s (tgt kk f' t') W (by omega) (by omega) (by rw [hTg]; exact right_path _ hTp)
      have HR : Hid (restS s (tgt kk f' t') = mk ((restP (bs s) (tgtR r)).getD []) ∧ restB s (tgt kk f' t') = (restP (bs s) (tgtR r)).isSome) := ⟨by unfold restS; rw [hTg], by unfold restB; rw [hTg]⟩
      have hRs := restS_size s (tgt kk f' t')
      have i5 : (k : Int) < (n : Int) := by omega
      have i6 : ¬ n ≤ k := by omega
      have HBx : Hid (BoxR (wr.alloc (.cells #[.int .i64 kk, .string f', .string t'] 31)) wr.heap.size kk f' t' ∧ Below w.heap.size w (wr.alloc (.cells #[.int .i64 kk, .string f', .string t'] 31))) := ⟨BoxR.new wr kk f' t', H.out.1.alloc H.out.1.size _⟩
      have HEE : Hid (E = if letsK kk then (match restP (bs s) (tgtR r) with | none => srcR F (F.drop (k + 1)) (bs s) | some left => if letsK (ruleT (tabL F) (joinR r.2.1 left)).1 then some (joinR r.2.1 left) else none) else srcR F (F.drop (k + 1)) (bs s)) := hE
      have HFB : Hid (bs f' = r.2.1) := hfb
      clear hc1 hr hrok hsd hE hf' ht' hkk hTg hTp hfb H
      go_upto_region 4 with fail
      generalize wr.alloc (.cells #[.int .i64 kk, .string f', .string t'] 31) = w2 at *
      generalize wr.heap.size = bx at *
      obtain ⟨d0, d1, d2⟩ := HBx.out.1.cell
      clear q0 q1 q2
      go_wp2_with fail
      refine (hle _).mono ?_
      clear hle
      rintro e w3 ⟨rfl, hB3⟩
      have HB3 : Hid (BoxR w3 bx kk f' t' ∧ Below w.heap.size w w3) := ⟨HBx.out.1.below hB3 HBx.out.1.lt, HBx.out.2.trans (hB3.mono HBx.out.2.size)⟩
      clear hB3 HBx d0 d1 d2
      cases hl : letsK kk with
      | false =>
        have HN : Hid (E = srcR F (F.drop (k + 1)) (bs s)) := by show _ = _; rw [HEE.out, hl]; rfl
        clear HEE hta hre HR
        go_wp2
        go_roundw
        case rel => exact ⟨k + 1, by omega, by simp, HB3.out.2, HN.out⟩
        case measure => simp [intOf]; omega
      | true =>
        have HE2 : Hid (E = (match restP (bs s) (tgtR r) with | none => srcR F (F.drop (k + 1)) (bs s) | some left => if letsK (ruleT (tabL F) (joinR r.2.1 left)).1 then some (joinR r.2.1 left) else none)) := by show _ = _; rw [HEE.out, hl]; rfl
        clear HEE
        obtain ⟨d0, d1, d2⟩ := HB3.out.1.cell
        go_wp2_with fail
        refine (hta _).mono ?_
        clear hta d0 d1 d2
        rintro e w4 ⟨rfl, hB4⟩
        have HB4 : Hid (BoxR w4 bx kk f' t' ∧ Below w.heap.size w w4) := ⟨HB3.out.1.below hB4 HB3.out.1.lt, HB3.out.2.trans (hB4.mono HB3.out.2.size)⟩
        clear hB4 HB3
        generalize tgt kk f' t' = T at *
        go_wp2_with fail
        refine (hre _).mono ?_
        clear hre
        rintro e w5 ⟨rfl, hB5⟩
        have HB5 : Hid (BoxR w5 bx kk f' t' ∧ Below w.heap.size w w5) := ⟨HB4.out.1.below hB5 HB4.out.1.lt, HB4.out.2.trans (hB5.mono HB4.out.2.size)⟩
        clear hB5 HB4
        generalize hRS : restS s T = RS at *
        generalize hRB : restB s T = RB at *
        have hRBe := HR.out.2
        cases hrp : restP (bs s) (tgtR r) with
        | none =>
          have HN : Hid (E = srcR F (F.drop (k + 1)) (bs s)) := by show _ = _; rw [HE2.out, hrp]
          rw [hrp] at hRBe
          simp only [Option.isSome_none] at hRBe
          subst hRBe
          clear HE2 HR hRS hRB hrp
          go_wp2
          go_roundw
          case rel => exact ⟨k + 1, by omega, by simp, HB5.out.2, HN.out⟩
          case measure => simp [intOf]; omega
        | some left =>
          have HE3 : Hid (E = if letsK (ruleT (tabL F) (joinR r.2.1 left)).1 then some (joinR r.2.1 left) else none) := by show _ = _; rw [HE2.out, hrp]
          rw [hrp] at hRBe
          simp only [Option.isSome_some] at hRBe
          have hRSe := HR.out.1
          rw [hrp] at hRSe
          simp only [Option.getD_some] at hRSe
          subst hRBe
          have hjo := fun W => mjoin_any f' RS W (by omega) (by omega)
          have hJ : joinB f' RS = mk (joinR r.2.1 left) := by unfold joinB; rw [HFB.out, hRSe, bs_mk]
          have hJs := joinB_size f' RS
          rw [hJ] at hjo hJs
          obtain ⟨J, hJJ⟩ : ∃ J, J = mk (joinR r.2.1 left) := ⟨_, rfl⟩
          rw [← hJJ] at hjo hJs
          have hJb : bs J = joinR r.2.1 left := by rw [hJJ, bs_mk]
          have hru := fun W hT => trule_any W b (tabL F) n J hT (by unfold maxLen; omega)
          rw [hJb] at hru
          rw [← hJb] at HE3
          have HJ : Hid (mk (bs J) = J) := mk_bs J
          rw [hJb] at HE3
          have HJb : Hid (bs J = joinR r.2.1 left) := hJb
          generalize ruleT (tabL F) (joinR r.2.1 left) = rr at *
          obtain ⟨k2, f2, t2⟩ := rr
          obtain ⟨f2', hf2'⟩ : ∃ f2', f2' = mk f2 := ⟨_, rfl⟩
          obtain ⟨t2', ht2'⟩ : ∃ t2', t2' = mk t2 := ⟨_, rfl⟩
          rw [show ruV (k2, f2, t2) = rv k2 f2' t2' by rw [hf2', ht2']] at hru
          have hle2 := fun W => lets_any k2 f2' t2' W
          obtain ⟨d0, d1, d2⟩ := HB5.out.1.cell
          clear HE2 HR hRS hRB hrp hRSe hJ hJJ hJb hf2' ht2'
          simp only at HE3
          go_wp2_with fail
          refine (hjo _).mono ?_
          clear hjo d0 d1 d2
          rintro e w6 ⟨rfl, rfl⟩
          have hT6 := HM.out.2.2.1.below HB5.out.2
          have c1 := (HB5.out.2.cell (p := ⟨m, 1, none⟩) (World.block_lt_of_cell? w _ HM.out.2.2.2)).trans HM.out.2.2.2
          have hru6 := hru _ hT6
          clear hru hT6
          go_wp2_with fail
          refine hru6.mono ?_
          clear hru6 c1
          rintro e w7 ⟨rfl, hB7⟩
          have HB7 : Hid (Below w.heap.size w w7) := HB5.out.2.trans (hB7.mono HB5.out.2.size)
          clear hB7
          go_wp2_with fail
          refine (hle2 _).mono ?_
          clear hle2
          rintro e w8 ⟨rfl, hB8⟩
          have HB8 : Hid (Below w.heap.size w w8) := HB7.out.trans (hB8.mono HB7.out.size)
          clear hB8
          cases hl2 : letsK k2 with
          | true =>
            have HX : Hid (E = some (joinR r.2.1 left)) := by show _ = _; rw [HE3.out, hl2]; rfl
            clear HE3
            go_wp2
            go_ret2
            exact ⟨by rw [HX.out, Option.getD_some, ← HJb.out, HJ.out]; rfl, HB8.out⟩
          | false =>
            have HX : Hid (E = none) := by show _ = _; rw [HE3.out, hl2]; rfl
            clear HE3
            go_wp2
            go_ret2
            exact ⟨by rw [HX.out]; rfl, HB8.out⟩
    · obtain rfl : k = n := by omega
      have i5 : ¬ (k : Int) < (k : Int) := by omega
      have HX : Hid (E = none ∧ Below w.heap.size w wr) := ⟨by rw [H.out.2, List.drop_of_length_le (by rw [HM.out.2.1.1]; exact Nat.le_refl _)]; rfl, H.out.1⟩
      clear H
      go_wp2
      go_ret2
      exact ⟨by rw [HX.out.1]; rfl, HX.out.2⟩
end Go.Proofs.YtggnglgehobglaaGreatDoor
