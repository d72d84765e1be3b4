import Derived.Test.YtojpbemfbjkjjaaGreatP43
import Derived.Test.YtojpbemfbjkjjaaGreatP45
import Derived.Test.YtojpbemfbjkjjaaGreatP46
/- The walk of the law GraphParts. -/
namespace Go.Proofs.YtojpbemfbjkjjaaGreat
open Go.RowKit Go.Maps

attribute [local go_sem] Oper.semAt_some

set_option maxRecDepth 100000 in
set_option maxHeartbeats 8000000 in
theorem graphParts_walk (w : World) (a : Option Addr) (n c : Nat) (l : List BornD) (hl : Brs w a n l) (hn : n ≤ 9223372036854775807) (ha : Option Addr) (hn2 hc : Nat) (hl2 : List Int) (hh : Ints w ha hn2 hl2) (hhn : hn2 ≤ 9223372036854775807) (hhr : ∀ x ∈ hl2, -9223372036854775808 ≤ x ∧ x ≤ 9223372036854775807)
    (ka : Option Addr) (kn kc : Nat) (kl : List Int) (hk : Ints w ka kn kl) (hkn : kn ≤ 9223372036854775807) (hkr : ∀ x ∈ kl, -9223372036854775808 ≤ x ∧ x ≤ 9223372036854775807) :
    Calls Tryz.prog 4 #[.slice a n c, .slice ha hn2 hc, .slice ka kn kc] w fun e w' => e = .returned (.bool true) ∧ Below w.heap.size w w' := by
  have hw1 := gwakes_any w
  have HA : Hid (Brs w a n l ∧ Ints w ha hn2 hl2 ∧ (∀ x ∈ hl2, -9223372036854775808 ≤ x ∧ x ≤ 9223372036854775807) ∧ Ints w ka kn kl ∧ (∀ x ∈ kl, -9223372036854775808 ≤ x ∧ x ≤ 9223372036854775807)) := ⟨hl, hh, hhr, hk, hkr⟩
  clear hl hh hhr hk hkr
  cases hG : bornG l with
  | none =>
    go_enter Tryz.func4, Tryz.ntmps4
    go_wp2_with fail
    refine hw1.mono ?_
    clear hw1
    rintro e w1 ⟨rfl, hB1⟩
    have hbo := born_any w1 a n c l (HA.out.1.below hB1) hn
    rw [hG] at hbo
    have H1 : Hid (Below w.heap.size w w1) := hB1
    clear hB1
    go_wp2_with fail
    refine hbo.mono ?_
    clear hbo
    rintro e w2 ⟨hB2, he⟩
    have he' : e = .returned (.tuple #[.pointer none, .bool true]) := he
    subst he'
    have H2 : Hid (Below w.heap.size w w2) := H1.out.trans (hB2.mono H1.out.size)
    clear hB2 he
    have hw3 := gwakes_any w2
    go_wp2_with fail
    refine hw3.mono ?_
    clear hw3
    rintro e w3 ⟨rfl, hB3⟩
    have H3 : Hid (Below w.heap.size w w3) := H2.out.trans (hB3.mono H2.out.size)
    clear hB3
    go_wp2
    go_ret
    exact ⟨rfl, H3.out⟩
  | some st =>
    have HNI : Hid (NI st) := bornG_ni hG
    go_enter Tryz.func4, Tryz.ntmps4
    go_wp2_with fail
    refine hw1.mono ?_
    clear hw1
    rintro e w1 ⟨rfl, hB1⟩
    have hbo := born_any w1 a n c l (HA.out.1.below hB1) hn
    rw [hG] at hbo
    have H1 : Hid (Below w.heap.size w w1) := hB1
    clear hB1 hG
    go_wp2_with fail
    refine hbo.mono ?_
    clear hbo
    rintro e w2 ⟨hB2, hb, s, d, S, F, G, X, nv, iv, bv, ns, he, hI, ho5, hi5, hn5⟩
    subst he
    have H2 : Hid (Below w.heap.size w w2) := H1.out.trans (hB2.mono H1.out.size)
    obtain ⟨na, nc, ia, ic, e1, e2, h24, hEnv⟩ := hI.env hn5
    have HI2 : Hid (ns.map Nd.told = st.nodes ∧ BOk st ∧ st.ids.length ≤ 24 ∧ st.os.length ≤ 25 ∧ st.nodes.length ≤ 24) := ⟨hI.nn, hI.ok, hi5, ho5, hn5⟩
    have HEv : Hid (∀ W, Below w2.heap.size w2 W → (W.cell? ⟨hb, 0, none⟩ = some (.pointer (some ⟨s, 0, none⟩)) ∧ W.cell? ⟨hb, 1, none⟩ = some (.slice na ns.length nc) ∧ W.cell? ⟨hb, 2, none⟩ = some (.slice ia st.ids.length ic)) ∧ Ids W ia st.ids.length st.ids ∧ IsSt W s d st.os (fileB (st.os.map obB)).length false F ∧ NEnv W na ns.length ns) := hEnv
    clear hB2 hI hi5 ho5 hn5 hEnv e1 e2
    have hw3 := gwakes_any w2
    go_wp2_with fail
    refine hw3.mono ?_
    clear hw3
    rintro e w3 ⟨rfl, hB3⟩
    have H3 : Hid (Below w2.heap.size w2 w3) := hB3
    have H3w : Hid (Below w.heap.size w w3) := H2.out.trans (hB3.mono H2.out.size)
    clear hB3
    obtain ⟨⟨c0, c1, c2⟩, hids, _, _⟩ := HEv.out w3 H3.out
    obtain ⟨HS1, hHS1⟩ : ∃ HS, headsG st.ids hl2 = HS := ⟨_, rfl⟩
    obtain ⟨m1, hm1⟩ : ∃ m, HS1.length = m := ⟨_, rfl⟩
    obtain ⟨HS2, hHS2⟩ : ∃ HS, headsG st.ids kl = HS := ⟨_, rfl⟩
    obtain ⟨m2, hm2⟩ : ∃ m, HS2.length = m := ⟨_, rfl⟩
    obtain ⟨⟨hem1, hr1, hl1⟩, hhd⟩ := heads_ids w3 hb st.ids.length ic ia st HNI.out HI2.out.2.1 c2 hids (by have := HI2.out.2.2.1; omega) ha hn2 hc hl2 (HA.out.2.1.below H3w.out) hhn HA.out.2.2.1 HS1 hHS1 m1 hm1
    have HR1 : Hid (∀ x ∈ HS1, 0 ≤ x ∧ x ≤ 18446744073709551615) := hr1
    have HK2 : Hid (headsG st.ids kl = HS2 ∧ HS2.length = m2) := ⟨hHS2, hm2⟩
    clear hr1 hHS1 hm1 hHS2 hm2 hids c0 c1 c2
    go_wp2_with fail
    refine hhd.mono ?_
    clear hhd
    rintro e w4 ⟨ha4, hc4, rfl, hI4, hn4, hnil4, hB4⟩
    have H4 : Hid (Below w2.heap.size w2 w4) := H3.out.trans (hB4.mono H3.out.size)
    have H4w : Hid (Below w.heap.size w w4) := H2.out.trans (H4.out.mono H2.out.size)
    have HS1I : Hid (Ids w4 ha4 m1 HS1) := hI4
    obtain ⟨⟨c0, c1, c2⟩, hids, _, _⟩ := HEv.out w4 H4.out
    obtain ⟨⟨hem2, hr2, hl2'⟩, hhd⟩ := heads_ids w4 hb st.ids.length ic ia st HNI.out HI2.out.2.1 c2 hids (by have := HI2.out.2.2.1; omega) ka kn kc kl (HA.out.2.2.2.1.below H4w.out) hkn HA.out.2.2.2.2 HS2 HK2.out.1 m2 HK2.out.2
    have HR2 : Hid (∀ x ∈ HS2, 0 ≤ x ∧ x ≤ 18446744073709551615) := hr2
    clear hr2 hids c0 c1 c2 hB4 hI4
    go_wp2_with fail
    refine hhd.mono ?_
    clear hhd
    rintro e w5 ⟨ha5, hc5, rfl, hI5, hn5, hnil5, hB5⟩
    have H5 : Hid (Below w2.heap.size w2 w5) := H4.out.trans (hB5.mono H4.out.size)
    have HS1J : Hid (Ids w5 ha4 m1 HS1) := HS1I.out.kept hB5
    have HS2J : Hid (Ids w5 ha5 m2 HS2) := hI5
    have H5w : Hid (Below w.heap.size w w5) := H2.out.trans (H5.out.mono H2.out.size)
    have HOS : Hid (st.os.length ≤ 25) := HI2.out.2.2.2.1
    clear hB5 hI5 HS1I HK2 H3 H3w H4 H4w
    have HW5 : Hid (Below w5.heap.size w5 w5) := Below.refl _ _
    have HEM : Hid (emptyI ∉ HS1 ∧ emptyI ∉ HS2) := ⟨hem1, hem2⟩
    have HNL : Hid ((ha4 = none → m1 = 0 ∧ hc4 = 0) ∧ (ha5 = none → m2 = 0 ∧ hc5 = 0)) := ⟨hnil4, hnil5⟩
    have HFu : Hid (ns.length < st.os.length + 2) := by have h1 := HNI.out.len; have h2 : ns.length = st.nodes.length := (by rw [← HI2.out.1, List.length_map]); show _ < _; omega
    have c1 := (HEv.out w5 H5.out).1.2.1
    clear hem1 hem2 hnil4 hnil5
    obtain ⟨Wr, hWr⟩ : ∃ e, errR (ordG st.os (HS1 ++ HS2) GS.none) = e := ⟨_, rfl⟩
    have HWr : Hid (errR (ordG st.os (HS1 ++ HS2) GS.none) = Wr) := hWr
    clear hWr
    obtain ⟨Er, hEr⟩ : ∃ e, errR (btwG st.os HS1 HS2) = e := ⟨_, rfl⟩
    have HEr : Hid (errR (btwG st.os HS1 HS2) = Er) := hEr
    clear hEr
    go_wp2_with fail
    have hmx : Tryz.prog.follows .mixedOrders = true := by kernel_rfl
    have hB6 : Below w5.heap.size w5 (w5.drew.alloc (.cells #[] 31)) := (below_drewN (Below.refl _ w5) 1).alloc (Nat.le_refl _) _
    have hrow6 : (w5.drew.alloc (.cells #[] 31)).ownsRow w5.heap.size 31 1 (.slice (some ⟨w5.heap.size, 0, none⟩) 0 0) 0 (([] : List Int).map (Value.int .u64)) := row_empty w5.drew w5.heap.size (Nat.le_refl _)
    have c1a := (HEv.out _ (H5.out.trans (hB6.mono H5.out.size))).1.2.1
    refine wp_region_G (S := SB 1000 (fun _ => True) (fun W => W.cell? ⟨hb, 1, none⟩ = some (.slice na ns.length nc))) hmx ?_
    refine wpAnyG_takeP (i := 0) (v := ?_) rfl (by kernel_rfl) (by kernel_rfl) (by kernel_rfl) (fun _ _ _ h => h) rfl (Or.inl ⟨by rfl, ?_⟩) (SB.off (by kernel_rfl) c1) ?_
    rotate_left
    · intro Y hY; go_simp; try with_reducible rfl
    intro hSB0
    simp only [Act.put, List.getElem_toArray, List.getElem_cons_zero, List.setIfInBounds_toArray, List.set_cons_zero, List.set_cons_succ]
    refine wpAnyG_takeP (i := 1) (v := ?_) rfl (by kernel_rfl) (by kernel_rfl) (by kernel_rfl) (fun _ _ _ h => h) rfl (Or.inl ⟨by rfl, ?_⟩) (by assumption) ?_
    rotate_left
    · intro Y hY; go_simp; try with_reducible rfl
    intro hSB1
    simp only [Act.put, List.getElem_toArray, List.getElem_cons_zero, List.getElem_cons_succ, List.setIfInBounds_toArray, List.set_cons_zero, List.set_cons_succ]
    refine wpAnyG_takeP (i := 2) (v := ?_) rfl (by kernel_rfl) (by kernel_rfl) (by kernel_rfl) (fun _ _ _ h => h) rfl (Or.inl ⟨by rfl, ?_⟩) (by assumption) ?_
    rotate_left
    · intro Y hY; go_simp; try with_reducible rfl
    intro hSB2
    simp only [Act.put, List.getElem_toArray, List.getElem_cons_zero, List.getElem_cons_succ, List.setIfInBounds_toArray, List.set_cons_zero, List.set_cons_succ]
    refine wpAnyG_takeP (i := 3) (v := ?_) rfl (by kernel_rfl) (by kernel_rfl) (by kernel_rfl) (fun _ _ _ h => h) rfl (Or.inl ⟨by rfl, ?_⟩) (by assumption) ?_
    rotate_left
    · intro Y hY; go_simp; try with_reducible rfl
    intro hSB3
    simp only [Act.put, List.getElem_toArray, List.getElem_cons_zero, List.getElem_cons_succ, List.setIfInBounds_toArray, List.set_cons_zero, List.set_cons_succ]
    refine wpAnyG_takeP (i := 5) (v := ?_) rfl (by kernel_rfl) (by kernel_rfl) (by kernel_rfl) (fun _ _ _ h => h) rfl (Or.inl ⟨by rfl, ?_⟩) (by assumption) ?_
    rotate_left
    · intro Y hY; go_simp; try with_reducible rfl
    intro hSB5
    simp only [Act.put, List.getElem_toArray, List.getElem_cons_zero, List.getElem_cons_succ, List.setIfInBounds_toArray, List.set_cons_zero, List.set_cons_succ]
    refine wpAnyG_takeP (i := 7) (v := ?_) rfl (by kernel_rfl) (by kernel_rfl) (by kernel_rfl) (fun _ _ _ h => h) rfl (Or.inl ⟨by rfl, ?_⟩) (by assumption) ?_
    rotate_left
    · intro Y hY; go_simp; try with_reducible rfl
    intro hSB7
    simp only [Act.put, List.getElem_toArray, List.getElem_cons_zero, List.getElem_cons_succ, List.setIfInBounds_toArray, List.set_cons_zero, List.set_cons_succ]
    refine wpAnyG_one (i := 4) (by kernel_rfl) rfl (fun K hK => ?_)
    go_simp
    refine hK.out _ _ (SB.off (by kernel_rfl) (c1a)) (fun hSB4 => ?_)
    clear hK K
    refine wpAnyG_one (i := 6) (by kernel_rfl) rfl (fun K hK => ?_)
    refine step_appIds _ (by rfl) _ _ (by rfl) w5.heap.size 0 m1 hc4 _ [] HS1 ha4 (by rfl) (by rfl) hrow6 (HS1J.out.kept hB6) HNL.out.1 (by omega) (Nat.le_of_lt (by simp)) ?_
    intro ad7 cp7 w7 hcp7 hrow7 hgr7 _
    rw [Nat.zero_add, List.nil_append] at hrow7
    simp only [Nat.zero_add]
    have hB7 : Below w5.heap.size w5 w7 := hB6.grown hgr7 (Nat.le_of_lt (by simp)) (fun k hk => (hrow6.lt k hk).1)
    have c1b := (HEv.out _ (H5.out.trans (hB7.mono H5.out.size))).1.2.1
    refine hK.out _ _ (SB.off (by kernel_rfl) (c1b)) (fun hSB6 => ?_)
    clear hK K
    simp only [Act.put, List.getElem_toArray, List.getElem_cons_zero, List.getElem_cons_succ, List.setIfInBounds_toArray, List.set_cons_zero, List.set_cons_succ]
    refine wpAnyG_one (i := 8) (by kernel_rfl) rfl (fun K hK => ?_)
    refine step_appIds _ (by rfl) _ _ (by rfl) w5.heap.size m1 m2 hc5 _ HS1 HS2 ha5 (by rfl) (by rfl) hrow7 (HS2J.out.kept hB7) HNL.out.2 (by omega) hB7.size ?_
    intro ad8 cp8 w8 hcp8 hrow8 hgr8 _
    have hB8 : Below w5.heap.size w5 w8 := hB7.grown hgr8 hB7.size (fun k hk => (hrow7.lt k hk).1)
    obtain ⟨⟨_, c1c, _⟩, _, _, hNE⟩ := HEv.out _ (H5.out.trans (hB8.mono H5.out.size))
    refine hK.out _ _ (SB.off (by kernel_rfl) (c1c)) (fun hSB8 => ?_)
    clear hK K
    simp only [Act.put, List.getElem_toArray, List.getElem_cons_zero, List.getElem_cons_succ, List.setIfInBounds_toArray, List.set_cons_zero, List.set_cons_succ]
    obtain ⟨_, _, ee, hI8⟩ := own_idsG hrow8
    cases ee
    have hdo := order11_any w8 na ns.length nc ns hNE rfl (st.os.length + 2) HFu.out ad8 (m1 + m2) cp8 (HS1 ++ HS2) hI8 (by omega)
    rw [ord_same HNI.out ns HI2.out.1 (HS1 ++ HS2) (fun e => (List.mem_append.1 e).elim HEM.out.1 HEM.out.2)] at hdo
    have hdo2 : Calls Tryz.prog 10 #[.slice na ns.length nc, .slice ad8 (m1 + m2) cp8] w8 fun e w' => ∃ v, e = .returned v ∧ (∃ sa sn sc, v = .tuple #[.slice sa sn sc, .int .i64 Wr]) ∧ Below w5.heap.size w5 w' ∧ ∀ er, ordG st.os (HS1 ++ HS2) GS.none = .bad er → er ≠ 0 := by
      refine hdo.mono ?_
      rintro e w' ⟨⟨hB, _⟩, hL⟩
      rw [← HWr.out]
      cases hR : ordG st.os (HS1 ++ HS2) GS.none with
      | bad er => rw [hR] at hL; exact ⟨_, hL.1, ⟨_, _, _, rfl⟩, hB8.trans (hB.mono hB8.size), fun er2 h2 => by cases h2; exact hL.2⟩
      | ok g => rw [hR] at hL; obtain ⟨_, _, he, _⟩ := hL; exact ⟨_, he, ⟨_, _, _, rfl⟩, hB8.trans (hB.mono hB8.size), fun er2 h2 => by cases h2⟩
    clear hdo hNE
    refine wpAnyG_one (i := 9) (by kernel_rfl) rfl (fun K hK => ?_)
    refine step_order11 _ (by rfl) _ _ _ _ (by rfl) _ _ (by rfl) (by rfl) _ hdo2 ?_
    rintro v w9 ⟨⟨sa, sn, sc, rfl⟩, hB9, hEn⟩
    have HEn : Hid (∀ er, ordG st.os (HS1 ++ HS2) GS.none = .bad er → er ≠ 0) := hEn
    clear hEn
    have c1d := (HEv.out _ (H5.out.trans (hB9.mono H5.out.size))).1.2.1
    refine hK.out _ _ (SB.off (by kernel_rfl) (c1d)) (fun hSB9 => ?_)
    clear hK K
    simp only [Act.put, List.getElem_toArray, List.getElem_cons_zero, List.getElem_cons_succ, List.setIfInBounds_toArray, List.set_cons_zero, List.set_cons_succ]
    refine wpAnyG_takeP (i := 10) (v := ?_) rfl (by kernel_rfl) (by kernel_rfl) (by kernel_rfl) (fun _ _ _ h => h) rfl (Or.inl ⟨by rfl, ?_⟩) (by assumption) ?_
    rotate_left
    · intro Y hY; go_simp; try with_reducible rfl
    intro hSB10
    simp only [Act.put, List.getElem_toArray, List.getElem_cons_zero, List.getElem_cons_succ, List.setIfInBounds_toArray, List.set_cons_zero, List.set_cons_succ]
    refine wpAnyG_takeP (i := 11) (v := ?_) rfl (by kernel_rfl) (by kernel_rfl) (by kernel_rfl) (fun _ _ _ h => h) rfl (Or.inl ⟨by rfl, ?_⟩) (by assumption) ?_
    rotate_left
    · intro Y hY; go_simp; try with_reducible rfl
    intro hSB11
    simp only [Act.put, List.getElem_toArray, List.getElem_cons_zero, List.getElem_cons_succ, List.setIfInBounds_toArray, List.set_cons_zero, List.set_cons_succ]
    refine wpAnyG_takeP (i := 12) (v := ?_) rfl (by kernel_rfl) (by kernel_rfl) (by kernel_rfl) (fun _ _ _ h => h) rfl (Or.inl ⟨by rfl, ?_⟩) (by assumption) ?_
    rotate_left
    · intro Y hY; go_simp; try with_reducible rfl
    intro hSB12
    simp only [Act.put, List.getElem_toArray, List.getElem_cons_zero, List.getElem_cons_succ, List.setIfInBounds_toArray, List.set_cons_zero, List.set_cons_succ]
    refine wpAnyG_takeP (i := 13) (v := ?_) rfl (by kernel_rfl) (by kernel_rfl) (by kernel_rfl) (fun _ _ _ h => h) rfl (Or.inl ⟨by rfl, ?_⟩) (by assumption) ?_
    rotate_left
    · intro Y hY; go_simp; try with_reducible rfl
    intro hSB13
    simp only [Act.put, List.getElem_toArray, List.getElem_cons_zero, List.getElem_cons_succ, List.setIfInBounds_toArray, List.set_cons_zero, List.set_cons_succ]
    refine wpAnyG_takeP (i := 14) (v := ?_) rfl (by kernel_rfl) (by kernel_rfl) (by kernel_rfl) (fun _ _ _ h => h) rfl (Or.inl ⟨by rfl, ?_⟩) (by assumption) ?_
    rotate_left
    · intro Y hY; go_simp; try with_reducible rfl
    intro hSB14
    simp only [Act.put, List.getElem_toArray, List.getElem_cons_zero, List.getElem_cons_succ, List.setIfInBounds_toArray, List.set_cons_zero, List.set_cons_succ]
    refine wpAnyG_done (by kernel_rfl) ?_ _
    have HW9 : Hid (Below w5.heap.size w5 w9) := hB9
    clear hdo2 hB9 hB8 hB7 hB6 hrow6 hrow7 hrow8 hI8 c1 c1a c1b c1c c1d hgr7 hgr8 hSB0 hSB1 hSB2 hSB3 hSB4 hSB5 hSB6 hSB7 hSB8 hSB9 hSB10 hSB11 hSB12 hSB13 hSB14 hcp7 hcp8
    obtain ⟨⟨c0, _, _⟩, _, hIS, _⟩ := HEv.out w9 (H5.out.trans (HW9.out.mono H5.out.size))
    go_upto_region 8 with fail
    go_cut [13, 14] (fun v1 v2 wc => ∃ ga gn gc, v1 = .slice ga gn gc ∧ v2 = .int .i64 Er ∧ Hid (Below w9.heap.size w9 wc ∧ Ids wc ga gn (lstR (btwG st.os HS1 HS2))))
    case first => 
      refine wp_region_G (S := SB 1000 (fun _ => True) (fun W => W.cell? ⟨hb, 0, none⟩ = some (.pointer (some ⟨s, 0, none⟩)))) hmx ?_
      refine wpAnyG_takeP (i := 0) (v := ?_) rfl (by kernel_rfl) (by kernel_rfl) (by kernel_rfl) (fun _ _ _ h => h) rfl (Or.inl ⟨by rfl, ?_⟩) (SB.off (by kernel_rfl) c0) ?_
      rotate_left
      · intro Y hY; go_simp; try with_reducible rfl
      intro hSB0
      simp only [Act.put, List.getElem_toArray, List.getElem_cons_zero, List.setIfInBounds_toArray, List.set_cons_zero, List.set_cons_succ]
      refine wpAnyG_takeP (i := 1) (v := ?_) rfl (by kernel_rfl) (by kernel_rfl) (by kernel_rfl) (fun _ _ _ h => h) rfl (Or.inl ⟨by rfl, ?_⟩) (by assumption) ?_
      rotate_left
      · intro Y hY; go_simp; try with_reducible rfl
      intro hSB1
      simp only [Act.put, List.getElem_toArray, List.getElem_cons_zero, List.getElem_cons_succ, List.setIfInBounds_toArray, List.set_cons_zero, List.set_cons_succ]
      refine wpAnyG_takeP (i := 2) (v := ?_) rfl (by kernel_rfl) (by kernel_rfl) (by kernel_rfl) (fun _ _ _ h => h) rfl (Or.inl ⟨by rfl, ?_⟩) (by assumption) ?_
      rotate_left
      · intro Y hY; go_simp; try with_reducible rfl
      intro hSB2
      simp only [Act.put, List.getElem_toArray, List.getElem_cons_zero, List.getElem_cons_succ, List.setIfInBounds_toArray, List.set_cons_zero, List.set_cons_succ]
      refine wpAnyG_takeP (i := 3) (v := ?_) rfl (by kernel_rfl) (by kernel_rfl) (by kernel_rfl) (fun _ _ _ h => h) rfl (Or.inl ⟨by rfl, ?_⟩) (by assumption) ?_
      rotate_left
      · intro Y hY; go_simp; try with_reducible rfl
      intro hSB3
      simp only [Act.put, List.getElem_toArray, List.getElem_cons_zero, List.getElem_cons_succ, List.setIfInBounds_toArray, List.set_cons_zero, List.set_cons_succ]
      refine wpAnyG_takeP (i := 5) (v := ?_) rfl (by kernel_rfl) (by kernel_rfl) (by kernel_rfl) (fun _ _ _ h => h) rfl (Or.inl ⟨by rfl, ?_⟩) (by assumption) ?_
      rotate_left
      · intro Y hY; go_simp; try with_reducible rfl
      intro hSB5
      simp only [Act.put, List.getElem_toArray, List.getElem_cons_zero, List.getElem_cons_succ, List.setIfInBounds_toArray, List.set_cons_zero, List.set_cons_succ]
      refine wpAnyG_takeP (i := 8) (v := ?_) rfl (by kernel_rfl) (by kernel_rfl) (by kernel_rfl) (fun _ _ _ h => h) rfl (Or.inl ⟨by rfl, ?_⟩) (by assumption) ?_
      rotate_left
      · intro Y hY; go_simp; try with_reducible rfl
      intro hSB8
      simp only [Act.put, List.getElem_toArray, List.getElem_cons_zero, List.getElem_cons_succ, List.setIfInBounds_toArray, List.set_cons_zero, List.set_cons_succ]
      refine wpAnyG_two (i := 4) (j := 7) (by kernel_rfl) rfl rfl (fun K hK => ?_) (fun K hK => ?_)
      · go_simp
        have O4 := OneR.start (below_drewN (Below.refl _ w9) 1)
        refine hK.out _ _ (SB.off (by kernel_rfl) ((HEv.out _ ((H5.out.trans (HW9.out.mono H5.out.size)).trans (O4.bel.mono (H5.out.trans (HW9.out.mono H5.out.size)).size))).1.1)) (fun hSB4 => ?_)
        clear hK K
        refine wpAnyG_two (i := 6) (j := 7) (by kernel_rfl) rfl rfl (fun K hK => ?_) (fun K hK => ?_)
        · refine step_appIds _ (by rfl) _ _ (by rfl) w9.heap.size 0 m1 hc4 _ [] HS1 ha4 (by rfl) (by rfl) O4.r ((HS1J.out.kept HW9.out).kept O4.bel) HNL.out.1 (by omega) O4.bel.size ?_
          intro ad6 cp6 u6 hcp6 hro6 hgr6 hat6
          rw [Nat.zero_add, List.nil_append] at hro6
          simp only [Nat.zero_add] at hat6 ⊢
          rw [Nat.zero_add] at hcp6
          have O6 := O4.app hro6 hgr6
          refine hK.out _ _ (SB.off (by kernel_rfl) ((HEv.out _ ((H5.out.trans (HW9.out.mono H5.out.size)).trans (O6.bel.mono (H5.out.trans (HW9.out.mono H5.out.size)).size))).1.1)) (fun hSB6 => ?_)
          clear hK K
          simp only [Act.put, List.getElem_toArray, List.getElem_cons_zero, List.getElem_cons_succ, List.setIfInBounds_toArray, List.set_cons_zero, List.set_cons_succ]
          refine wpAnyG_one (i := 7) (by kernel_rfl) rfl (fun K hK => ?_)
          go_simp
          have T7 := O6.two
          refine hK.out _ _ (SB.off (by kernel_rfl) ((HEv.out _ ((H5.out.trans (HW9.out.mono H5.out.size)).trans (T7.bel.mono (H5.out.trans (HW9.out.mono H5.out.size)).size))).1.1)) (fun hSB7 => ?_)
          clear hK K
          refine wpAnyG_one (i := 9) (by kernel_rfl) rfl (fun K hK => ?_)
          refine step_appIds _ (by rfl) _ _ (by rfl) w9.heap.size 0 m2 hc5 _ [] HS2 ha5 (by rfl) (by rfl) T7.symm.r ((HS2J.out.kept HW9.out).kept T7.symm.bel) HNL.out.2 (by omega) T7.symm.bel.size ?_
          intro ad9 cp9 u9 hcp9 hro9 hgr9 hat9
          rw [Nat.zero_add, List.nil_append] at hro9
          simp only [Nat.zero_add] at hat9 ⊢
          rw [Nat.zero_add] at hcp9
          have T9 := (T7.symm.app hro9 hgr9 hat9).symm
          refine hK.out _ _ (SB.off (by kernel_rfl) ((HEv.out _ ((H5.out.trans (HW9.out.mono H5.out.size)).trans (T9.bel.mono (H5.out.trans (HW9.out.mono H5.out.size)).size))).1.1)) (fun hSB9 => ?_)
          clear hK K
          simp only [Act.put, List.getElem_toArray, List.getElem_cons_zero, List.getElem_cons_succ, List.setIfInBounds_toArray, List.set_cons_zero, List.set_cons_succ]
          obtain ⟨_, _, ee, hIa⟩ := own_idsG T9.r
          cases ee
          obtain ⟨_, _, ee, hIb⟩ := own_idsG T9.r2
          cases ee
          obtain ⟨_, _, hISb, _⟩ := HEv.out _ ((H5.out.trans (HW9.out.mono H5.out.size)).trans (T9.bel.mono (H5.out.trans (HW9.out.mono H5.out.size)).size))
          have hbt := between_any _ s d st.os _ false F hISb (by have := HOS.out; omega) _ m1 _ HS1 hIa HR1.out hcp6 (by omega) _ m2 _ HS2 hIb HR2.out hcp9 (by omega)
          have hbt2 := btw_calls T9.bel hbt HEr.out
          refine wpAnyG_one (i := 10) (by kernel_rfl) rfl (fun K hK => ?_)
          refine step_between _ (by rfl) _ _ _ _ _ _ (by rfl) _ _ _ (by rfl) (by rfl) (by rfl) _ hbt2 ?_
          rintro v u10 ⟨⟨ga, gn, gc, rfl, hIg⟩, hBg⟩
          refine hK.out _ _ (SB.off (by kernel_rfl) ((HEv.out _ ((H5.out.trans (HW9.out.mono H5.out.size)).trans (hBg.mono (H5.out.trans (HW9.out.mono H5.out.size)).size))).1.1)) (fun hSB10 => ?_)
          clear hK K
          simp only [Act.put, List.getElem_toArray, List.getElem_cons_zero, List.getElem_cons_succ, List.setIfInBounds_toArray, List.set_cons_zero, List.set_cons_succ]
          refine wpAnyG_takeP (i := 11) (v := ?_) rfl (by kernel_rfl) (by kernel_rfl) (by kernel_rfl) (fun _ _ _ h => h) rfl (Or.inl ⟨by rfl, ?_⟩) (by assumption) ?_
          rotate_left
          · intro Y hY; go_simp; try with_reducible rfl
          intro hSB11
          simp only [Act.put, List.getElem_toArray, List.getElem_cons_zero, List.getElem_cons_succ, List.setIfInBounds_toArray, List.set_cons_zero, List.set_cons_succ]
          refine wpAnyG_takeP (i := 12) (v := ?_) rfl (by kernel_rfl) (by kernel_rfl) (by kernel_rfl) (fun _ _ _ h => h) rfl (Or.inl ⟨by rfl, ?_⟩) (by assumption) ?_
          rotate_left
          · intro Y hY; go_simp; try with_reducible rfl
          intro hSB12
          simp only [Act.put, List.getElem_toArray, List.getElem_cons_zero, List.getElem_cons_succ, List.setIfInBounds_toArray, List.set_cons_zero, List.set_cons_succ]
          refine wpAnyG_takeP (i := 13) (v := ?_) rfl (by kernel_rfl) (by kernel_rfl) (by kernel_rfl) (fun _ _ _ h => h) rfl (Or.inl ⟨by rfl, ?_⟩) (by assumption) ?_
          rotate_left
          · intro Y hY; go_simp; try with_reducible rfl
          intro hSB13
          simp only [Act.put, List.getElem_toArray, List.getElem_cons_zero, List.getElem_cons_succ, List.setIfInBounds_toArray, List.set_cons_zero, List.set_cons_succ]
          refine wpAnyG_takeP (i := 14) (v := ?_) rfl (by kernel_rfl) (by kernel_rfl) (by kernel_rfl) (fun _ _ _ h => h) rfl (Or.inl ⟨by rfl, ?_⟩) (by assumption) ?_
          rotate_left
          · intro Y hY; go_simp; try with_reducible rfl
          intro hSB14
          simp only [Act.put, List.getElem_toArray, List.getElem_cons_zero, List.getElem_cons_succ, List.setIfInBounds_toArray, List.set_cons_zero, List.set_cons_succ]
          refine wpAnyG_takeP (i := 15) (v := ?_) rfl (by kernel_rfl) (by kernel_rfl) (by kernel_rfl) (fun _ _ _ h => h) rfl (Or.inl ⟨by rfl, ?_⟩) (by assumption) ?_
          rotate_left
          · intro Y hY; go_simp; try with_reducible rfl
          intro hSB15
          simp only [Act.put, List.getElem_toArray, List.getElem_cons_zero, List.getElem_cons_succ, List.setIfInBounds_toArray, List.set_cons_zero, List.set_cons_succ]
          refine wpAnyG_done (by kernel_rfl) ?_ _
          go_wp2
          go_meet
          exact ⟨_, _, _, rfl, rfl, hBg, hIg⟩
        · go_simp
          have T7 := by have h := O4.two; rw [World.size_alloc] at h; exact h
          refine hK.out _ _ (SB.off (by kernel_rfl) ((HEv.out _ ((H5.out.trans (HW9.out.mono H5.out.size)).trans (T7.bel.mono (H5.out.trans (HW9.out.mono H5.out.size)).size))).1.1)) (fun hSB7 => ?_)
          clear hK K
          refine wpAnyG_one (i := 6) (by kernel_rfl) rfl (fun K hK => ?_)
          refine step_appIds _ (by rfl) _ _ (by rfl) w9.heap.size 0 m1 hc4 _ [] HS1 ha4 (by rfl) (by rfl) T7.r ((HS1J.out.kept HW9.out).kept T7.bel) HNL.out.1 (by omega) T7.bel.size ?_
          intro ad6 cp6 u6 hcp6 hro6 hgr6 hat6
          rw [Nat.zero_add, List.nil_append] at hro6
          simp only [Nat.zero_add] at hat6 ⊢
          rw [Nat.zero_add] at hcp6
          have T6 := T7.app hro6 hgr6 hat6
          refine hK.out _ _ (SB.off (by kernel_rfl) ((HEv.out _ ((H5.out.trans (HW9.out.mono H5.out.size)).trans (T6.bel.mono (H5.out.trans (HW9.out.mono H5.out.size)).size))).1.1)) (fun hSB6 => ?_)
          clear hK K
          simp only [Act.put, List.getElem_toArray, List.getElem_cons_zero, List.getElem_cons_succ, List.setIfInBounds_toArray, List.set_cons_zero, List.set_cons_succ]
          refine wpAnyG_one (i := 9) (by kernel_rfl) rfl (fun K hK => ?_)
          refine step_appIds _ (by rfl) _ _ (by rfl) w9.heap.size 0 m2 hc5 _ [] HS2 ha5 (by rfl) (by rfl) T6.symm.r ((HS2J.out.kept HW9.out).kept T6.symm.bel) HNL.out.2 (by omega) T6.symm.bel.size ?_
          intro ad9 cp9 u9 hcp9 hro9 hgr9 hat9
          rw [Nat.zero_add, List.nil_append] at hro9
          simp only [Nat.zero_add] at hat9 ⊢
          rw [Nat.zero_add] at hcp9
          have T9 := (T6.symm.app hro9 hgr9 hat9).symm
          refine hK.out _ _ (SB.off (by kernel_rfl) ((HEv.out _ ((H5.out.trans (HW9.out.mono H5.out.size)).trans (T9.bel.mono (H5.out.trans (HW9.out.mono H5.out.size)).size))).1.1)) (fun hSB9 => ?_)
          clear hK K
          simp only [Act.put, List.getElem_toArray, List.getElem_cons_zero, List.getElem_cons_succ, List.setIfInBounds_toArray, List.set_cons_zero, List.set_cons_succ]
          obtain ⟨_, _, ee, hIa⟩ := own_idsG T9.r
          cases ee
          obtain ⟨_, _, ee, hIb⟩ := own_idsG T9.r2
          cases ee
          obtain ⟨_, _, hISb, _⟩ := HEv.out _ ((H5.out.trans (HW9.out.mono H5.out.size)).trans (T9.bel.mono (H5.out.trans (HW9.out.mono H5.out.size)).size))
          have hbt := between_any _ s d st.os _ false F hISb (by have := HOS.out; omega) _ m1 _ HS1 hIa HR1.out hcp6 (by omega) _ m2 _ HS2 hIb HR2.out hcp9 (by omega)
          have hbt2 := btw_calls T9.bel hbt HEr.out
          refine wpAnyG_one (i := 10) (by kernel_rfl) rfl (fun K hK => ?_)
          refine step_between _ (by rfl) _ _ _ _ _ _ (by rfl) _ _ _ (by rfl) (by rfl) (by rfl) _ hbt2 ?_
          rintro v u10 ⟨⟨ga, gn, gc, rfl, hIg⟩, hBg⟩
          refine hK.out _ _ (SB.off (by kernel_rfl) ((HEv.out _ ((H5.out.trans (HW9.out.mono H5.out.size)).trans (hBg.mono (H5.out.trans (HW9.out.mono H5.out.size)).size))).1.1)) (fun hSB10 => ?_)
          clear hK K
          simp only [Act.put, List.getElem_toArray, List.getElem_cons_zero, List.getElem_cons_succ, List.setIfInBounds_toArray, List.set_cons_zero, List.set_cons_succ]
          refine wpAnyG_takeP (i := 11) (v := ?_) rfl (by kernel_rfl) (by kernel_rfl) (by kernel_rfl) (fun _ _ _ h => h) rfl (Or.inl ⟨by rfl, ?_⟩) (by assumption) ?_
          rotate_left
          · intro Y hY; go_simp; try with_reducible rfl
          intro hSB11
          simp only [Act.put, List.getElem_toArray, List.getElem_cons_zero, List.getElem_cons_succ, List.setIfInBounds_toArray, List.set_cons_zero, List.set_cons_succ]
          refine wpAnyG_takeP (i := 12) (v := ?_) rfl (by kernel_rfl) (by kernel_rfl) (by kernel_rfl) (fun _ _ _ h => h) rfl (Or.inl ⟨by rfl, ?_⟩) (by assumption) ?_
          rotate_left
          · intro Y hY; go_simp; try with_reducible rfl
          intro hSB12
          simp only [Act.put, List.getElem_toArray, List.getElem_cons_zero, List.getElem_cons_succ, List.setIfInBounds_toArray, List.set_cons_zero, List.set_cons_succ]
          refine wpAnyG_takeP (i := 13) (v := ?_) rfl (by kernel_rfl) (by kernel_rfl) (by kernel_rfl) (fun _ _ _ h => h) rfl (Or.inl ⟨by rfl, ?_⟩) (by assumption) ?_
          rotate_left
          · intro Y hY; go_simp; try with_reducible rfl
          intro hSB13
          simp only [Act.put, List.getElem_toArray, List.getElem_cons_zero, List.getElem_cons_succ, List.setIfInBounds_toArray, List.set_cons_zero, List.set_cons_succ]
          refine wpAnyG_takeP (i := 14) (v := ?_) rfl (by kernel_rfl) (by kernel_rfl) (by kernel_rfl) (fun _ _ _ h => h) rfl (Or.inl ⟨by rfl, ?_⟩) (by assumption) ?_
          rotate_left
          · intro Y hY; go_simp; try with_reducible rfl
          intro hSB14
          simp only [Act.put, List.getElem_toArray, List.getElem_cons_zero, List.getElem_cons_succ, List.setIfInBounds_toArray, List.set_cons_zero, List.set_cons_succ]
          refine wpAnyG_takeP (i := 15) (v := ?_) rfl (by kernel_rfl) (by kernel_rfl) (by kernel_rfl) (fun _ _ _ h => h) rfl (Or.inl ⟨by rfl, ?_⟩) (by assumption) ?_
          rotate_left
          · intro Y hY; go_simp; try with_reducible rfl
          intro hSB15
          simp only [Act.put, List.getElem_toArray, List.getElem_cons_zero, List.getElem_cons_succ, List.setIfInBounds_toArray, List.set_cons_zero, List.set_cons_succ]
          refine wpAnyG_done (by kernel_rfl) ?_ _
          go_wp2
          go_meet
          exact ⟨_, _, _, rfl, rfl, hBg, hIg⟩
      · go_simp
        have O7 := OneR.start (below_drewN (Below.refl _ w9) 1)
        refine hK.out _ _ (SB.off (by kernel_rfl) ((HEv.out _ ((H5.out.trans (HW9.out.mono H5.out.size)).trans (O7.bel.mono (H5.out.trans (HW9.out.mono H5.out.size)).size))).1.1)) (fun hSB7 => ?_)
        clear hK K
        refine wpAnyG_one (i := 4) (by kernel_rfl) rfl (fun K hK => ?_)
        go_simp
        have T4 := by have h := O7.two.symm; rw [World.size_alloc] at h; exact h
        refine hK.out _ _ (SB.off (by kernel_rfl) ((HEv.out _ ((H5.out.trans (HW9.out.mono H5.out.size)).trans (T4.bel.mono (H5.out.trans (HW9.out.mono H5.out.size)).size))).1.1)) (fun hSB4 => ?_)
        clear hK K
        refine wpAnyG_one (i := 6) (by kernel_rfl) rfl (fun K hK => ?_)
        refine step_appIds _ (by rfl) _ _ (by rfl) w9.heap.size 0 m1 hc4 _ [] HS1 ha4 (by rfl) (by rfl) T4.r ((HS1J.out.kept HW9.out).kept T4.bel) HNL.out.1 (by omega) T4.bel.size ?_
        intro ad6 cp6 u6 hcp6 hro6 hgr6 hat6
        rw [Nat.zero_add, List.nil_append] at hro6
        simp only [Nat.zero_add] at hat6 ⊢
        rw [Nat.zero_add] at hcp6
        have T6 := T4.app hro6 hgr6 hat6
        refine hK.out _ _ (SB.off (by kernel_rfl) ((HEv.out _ ((H5.out.trans (HW9.out.mono H5.out.size)).trans (T6.bel.mono (H5.out.trans (HW9.out.mono H5.out.size)).size))).1.1)) (fun hSB6 => ?_)
        clear hK K
        simp only [Act.put, List.getElem_toArray, List.getElem_cons_zero, List.getElem_cons_succ, List.setIfInBounds_toArray, List.set_cons_zero, List.set_cons_succ]
        refine wpAnyG_one (i := 9) (by kernel_rfl) rfl (fun K hK => ?_)
        refine step_appIds _ (by rfl) _ _ (by rfl) w9.heap.size 0 m2 hc5 _ [] HS2 ha5 (by rfl) (by rfl) T6.symm.r ((HS2J.out.kept HW9.out).kept T6.symm.bel) HNL.out.2 (by omega) T6.symm.bel.size ?_
        intro ad9 cp9 u9 hcp9 hro9 hgr9 hat9
        rw [Nat.zero_add, List.nil_append] at hro9
        simp only [Nat.zero_add] at hat9 ⊢
        rw [Nat.zero_add] at hcp9
        have T9 := (T6.symm.app hro9 hgr9 hat9).symm
        refine hK.out _ _ (SB.off (by kernel_rfl) ((HEv.out _ ((H5.out.trans (HW9.out.mono H5.out.size)).trans (T9.bel.mono (H5.out.trans (HW9.out.mono H5.out.size)).size))).1.1)) (fun hSB9 => ?_)
        clear hK K
        simp only [Act.put, List.getElem_toArray, List.getElem_cons_zero, List.getElem_cons_succ, List.setIfInBounds_toArray, List.set_cons_zero, List.set_cons_succ]
        obtain ⟨_, _, ee, hIa⟩ := own_idsG T9.r
        cases ee
        obtain ⟨_, _, ee, hIb⟩ := own_idsG T9.r2
        cases ee
        obtain ⟨_, _, hISb, _⟩ := HEv.out _ ((H5.out.trans (HW9.out.mono H5.out.size)).trans (T9.bel.mono (H5.out.trans (HW9.out.mono H5.out.size)).size))
        have hbt := between_any _ s d st.os _ false F hISb (by have := HOS.out; omega) _ m1 _ HS1 hIa HR1.out hcp6 (by omega) _ m2 _ HS2 hIb HR2.out hcp9 (by omega)
        have hbt2 := btw_calls T9.bel hbt HEr.out
        refine wpAnyG_one (i := 10) (by kernel_rfl) rfl (fun K hK => ?_)
        refine step_between _ (by rfl) _ _ _ _ _ _ (by rfl) _ _ _ (by rfl) (by rfl) (by rfl) _ hbt2 ?_
        rintro v u10 ⟨⟨ga, gn, gc, rfl, hIg⟩, hBg⟩
        refine hK.out _ _ (SB.off (by kernel_rfl) ((HEv.out _ ((H5.out.trans (HW9.out.mono H5.out.size)).trans (hBg.mono (H5.out.trans (HW9.out.mono H5.out.size)).size))).1.1)) (fun hSB10 => ?_)
        clear hK K
        simp only [Act.put, List.getElem_toArray, List.getElem_cons_zero, List.getElem_cons_succ, List.setIfInBounds_toArray, List.set_cons_zero, List.set_cons_succ]
        refine wpAnyG_takeP (i := 11) (v := ?_) rfl (by kernel_rfl) (by kernel_rfl) (by kernel_rfl) (fun _ _ _ h => h) rfl (Or.inl ⟨by rfl, ?_⟩) (by assumption) ?_
        rotate_left
        · intro Y hY; go_simp; try with_reducible rfl
        intro hSB11
        simp only [Act.put, List.getElem_toArray, List.getElem_cons_zero, List.getElem_cons_succ, List.setIfInBounds_toArray, List.set_cons_zero, List.set_cons_succ]
        refine wpAnyG_takeP (i := 12) (v := ?_) rfl (by kernel_rfl) (by kernel_rfl) (by kernel_rfl) (fun _ _ _ h => h) rfl (Or.inl ⟨by rfl, ?_⟩) (by assumption) ?_
        rotate_left
        · intro Y hY; go_simp; try with_reducible rfl
        intro hSB12
        simp only [Act.put, List.getElem_toArray, List.getElem_cons_zero, List.getElem_cons_succ, List.setIfInBounds_toArray, List.set_cons_zero, List.set_cons_succ]
        refine wpAnyG_takeP (i := 13) (v := ?_) rfl (by kernel_rfl) (by kernel_rfl) (by kernel_rfl) (fun _ _ _ h => h) rfl (Or.inl ⟨by rfl, ?_⟩) (by assumption) ?_
        rotate_left
        · intro Y hY; go_simp; try with_reducible rfl
        intro hSB13
        simp only [Act.put, List.getElem_toArray, List.getElem_cons_zero, List.getElem_cons_succ, List.setIfInBounds_toArray, List.set_cons_zero, List.set_cons_succ]
        refine wpAnyG_takeP (i := 14) (v := ?_) rfl (by kernel_rfl) (by kernel_rfl) (by kernel_rfl) (fun _ _ _ h => h) rfl (Or.inl ⟨by rfl, ?_⟩) (by assumption) ?_
        rotate_left
        · intro Y hY; go_simp; try with_reducible rfl
        intro hSB14
        simp only [Act.put, List.getElem_toArray, List.getElem_cons_zero, List.getElem_cons_succ, List.setIfInBounds_toArray, List.set_cons_zero, List.set_cons_succ]
        refine wpAnyG_takeP (i := 15) (v := ?_) rfl (by kernel_rfl) (by kernel_rfl) (by kernel_rfl) (fun _ _ _ h => h) rfl (Or.inl ⟨by rfl, ?_⟩) (by assumption) ?_
        rotate_left
        · intro Y hY; go_simp; try with_reducible rfl
        intro hSB15
        simp only [Act.put, List.getElem_toArray, List.getElem_cons_zero, List.getElem_cons_succ, List.setIfInBounds_toArray, List.set_cons_zero, List.set_cons_succ]
        refine wpAnyG_done (by kernel_rfl) ?_ _
        go_wp2
        go_meet
        exact ⟨_, _, _, rfl, rfl, hBg, hIg⟩
    case rest =>
      obtain ⟨ga, gn, gc, hv1, hv2, hG⟩ := hcut
      subst hv1
      subst hv2
      have hEW : Er = Wr := by rw [← HEr.out, ← HWr.out]; exact parts_err _ _ _
      subst hEW
      have HG : Hid (Below w9.heap.size w9 wc ∧ Ids wc ga gn (lstR (btwG st.os HS1 HS2))) := hG.out
      clear hG
      have HWc : Hid (Below w5.heap.size w5 wc) := HW9.out.trans (HG.out.1.mono HW9.out.size)
      have HIg : Hid (Ids wc ga gn (lstR (btwG st.os HS1 HS2))) := HG.out.2
      clear HG c0 hIS
      obtain ⟨⟨c0, _, _⟩, _, hIS, _⟩ := HEv.out wc (H5.out.trans (HWc.out.mono H5.out.size))
      have hro := roots_any wc s d st.os _ false F hIS (by have := HOS.out; omega) ha5 m2 hc5 HS2 (HS2J.out.kept HWc.out) HR2.out hn5 (by omega)
      clear hIS
      cases hR2 : ordG st.os HS2 GS.none with
      | bad e2 =>
        rw [hR2] at hro
        go_wp2_with fail
        refine hro.mono ?_
        clear hro c0
        rintro e w10 ⟨hB10, he10, hne10⟩
        subst he10
        have HW10 : Hid (Below w5.heap.size w5 w10) := HWc.out.trans (hB10.mono HWc.out.size)
        have HIg0 : Hid (Ids w10 ga gn (lstR (btwG st.os HS1 HS2))) := HIg.out.kept hB10
        clear hB10
        obtain ⟨⟨_, c1, _⟩, _, _, hNE⟩ := HEv.out w10 (H5.out.trans (HW10.out.mono H5.out.size))
        have hdo := order11_any w10 na ns.length nc ns hNE rfl (st.os.length + 2) HFu.out ha5 m2 hc5 HS2 (HS2J.out.kept HW10.out) (by omega)
        rw [ord_same HNI.out ns HI2.out.1 HS2 HEM.out.2, hR2] at hdo
        have hWn : Er ≠ 0 ∧ gn = 0 := by
          have h1 : ∃ e, ordG st.os (HS1 ++ HS2) GS.none = .bad e ∧ btwG st.os HS1 HS2 = .bad e := by
            cases hR1 : ordG st.os HS1 GS.none with
            | bad e1 => exact ⟨e1, appG_bad hR1, btw_bad hR1⟩
            | ok g1 => exact ⟨e2, appG_bad2 hR1 hR2, btw_bad2 hR1 hR2⟩
          obtain ⟨e, h2, h3⟩ := h1
          have h4 := HEn.out e h2
          have h5 := HWr.out
          rw [h2] at h5
          have h6 := HIg.out.1
          rw [h3] at h6
          exact ⟨fun h => h4 (h5.trans h), h6.symm⟩
        obtain ⟨hWn1, hWn2⟩ := hWn
        have hWn3 : (Er == 0) = false := beq_eq_false_iff_ne.2 hWn1
        subst hWn2
        clear hNE
        go_wp2_with fail
        refine hdo.mono ?_
        clear hdo c1
        rintro e w11 ⟨⟨hB11, _⟩, he11, _⟩
        subst he11
        have HW11 : Hid (Below w5.heap.size w5 w11) := HW10.out.trans (hB11.mono HW10.out.size)
        clear hB11
        go_wp2_with fail
        go_loopw [19, 105] (fun f v wr => f = .slice none 0 0 ∧ v = .int .i64 0 ∧ Hid (wr = w11)) (fun _ _ _ => 0)
        case atStart => exact ⟨rfl, rfl, rfl⟩
        case round =>
          obtain ⟨rfl, rfl, H⟩ := hrel
          have hwr := H.out
          clear H
          subst hwr
          have hsm := gsame_any wr none none 0 0 0 0 [] [] ⟨rfl, fun h => by omega⟩ ⟨rfl, fun h => by omega⟩ (by omega) (by omega)
          rw [beq_self_eq_true] at hsm
          clear hne10
          go_wp2_with fail
          refine hsm.mono ?_
          clear hsm
          rintro e w12 ⟨rfl, hB12⟩
          have H12 : Hid (Below w.heap.size w w12) := H5w.out.trans ((HW11.out.trans (hB12.mono HW11.out.size)).mono H5w.out.size)
          clear hB12
          go_wp2
          go_ret
          exact ⟨rfl, H12.out⟩
      | ok g3 =>
        rw [hR2] at hro
        have hNP := node_par HNI.out ns HI2.out.1 hR2
        have hRF : rootsG st.os g3.ord = rootN ns g3.ord := roots_first _ hNP
        have HNP : Hid (∀ i ∈ g3.ord, ∃ ps, parsN ns i = some ps ∧ parsO st.os i = some ps) := hNP
        have hgl : g3.ord.length ≤ 25 := Nat.le_trans (ord_len hR2) HOS.out
        have hrl : (rootN ns g3.ord).length ≤ 25 := Nat.le_trans (List.length_filter_le _ _) hgl
        clear hNP
        go_wp2_with fail
        refine hro.mono ?_
        clear hro c0
        rintro e w10 ⟨hB10, ad10, cp10, he10, hr10⟩
        rw [hRF] at he10 hr10
        obtain ⟨_, _, ee, hI10⟩ := own_idsG hr10
        cases ee
        subst he10
        clear hr10 hRF
        generalize hRL : (rootN ns g3.ord).length = RL at *
        have HRL : Hid ((rootN ns g3.ord).length = RL) := hRL
        clear hRL
        have HI10 : Hid (Ids w10 ad10 RL (rootN ns g3.ord)) := hI10
        have HW10 : Hid (Below w5.heap.size w5 w10) := HWc.out.trans (hB10.mono HWc.out.size)
        have HIg0 : Hid (Ids w10 ga gn (lstR (btwG st.os HS1 HS2))) := HIg.out.kept hB10
        clear hB10 hI10
        obtain ⟨⟨_, c1, _⟩, _, _, hNE⟩ := HEv.out w10 (H5.out.trans (HW10.out.mono H5.out.size))
        have hdo := order11_any w10 na ns.length nc ns hNE rfl (st.os.length + 2) HFu.out ha5 m2 hc5 HS2 (HS2J.out.kept HW10.out) (by omega)
        rw [ord_same HNI.out ns HI2.out.1 HS2 HEM.out.2, hR2] at hdo
        clear hNE
        go_wp2_with fail
        refine hdo.mono ?_
        clear hdo c1
        rintro e w11 ⟨⟨hB11, _⟩, ad11, cp11, he11, hr11⟩
        subst he11
        obtain ⟨_, _, ee, hI11⟩ := own_ids hr11
        cases ee
        have HW11 : Hid (Below w5.heap.size w5 w11) := HW10.out.trans (hB11.mono HW10.out.size)
        have HI11 : Hid (Ids w11 ad11 g3.ord.length g3.ord ∧ Ids w11 ad10 RL (rootN ns g3.ord) ∧ Ids w11 ga gn (lstR (btwG st.os HS1 HS2))) := ⟨hI11, HI10.out.kept hB11, HIg0.out.kept hB11⟩
        clear hB11 hr11 hI11 HI10 HIg0
        generalize hGL : g3.ord.length = GL at *
        have HGL : Hid (g3.ord.length = GL) := hGL
        clear hGL
        go_wp2_with fail
        have HST : Hid (0 = (((g3.ord.take 0).filter fun i => decide ((parsN ns i).getD [] = []))).length ∧ w11.ownsRow w11.heap.size 31 1 (.slice none 0 0) 0 (((g3.ord.take 0).filter fun i => decide ((parsN ns i).getD [] = [])).map (Value.int .u64)) ∧ Below w11.heap.size w11 w11) := ⟨by simp, World.ownsRow_nil _ _ _ _, Below.refl _ _⟩
        go_loopg [19, 105] GL (fun g v i wr => ∃ (k m : Nat) (fa : Option Addr) (fc : Nat), k + g = GL ∧ k ≤ GL ∧ m ≤ k ∧ i = .int .i64 (k : Int) ∧ v = .slice fa m fc ∧ Hid (m = ((g3.ord.take k).filter fun i => decide ((parsN ns i).getD [] = [])).length ∧ wr.ownsRow w11.heap.size 31 1 (.slice fa m fc) m (((g3.ord.take k).filter fun i => decide ((parsN ns i).getD [] = [])).map (Value.int .u64)) ∧ Below w11.heap.size w11 wr))
        case atStart => exact ⟨0, 0, none, 0, by omega, Nat.zero_le _, Nat.zero_le _, rfl, rfl, HST.out⟩
        case round =>
          clear HST
          obtain ⟨k, m, fa, fc, hkg, hk, hmk, rfl, rfl, H⟩ := hrel
          cases gk with
          | succ gk =>
            have hlt : k < GL := by omega
            obtain ⟨x, hx⟩ : ∃ x, g3.ord[k]? = some x := ⟨_, List.getElem?_eq_getElem (by rw [HGL.out]; exact hlt)⟩
            obtain ⟨hm1, hrow, hB⟩ := H.out
            have hBw := HW11.out.trans (hB.mono HW11.out.size)
            obtain ⟨⟨_, c1, _⟩, _, _, hNE⟩ := HEv.out wr (H5.out.trans (hBw.mono H5.out.size))
            obtain ⟨hNd, hNp⟩ := hNE.at_ wr (Below.refl _ _)
            obtain ⟨ps, hps, _⟩ := HNP.out x (List.mem_of_getElem? hx)
            have hpar := parents11_any wr na ns.length nc ns hNd (by omega) x ps hps
            obtain ⟨b1, o1, hoa, hc1⟩ := (HI11.out.1.kept hB).2 (by omega)
            subst hoa
            have q0 := hc1 k x hx
            have hst := filter_take (fun i => decide ((parsN ns i).getD [] = [])) g3.ord k x hx
            have HNp : Hid (∀ x ∈ ns, Ids wr x.pa x.pn x.ps) := hNp
            have i2 : (k : Int) < (GL : Int) := by omega
            have i3 : ¬ GL ≤ k := by omega
            have HJ : Hid (k + 1 + gk = GL ∧ k + 1 ≤ GL) := ⟨by omega, by omega⟩
            clear hc1 hx H hNE hNd hNp
            have HR : Hid (m = ((g3.ord.take k).filter fun i => decide ((parsN ns i).getD [] = [])).length ∧ wr.ownsRow w11.heap.size 31 1 (.slice fa m fc) m (((g3.ord.take k).filter fun i => decide ((parsN ns i).getD [] = [])).map (Value.int .u64)) ∧ Below w11.heap.size w11 wr) := ⟨hm1, hrow, hB⟩
            clear hm1 hrow hB hBw
            by_cases hz : ps = []
            · have hst2 : (g3.ord.take (k + 1)).filter (fun i => decide ((parsN ns i).getD [] = [])) = (g3.ord.take k).filter (fun i => decide ((parsN ns i).getD [] = [])) ++ [x] := by rw [hst, if_pos (by rw [hps]; simpa using hz)]
              have HST2 : Hid ((g3.ord.take (k + 1)).filter (fun i => decide ((parsN ns i).getD [] = [])) = (g3.ord.take k).filter (fun i => decide ((parsN ns i).getD [] = [])) ++ [x]) := hst2
              clear hst hst2
              go_wp2_with fail
              refine hpar.mono ?_
              clear hpar
              rintro e w12 ⟨nd, hnd, hnp, rfl, h1⟩
              subst h1
              have hpn : nd.pn = 0 := by have := (HNp.out nd hnd).1; rw [hnp, hz] at this; exact this.symm
              rw [hpn]
              clear hnd hnp hpn HNp
              go_wp2_with (at_builtin; refine wpList_app_id x _ rfl _ _ rfl w11.heap.size m (.slice fa m fc) _ (by rfl) (by rfl) HR.out.2.1 (by omega) HR.out.2.2.size ?_; intro ad13 cp13 w13 hcp13 hrow13 hB13)
              have HN : Hid (m + 1 = ((g3.ord.take (k + 1)).filter fun i => decide ((parsN ns i).getD [] = [])).length ∧ w13.ownsRow w11.heap.size 31 1 (.slice ad13 (m + 1) cp13) (m + 1) (((g3.ord.take (k + 1)).filter fun i => decide ((parsN ns i).getD [] = [])).map (Value.int .u64)) ∧ Below w11.heap.size w11 w13) := by
                rw [HST2.out]
                refine ⟨by rw [List.length_append, ← HR.out.1]; rfl, hrow13, HR.out.2.2.trans hB13⟩
              clear hrow13 hB13
              go_roundg gk
              case measure => omega
              case rel => exact ⟨k + 1, m + 1, ad13, cp13, HJ.out.1, HJ.out.2, by omega, by simp, rfl, HN.out⟩
            · have hst2 : (g3.ord.take (k + 1)).filter (fun i => decide ((parsN ns i).getD [] = [])) = (g3.ord.take k).filter (fun i => decide ((parsN ns i).getD [] = [])) := by rw [hst, if_neg (by rw [hps]; simpa using hz)]
              have HN : Hid (m = ((g3.ord.take (k + 1)).filter fun i => decide ((parsN ns i).getD [] = [])).length ∧ wr.ownsRow w11.heap.size 31 1 (.slice fa m fc) m (((g3.ord.take (k + 1)).filter fun i => decide ((parsN ns i).getD [] = [])).map (Value.int .u64)) ∧ Below w11.heap.size w11 wr) := by rw [hst2]; exact HR.out
              clear hst hst2 HR
              go_wp2_with fail
              refine hpar.mono ?_
              clear hpar
              rintro e w12 ⟨nd, hnd, hnp, rfl, h1⟩
              subst h1
              have hpn : nd.pn ≠ 0 := fun e => hz (by have := (HNp.out nd hnd).1; rw [hnp, e] at this; exact List.eq_nil_of_length_eq_zero this)
              have hpn2 : ((nd.pn : Int) == 0) = false := by simp; omega
              have hpn3 : ¬ (nd.pn : Int) = 0 := by omega
              clear hnd hnp HNp
              go_wp2
              go_roundg gk
              case measure => omega
              case rel => exact ⟨k + 1, m, fa, fc, HJ.out.1, HJ.out.2, by omega, by simp, rfl, HN.out⟩
          | zero =>
            obtain rfl : k = GL := by omega
            have i2 : ¬ (k : Int) < (k : Int) := by omega
            obtain ⟨hm1, hrow, hB⟩ := H.out
            rw [List.take_of_length_le (by rw [HGL.out]; exact Nat.le_refl _)] at hm1 hrow
            have hml : m = RL := by rw [hm1]; exact HRL.out
            subst hml
            obtain ⟨_, _, ee, hIf⟩ := own_idsG hrow
            cases ee
            have hIf2 : Ids wr fa m (rootN ns g3.ord) := hIf
            have HW12 : Hid (Below w5.heap.size w5 wr) := HW11.out.trans (hB.mono HW11.out.size)
            have hsm := gsame_any wr ad10 fa m m cp10 fc _ _ (HI11.out.2.1.kept hB) hIf2 (by omega) (by omega)
            rw [beq_self_eq_true] at hsm
            have HI12 : Hid (Ids wr ad11 k g3.ord ∧ Ids wr ga gn (lstR (btwG st.os HS1 HS2))) := ⟨HI11.out.1.kept hB, HI11.out.2.2.kept hB⟩
            clear hm1 hrow hB H hIf hIf2 HI11
            go_wp2_with fail
            refine hsm.mono ?_
            clear hsm
            rintro e w13 ⟨rfl, hB13⟩
            have HW13 : Hid (Below w5.heap.size w5 w13) := HW12.out.trans (hB13.mono HW12.out.size)
            have HI13 : Hid (Ids w13 ad11 k g3.ord ∧ Ids w13 ga gn (lstR (btwG st.os HS1 HS2))) := ⟨HI12.out.1.kept hB13, HI12.out.2.kept hB13⟩
            clear hB13 HI12 HW12 i2
            cases hR1 : ordG st.os HS1 GS.none with
            | bad e1 =>
              have h2 := appG_bad (m := HS2) hR1
              have h3 := btw_bad (l2 := HS2) hR1
              have h4 := HEn.out _ h2
              have h5 := HWr.out
              rw [h2] at h5
              have h6 := HI13.out.2.1
              rw [h3] at h6
              have h7 : Er ≠ 0 := fun h => h4 (h5.trans h)
              have h8 : (Er == 0) = false := beq_eq_false_iff_ne.2 h7
              have h9 : gn = 0 := h6.symm
              subst h9
              have H13 : Hid (Below w.heap.size w w13) := H5w.out.trans (HW13.out.mono H5w.out.size)
              clear h2 h3 h4 h5 h6
              go_wp2
              go_ret
              exact ⟨rfl, H13.out⟩
            | ok g1 =>
              have hE0 : Er = 0 := by
                obtain ⟨g, hg⟩ := appG_ok hR1 hR2
                have := HWr.out
                rw [hg] at this
                exact this.symm
              subst hE0
              obtain ⟨g2, hg2, hf2⟩ := btw_ok hR1 hR2
              have HF : Hid (lstR (btwG st.os HS1 HS2) = g3.ord.filter (fun y => decide (y ∉ g1.ord)) ∧ g1.ord.length ≤ 25) := ⟨by rw [hg2]; exact hf2, Nat.le_trans (ord_len hR1) HOS.out⟩
              clear hg2 hf2
              obtain ⟨⟨_, c1, _⟩, _, _, hNE⟩ := HEv.out w13 (H5.out.trans (HW13.out.mono H5.out.size))
              have hdo := order11_any w13 na ns.length nc ns hNE rfl (st.os.length + 2) HFu.out ha4 m1 hc4 HS1 (HS1J.out.kept HW13.out) (by omega)
              rw [ord_same HNI.out ns HI2.out.1 HS1 HEM.out.1, hR1] at hdo
              clear hNE
              go_wp2_with fail
              refine hdo.mono ?_
              clear hdo c1
              rintro e w14 ⟨⟨hB14, _⟩, ad14, cp14, he14, hr14⟩
              subst he14
              obtain ⟨_, _, ee, hI14⟩ := own_ids hr14
              cases ee
              have HW14 : Hid (Below w5.heap.size w5 w14) := HW13.out.trans (hB14.mono HW13.out.size)
              have HI14 : Hid (Ids w14 ad11 k g3.ord ∧ Ids w14 ga gn (lstR (btwG st.os HS1 HS2)) ∧ Ids w14 ad14 g1.ord.length g1.ord) := ⟨HI13.out.1.kept hB14, HI13.out.2.kept hB14, hI14⟩
              have hl1 : g1.ord.length ≤ 25 := HF.out.2
              clear hB14 hr14 hI14 HI13
              generalize hG1 : g1.ord.length = G1 at *
              clear hG1
              go_wp2_with fail
              have HST : Hid (0 = (((g3.ord.take 0).filter fun y => decide (y ∉ g1.ord))).length ∧ w14.ownsRow w14.heap.size 31 1 (.slice none 0 0) 0 (((g3.ord.take 0).filter fun y => decide (y ∉ g1.ord)).map (Value.int .u64)) ∧ Below w14.heap.size w14 w14) := ⟨by simp, World.ownsRow_nil _ _ _ _, Below.refl _ _⟩
              go_loopg [24, 142] k (fun g v i wr => ∃ (q m : Nat) (fa : Option Addr) (fc : Nat), q + g = k ∧ q ≤ k ∧ m ≤ q ∧ i = .int .i64 (q : Int) ∧ v = .slice fa m fc ∧ Hid (m = ((g3.ord.take q).filter fun y => decide (y ∉ g1.ord)).length ∧ wr.ownsRow w14.heap.size 31 1 (.slice fa m fc) m (((g3.ord.take q).filter fun y => decide (y ∉ g1.ord)).map (Value.int .u64)) ∧ Below w14.heap.size w14 wr))
              case atStart => exact ⟨0, 0, none, 0, by omega, Nat.zero_le _, Nat.zero_le _, rfl, rfl, HST.out⟩
              case round =>
                clear HST
                obtain ⟨q, m2', fa2, fc2, hqg, hq, hmq, rfl, rfl, H⟩ := hrel
                cases gk with
                | succ gk =>
                  have hlt : q < k := by omega
                  obtain ⟨x, hx⟩ : ∃ x, g3.ord[q]? = some x := ⟨_, List.getElem?_eq_getElem (by rw [HGL.out]; exact hlt)⟩
                  obtain ⟨b1, o1, hoa, hc1⟩ := (HI14.out.1.kept H.out.2.2).2 (by omega)
                  subst hoa
                  have q0 := hc1 q x hx
                  have hst := filter_take (fun y => decide (y ∉ g1.ord)) g3.ord q x hx
                  have hhs := has11_any wr ad14 G1 cp14 g1.ord (HI14.out.2.2.kept H.out.2.2) (by omega) x
                  have i2 : (q : Int) < (k : Int) := by omega
                  have i3 : ¬ k ≤ q := by omega
                  have HJ : Hid (q + 1 + gk = k ∧ q + 1 ≤ k) := ⟨by omega, by omega⟩
                  have HR : Hid (m2' = ((g3.ord.take q).filter fun y => decide (y ∉ g1.ord)).length ∧ wr.ownsRow w14.heap.size 31 1 (.slice fa2 m2' fc2) m2' (((g3.ord.take q).filter fun y => decide (y ∉ g1.ord)).map (Value.int .u64)) ∧ Below w14.heap.size w14 wr) := H.out
                  clear hc1 hx H
                  by_cases hz : x ∈ g1.ord
                  · have hz2 : g1.ord.contains x = true := by simpa using hz
                    rw [hz2] at hhs
                    have HN : Hid (m2' = ((g3.ord.take (q + 1)).filter fun y => decide (y ∉ g1.ord)).length ∧ wr.ownsRow w14.heap.size 31 1 (.slice fa2 m2' fc2) m2' (((g3.ord.take (q + 1)).filter fun y => decide (y ∉ g1.ord)).map (Value.int .u64)) ∧ Below w14.heap.size w14 wr) := by
                      rw [hst, if_neg (by simpa using hz)]; exact HR.out
                    clear hst HR hz hz2
                    go_wp2_with fail
                    refine hhs.mono ?_
                    clear hhs
                    rintro e w15 ⟨rfl, h1⟩
                    subst h1
                    go_wp2
                    go_roundg gk
                    case measure => omega
                    case rel => exact ⟨q + 1, m2', fa2, fc2, HJ.out.1, HJ.out.2, by omega, by simp, rfl, HN.out⟩
                  · have hz2 : g1.ord.contains x = false := by simpa using hz
                    rw [hz2] at hhs
                    have HST2 : Hid ((g3.ord.take (q + 1)).filter (fun y => decide (y ∉ g1.ord)) = (g3.ord.take q).filter (fun y => decide (y ∉ g1.ord)) ++ [x]) := by
                      have := hst
                      rw [if_pos (by simpa using hz)] at this
                      exact this
                    clear hst hz hz2
                    go_wp2_with fail
                    refine hhs.mono ?_
                    clear hhs
                    rintro e w15 ⟨rfl, h1⟩
                    subst h1
                    go_wp2_with (at_builtin; refine wpList_app_id x _ rfl _ _ rfl w14.heap.size m2' (.slice fa2 m2' fc2) _ (by rfl) (by rfl) HR.out.2.1 (by omega) HR.out.2.2.size ?_; intro ad16 cp16 w16 hcp16 hrow16 hB16)
                    have HN : Hid (m2' + 1 = ((g3.ord.take (q + 1)).filter fun y => decide (y ∉ g1.ord)).length ∧ w16.ownsRow w14.heap.size 31 1 (.slice ad16 (m2' + 1) cp16) (m2' + 1) (((g3.ord.take (q + 1)).filter fun y => decide (y ∉ g1.ord)).map (Value.int .u64)) ∧ Below w14.heap.size w14 w16) := by
                      rw [HST2.out]
                      refine ⟨by rw [List.length_append, ← HR.out.1]; rfl, hrow16, HR.out.2.2.trans hB16⟩
                    clear hrow16 hB16
                    go_roundg gk
                    case measure => omega
                    case rel => exact ⟨q + 1, m2' + 1, ad16, cp16, HJ.out.1, HJ.out.2, by omega, by simp, rfl, HN.out⟩
                | zero =>
                  obtain rfl : q = k := by omega
                  have i2 : ¬ (q : Int) < (q : Int) := by omega
                  obtain ⟨hm1, hrow, hB⟩ := H.out
                  rw [List.take_of_length_le (by rw [HGL.out]; exact Nat.le_refl _), ← HF.out.1] at hm1 hrow
                  have hIg := HI14.out.2.1.kept hB
                  have hml : gn = m2' := by rw [hm1]; exact hIg.1.symm
                  subst hml
                  obtain ⟨_, _, ee, hIf⟩ := own_idsG hrow
                  cases ee
                  have hsm := gsame_any wr ga fa2 gn gn gc fc2 _ _ hIg hIf (by omega) (by omega)
                  rw [beq_self_eq_true] at hsm
                  have HW15 : Hid (Below w.heap.size w wr) := H5w.out.trans ((HW14.out.trans (hB.mono HW14.out.size)).mono H5w.out.size)
                  clear hm1 hrow hB H hIf hIg HI14
                  go_wp2_with fail
                  refine hsm.mono ?_
                  clear hsm
                  rintro e w16 ⟨rfl, hB16⟩
                  have H16 : Hid (Below w.heap.size w w16) := HW15.out.trans (hB16.mono HW15.out.size)
                  clear hB16
                  go_wp2
                  go_ret
                  exact ⟨rfl, H16.out⟩
end Go.Proofs.YtojpbemfbjkjjaaGreat
