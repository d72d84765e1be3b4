import Derived.Test.YtojpbemfbjkjjaaGreatB45
import Derived.Test.YtojpbemfbjkjjaaGreatB46
import Derived.Test.YtojpbemfbjkjjaaGreatB44
import Derived.Test.YtojpbemfbjkjjaaGreatRows
import Derived.ProofKit
import Derived.OpenShut
import Derived.ShutString
import Derived.ChangeOld
import Derived.SizedLaws
/- The walk of the law GraphBetween. -/
namespace Go.Proofs.YtojpbemfbjkjjaaGreat
open Go.RowKit Go.Maps

attribute [local go_sem] Oper.semAt_some

set_option maxRecDepth 100000 in
set_option maxHeartbeats 8000000 in
theorem graphBetween_walk (w : World) (a : Option Addr) (n c : Nat) (l : List BornD) (hl : Brs w a n l) (hn : n ≤ 9223372036854775807) (ha : Option Addr) (hn2 hc : Nat) (hl2 : List Int) (hh : Ints w ha hn2 hl2) (hhn : hn2 ≤ 9223372036854775807) (hhr : ∀ x ∈ hl2, -9223372036854775808 ≤ x ∧ x ≤ 9223372036854775807)
    (ka : Option Addr) (kn kc : Nat) (kl : List Int) (hk : Ints w ka kn kl) (hkn : kn ≤ 9223372036854775807) (hkr : ∀ x ∈ kl, -9223372036854775808 ≤ x ∧ x ≤ 9223372036854775807) :
    Calls Tryz.prog 6 #[.slice a n c, .slice ha hn2 hc, .slice ka kn kc] w fun e w' => e = .returned (.bool true) ∧ Below w.heap.size w w' := by
  have hw1 := gwakes_any w
  have HA : Hid (Brs w a n l ∧ Ints w ha hn2 hl2 ∧ (∀ x ∈ hl2, -9223372036854775808 ≤ x ∧ x ≤ 9223372036854775807) ∧ Ints w ka kn kl ∧ (∀ x ∈ kl, -9223372036854775808 ≤ x ∧ x ≤ 9223372036854775807)) := ⟨hl, hh, hhr, hk, hkr⟩
  clear hl hh hhr hk hkr
  cases hG : bornG l with
  | none =>
    go_enter Tryz.func6, Tryz.ntmps6
    go_wp2_with fail
    refine hw1.mono ?_
    clear hw1
    rintro e w1 ⟨rfl, hB1⟩
    have hbo := born_any w1 a n c l (HA.out.1.below hB1) hn
    rw [hG] at hbo
    have H1 : Hid (Below w.heap.size w w1) := hB1
    clear hB1
    go_wp2_with fail
    refine hbo.mono ?_
    clear hbo
    rintro e w2 ⟨hB2, he⟩
    have he' : e = .returned (.tuple #[.pointer none, .bool true]) := he
    subst he'
    have H2 : Hid (Below w.heap.size w w2) := H1.out.trans (hB2.mono H1.out.size)
    clear hB2 he
    have hw3 := gwakes_any w2
    go_wp2_with fail
    refine hw3.mono ?_
    clear hw3
    rintro e w3 ⟨rfl, hB3⟩
    have H3 : Hid (Below w.heap.size w w3) := H2.out.trans (hB3.mono H2.out.size)
    clear hB3
    go_wp2
    go_ret
    exact ⟨rfl, H3.out⟩
  | some st =>
    have HNI : Hid (NI st) := bornG_ni hG
    go_enter Tryz.func6, Tryz.ntmps6
    go_wp2_with fail
    refine hw1.mono ?_
    clear hw1
    rintro e w1 ⟨rfl, hB1⟩
    have hbo := born_any w1 a n c l (HA.out.1.below hB1) hn
    rw [hG] at hbo
    have H1 : Hid (Below w.heap.size w w1) := hB1
    clear hB1 hG
    go_wp2_with fail
    refine hbo.mono ?_
    clear hbo
    rintro e w2 ⟨hB2, hb, s, d, S, F, G, X, nv, iv, bv, ns, he, hI, ho5, hi5, hn5⟩
    subst he
    have H2 : Hid (Below w.heap.size w w2) := H1.out.trans (hB2.mono H1.out.size)
    obtain ⟨na, nc, ia, ic, e1, e2, h24, hEnv⟩ := hI.env hn5
    have HI2 : Hid (ns.map Nd.told = st.nodes ∧ BOk st ∧ st.ids.length ≤ 24 ∧ st.os.length ≤ 25 ∧ st.nodes.length ≤ 24) := ⟨hI.nn, hI.ok, hi5, ho5, hn5⟩
    have HEv : Hid (∀ W, Below w2.heap.size w2 W → (W.cell? ⟨hb, 0, none⟩ = some (.pointer (some ⟨s, 0, none⟩)) ∧ W.cell? ⟨hb, 1, none⟩ = some (.slice na ns.length nc) ∧ W.cell? ⟨hb, 2, none⟩ = some (.slice ia st.ids.length ic)) ∧ Ids W ia st.ids.length st.ids ∧ IsSt W s d st.os (fileB (st.os.map obB)).length false F ∧ NEnv W na ns.length ns) := hEnv
    clear hB2 hI hi5 ho5 hn5 hEnv e1 e2
    have hw3 := gwakes_any w2
    go_wp2_with fail
    refine hw3.mono ?_
    clear hw3
    rintro e w3 ⟨rfl, hB3⟩
    have H3 : Hid (Below w2.heap.size w2 w3) := hB3
    have H3w : Hid (Below w.heap.size w w3) := H2.out.trans (hB3.mono H2.out.size)
    clear hB3
    obtain ⟨⟨c0, c1, c2⟩, hids, _, _⟩ := HEv.out w3 H3.out
    obtain ⟨HS1, hHS1⟩ : ∃ HS, headsG st.ids hl2 = HS := ⟨_, rfl⟩
    obtain ⟨m1, hm1⟩ : ∃ m, HS1.length = m := ⟨_, rfl⟩
    obtain ⟨HS2, hHS2⟩ : ∃ HS, headsG st.ids kl = HS := ⟨_, rfl⟩
    obtain ⟨m2, hm2⟩ : ∃ m, HS2.length = m := ⟨_, rfl⟩
    obtain ⟨⟨_, hr1, hl1⟩, hhd⟩ := heads_ids w3 hb st.ids.length ic ia st HNI.out HI2.out.2.1 c2 hids (by have := HI2.out.2.2.1; omega) ha hn2 hc hl2 (HA.out.2.1.below H3w.out) hhn HA.out.2.2.1 HS1 hHS1 m1 hm1
    have HR1 : Hid (∀ x ∈ HS1, 0 ≤ x ∧ x ≤ 18446744073709551615) := hr1
    have HK2 : Hid (headsG st.ids kl = HS2 ∧ HS2.length = m2) := ⟨hHS2, hm2⟩
    clear hr1 hHS1 hm1 hHS2 hm2 hids c0 c1 c2
    go_wp2_with fail
    refine hhd.mono ?_
    clear hhd
    rintro e w4 ⟨ha4, hc4, rfl, hI4, hn4, _, hB4⟩
    have H4 : Hid (Below w2.heap.size w2 w4) := H3.out.trans (hB4.mono H3.out.size)
    have H4w : Hid (Below w.heap.size w w4) := H2.out.trans (H4.out.mono H2.out.size)
    have HS1I : Hid (Ids w4 ha4 m1 HS1) := hI4
    obtain ⟨⟨c0, c1, c2⟩, hids, _, _⟩ := HEv.out w4 H4.out
    obtain ⟨⟨_, hr2, hl2'⟩, hhd⟩ := heads_ids w4 hb st.ids.length ic ia st HNI.out HI2.out.2.1 c2 hids (by have := HI2.out.2.2.1; omega) ka kn kc kl (HA.out.2.2.2.1.below H4w.out) hkn HA.out.2.2.2.2 HS2 HK2.out.1 m2 HK2.out.2
    have HR2 : Hid (∀ x ∈ HS2, 0 ≤ x ∧ x ≤ 18446744073709551615) := hr2
    clear hr2 hids c0 c1 c2 hB4 hI4
    go_wp2_with fail
    refine hhd.mono ?_
    clear hhd
    rintro e w5 ⟨ha5, hc5, rfl, hI5, hn5, _, hB5⟩
    have H5 : Hid (Below w2.heap.size w2 w5) := H4.out.trans (hB5.mono H4.out.size)
    have HS1J : Hid (Ids w5 ha4 m1 HS1) := HS1I.out.kept hB5
    have HS2J : Hid (Ids w5 ha5 m2 HS2) := hI5
    have H5w : Hid (Below w.heap.size w w5) := H2.out.trans (H5.out.mono H2.out.size)
    have HOS : Hid (st.os.length ≤ 25) := HI2.out.2.2.2.1
    clear hB5 hI5 HS1I HK2 H3 H3w H4 H4w
    have HW5 : Hid (Below w5.heap.size w5 w5) := Below.refl _ _
    cases hR1 : ordG st.os HS1 GS.none with
    | bad e1 =>
      cases hR2 : ordG st.os HS2 GS.none with
      | bad e2 =>
        obtain ⟨⟨c0, _, _⟩, _, hIS, _⟩ := HEv.out w5 (H5.out.trans (HW5.out.mono H5.out.size))
        have hpo := order_any w5 s d st.os _ false F hIS (by have := HOS.out; omega) ha4 m1 hc4 HS1 (HS1J.out.kept HW5.out) HR1.out hn4 (by omega)
        rw [hR1] at hpo
        clear hIS
        go_wp2_with fail
        refine hpo.mono ?_
        clear hpo c0
        rintro e w6 ⟨hB6, he6, hne6⟩
        subst he6
        have HW6 : Hid (Below w5.heap.size w5 w6) := HW5.out.trans (hB6.mono HW5.out.size)
        have HB6 : Hid (Below w5.heap.size w5 w6) := hB6
        clear hB6
        obtain ⟨⟨c0, _, _⟩, _, hIS, _⟩ := HEv.out w6 (H5.out.trans (HW6.out.mono H5.out.size))
        have hpo := order_any w6 s d st.os _ false F hIS (by have := HOS.out; omega) ha5 m2 hc5 HS2 (HS2J.out.kept HW6.out) HR2.out hn5 (by omega)
        rw [hR2] at hpo
        clear hIS
        go_wp2_with fail
        refine hpo.mono ?_
        clear hpo c0
        rintro e w7 ⟨hB7, he7, hne7⟩
        subst he7
        have HW7 : Hid (Below w5.heap.size w5 w7) := HW6.out.trans (hB7.mono HW6.out.size)
        have HB7 : Hid (Below w6.heap.size w6 w7) := hB7
        clear hB7
        obtain ⟨⟨c0, _, _⟩, _, hIS, _⟩ := HEv.out w7 (H5.out.trans (HW7.out.mono H5.out.size))
        have hpo := between_any w7 s d st.os _ false F hIS (by have := HOS.out; omega) ha4 m1 hc4 HS1 (HS1J.out.kept HW7.out) HR1.out hn4 (by omega) ha5 m2 hc5 HS2 (HS2J.out.kept HW7.out) HR2.out hn5 (by omega)
        rw [btw_bad hR1] at hpo
        clear hIS
        go_wp2_with fail
        refine hpo.mono ?_
        clear hpo c0
        rintro e w8 ⟨hB8, he8, hne8⟩
        subst he8
        have HW8 : Hid (Below w5.heap.size w5 w8) := HW7.out.trans (hB8.mono HW7.out.size)
        have HB8 : Hid (Below w7.heap.size w7 w8) := hB8
        clear hB8
        obtain ⟨⟨c0, _, _⟩, _, hIS, _⟩ := HEv.out w8 (H5.out.trans (HW8.out.mono H5.out.size))
        have hpo := between_any w8 s d st.os _ false F hIS (by have := HOS.out; omega) none 0 0 [] ⟨rfl, fun h => by omega⟩ (by simp) (Nat.le_refl _) (by omega) ha5 m2 hc5 HS2 (HS2J.out.kept HW8.out) HR2.out hn5 (by omega)
        rw [btw_nil_bad hR2] at hpo
        clear hIS
        go_wp2_with fail
        refine hpo.mono ?_
        clear hpo c0
        rintro e w9 ⟨hB9, he9, hne9⟩
        subst he9
        have HW9 : Hid (Below w5.heap.size w5 w9) := HW8.out.trans (hB9.mono HW8.out.size)
        have HB9 : Hid (Below w8.heap.size w8 w9) := hB9
        clear hB9
        have HE : Hid (Below w.heap.size w w9) := H5w.out.trans (HW9.out.mono H5w.out.size)
        clear hR1 hR2
        have z6 : (e1 == 0) = false := beq_eq_false_iff_ne.2 hne6
        have y6 : (e1 != 0) = true := by simp [hne6]
        have z7 : (e2 == 0) = false := beq_eq_false_iff_ne.2 hne7
        have y7 : (e2 != 0) = true := by simp [hne7]
        have z8 : (e1 == 0) = false := beq_eq_false_iff_ne.2 hne8
        have y8 : (e1 != 0) = true := by simp [hne8]
        have z9 : (e2 == 0) = false := beq_eq_false_iff_ne.2 hne9
        have y9 : (e2 != 0) = true := by simp [hne9]
        go_wp2
        go_ret
        exact ⟨rfl, HE.out⟩
      | ok g3 =>
        obtain ⟨⟨c0, _, _⟩, _, hIS, _⟩ := HEv.out w5 (H5.out.trans (HW5.out.mono H5.out.size))
        have hpo := order_any w5 s d st.os _ false F hIS (by have := HOS.out; omega) ha4 m1 hc4 HS1 (HS1J.out.kept HW5.out) HR1.out hn4 (by omega)
        rw [hR1] at hpo
        clear hIS
        go_wp2_with fail
        refine hpo.mono ?_
        clear hpo c0
        rintro e w6 ⟨hB6, he6, hne6⟩
        subst he6
        have HW6 : Hid (Below w5.heap.size w5 w6) := HW5.out.trans (hB6.mono HW5.out.size)
        have HB6 : Hid (Below w5.heap.size w5 w6) := hB6
        clear hB6
        obtain ⟨⟨c0, _, _⟩, _, hIS, _⟩ := HEv.out w6 (H5.out.trans (HW6.out.mono H5.out.size))
        have hpo := order_any w6 s d st.os _ false F hIS (by have := HOS.out; omega) ha5 m2 hc5 HS2 (HS2J.out.kept HW6.out) HR2.out hn5 (by omega)
        rw [hR2] at hpo
        clear hIS
        go_wp2_with fail
        refine hpo.mono ?_
        clear hpo c0
        rintro e w7 ⟨hB7, ad7, cp7, he7, hr7⟩
        subst he7
        obtain ⟨_, _, ee, hI7⟩ := own_ids hr7
        cases ee
        have HI7 : Hid (Ids w7 ad7 g3.ord.length g3.ord) := hI7
        clear hI7 hr7
        generalize hG7 : g3.ord.length = gl7 at *
        have HG7 : Hid (g3.ord.length = gl7) := hG7
        clear hG7
        have HW7 : Hid (Below w5.heap.size w5 w7) := HW6.out.trans (hB7.mono HW6.out.size)
        have HB7 : Hid (Below w6.heap.size w6 w7) := hB7
        clear hB7
        obtain ⟨⟨c0, _, _⟩, _, hIS, _⟩ := HEv.out w7 (H5.out.trans (HW7.out.mono H5.out.size))
        have hpo := between_any w7 s d st.os _ false F hIS (by have := HOS.out; omega) ha4 m1 hc4 HS1 (HS1J.out.kept HW7.out) HR1.out hn4 (by omega) ha5 m2 hc5 HS2 (HS2J.out.kept HW7.out) HR2.out hn5 (by omega)
        rw [btw_bad hR1] at hpo
        clear hIS
        go_wp2_with fail
        refine hpo.mono ?_
        clear hpo c0
        rintro e w8 ⟨hB8, he8, hne8⟩
        subst he8
        have HW8 : Hid (Below w5.heap.size w5 w8) := HW7.out.trans (hB8.mono HW7.out.size)
        have HB8 : Hid (Below w7.heap.size w7 w8) := hB8
        clear hB8
        obtain ⟨⟨c0, _, _⟩, _, hIS, _⟩ := HEv.out w8 (H5.out.trans (HW8.out.mono H5.out.size))
        have hpo := between_any w8 s d st.os _ false F hIS (by have := HOS.out; omega) none 0 0 [] ⟨rfl, fun h => by omega⟩ (by simp) (Nat.le_refl _) (by omega) ha5 m2 hc5 HS2 (HS2J.out.kept HW8.out) HR2.out hn5 (by omega)
        rw [btw_nil_ok hR2] at hpo
        clear hIS
        go_wp2_with fail
        refine hpo.mono ?_
        clear hpo c0
        rintro e w9 ⟨hB9, ad9, cp9, he9, hr9⟩
        subst he9
        obtain ⟨_, _, ee, hI9⟩ := own_ids hr9
        cases ee
        have HI9 : Hid (Ids w9 ad9 g3.ord.length g3.ord) := hI9
        clear hI9 hr9
        generalize hG9 : g3.ord.length = gl9 at *
        have HG9 : Hid (g3.ord.length = gl9) := hG9
        clear hG9
        have HW9 : Hid (Below w5.heap.size w5 w9) := HW8.out.trans (hB9.mono HW8.out.size)
        have HB9 : Hid (Below w8.heap.size w8 w9) := hB9
        clear hB9
        have HE : Hid (Below w.heap.size w w9) := H5w.out.trans (HW9.out.mono H5w.out.size)
        clear hR1 hR2
        have z6 : (e1 == 0) = false := beq_eq_false_iff_ne.2 hne6
        have y6 : (e1 != 0) = true := by simp [hne6]
        have z8 : (e1 == 0) = false := beq_eq_false_iff_ne.2 hne8
        have y8 : (e1 != 0) = true := by simp [hne8]
        go_wp2
        go_ret
        exact ⟨rfl, HE.out⟩
    | ok g1 =>
      cases hR2 : ordG st.os HS2 GS.none with
      | bad e2 =>
        obtain ⟨⟨c0, _, _⟩, _, hIS, _⟩ := HEv.out w5 (H5.out.trans (HW5.out.mono H5.out.size))
        have hpo := order_any w5 s d st.os _ false F hIS (by have := HOS.out; omega) ha4 m1 hc4 HS1 (HS1J.out.kept HW5.out) HR1.out hn4 (by omega)
        rw [hR1] at hpo
        clear hIS
        go_wp2_with fail
        refine hpo.mono ?_
        clear hpo c0
        rintro e w6 ⟨hB6, ad6, cp6, he6, hr6⟩
        subst he6
        obtain ⟨_, _, ee, hI6⟩ := own_ids hr6
        cases ee
        have HI6 : Hid (Ids w6 ad6 g1.ord.length g1.ord) := hI6
        clear hI6 hr6
        generalize hG6 : g1.ord.length = gl6 at *
        have HG6 : Hid (g1.ord.length = gl6) := hG6
        clear hG6
        have HW6 : Hid (Below w5.heap.size w5 w6) := HW5.out.trans (hB6.mono HW5.out.size)
        have HB6 : Hid (Below w5.heap.size w5 w6) := hB6
        clear hB6
        obtain ⟨⟨c0, _, _⟩, _, hIS, _⟩ := HEv.out w6 (H5.out.trans (HW6.out.mono H5.out.size))
        have hpo := order_any w6 s d st.os _ false F hIS (by have := HOS.out; omega) ha5 m2 hc5 HS2 (HS2J.out.kept HW6.out) HR2.out hn5 (by omega)
        rw [hR2] at hpo
        clear hIS
        go_wp2_with fail
        refine hpo.mono ?_
        clear hpo c0
        rintro e w7 ⟨hB7, he7, hne7⟩
        subst he7
        have HW7 : Hid (Below w5.heap.size w5 w7) := HW6.out.trans (hB7.mono HW6.out.size)
        have HB7 : Hid (Below w6.heap.size w6 w7) := hB7
        clear hB7
        obtain ⟨⟨c0, _, _⟩, _, hIS, _⟩ := HEv.out w7 (H5.out.trans (HW7.out.mono H5.out.size))
        have hpo := between_any w7 s d st.os _ false F hIS (by have := HOS.out; omega) ha4 m1 hc4 HS1 (HS1J.out.kept HW7.out) HR1.out hn4 (by omega) ha5 m2 hc5 HS2 (HS2J.out.kept HW7.out) HR2.out hn5 (by omega)
        rw [btw_bad2 hR1 hR2] at hpo
        clear hIS
        go_wp2_with fail
        refine hpo.mono ?_
        clear hpo c0
        rintro e w8 ⟨hB8, he8, hne8⟩
        subst he8
        have HW8 : Hid (Below w5.heap.size w5 w8) := HW7.out.trans (hB8.mono HW7.out.size)
        have HB8 : Hid (Below w7.heap.size w7 w8) := hB8
        clear hB8
        obtain ⟨⟨c0, _, _⟩, _, hIS, _⟩ := HEv.out w8 (H5.out.trans (HW8.out.mono H5.out.size))
        have hpo := between_any w8 s d st.os _ false F hIS (by have := HOS.out; omega) none 0 0 [] ⟨rfl, fun h => by omega⟩ (by simp) (Nat.le_refl _) (by omega) ha5 m2 hc5 HS2 (HS2J.out.kept HW8.out) HR2.out hn5 (by omega)
        rw [btw_nil_bad hR2] at hpo
        clear hIS
        go_wp2_with fail
        refine hpo.mono ?_
        clear hpo c0
        rintro e w9 ⟨hB9, he9, hne9⟩
        subst he9
        have HW9 : Hid (Below w5.heap.size w5 w9) := HW8.out.trans (hB9.mono HW8.out.size)
        have HB9 : Hid (Below w8.heap.size w8 w9) := hB9
        clear hB9
        have HE : Hid (Below w.heap.size w w9) := H5w.out.trans (HW9.out.mono H5w.out.size)
        clear hR1 hR2
        have z7 : (e2 == 0) = false := beq_eq_false_iff_ne.2 hne7
        have y7 : (e2 != 0) = true := by simp [hne7]
        have z8 : (e2 == 0) = false := beq_eq_false_iff_ne.2 hne8
        have y8 : (e2 != 0) = true := by simp [hne8]
        have z9 : (e2 == 0) = false := beq_eq_false_iff_ne.2 hne9
        have y9 : (e2 != 0) = true := by simp [hne9]
        go_wp2
        go_ret
        exact ⟨rfl, HE.out⟩
      | ok g3 =>
        obtain ⟨g2, hb2, hf2⟩ := btw_ok hR1 hR2
        have HF : Hid (g2.ord = g3.ord.filter (fun y => decide (y ∉ g1.ord)) ∧ g1.ord.length ≤ 25 ∧ g3.ord.length ≤ 25) := ⟨hf2, Nat.le_trans (ord_len hR1) HOS.out, Nat.le_trans (ord_len hR2) HOS.out⟩
        clear hf2
        obtain ⟨⟨c0, _, _⟩, _, hIS, _⟩ := HEv.out w5 (H5.out.trans (HW5.out.mono H5.out.size))
        have hpo := order_any w5 s d st.os _ false F hIS (by have := HOS.out; omega) ha4 m1 hc4 HS1 (HS1J.out.kept HW5.out) HR1.out hn4 (by omega)
        rw [hR1] at hpo
        clear hIS
        go_wp2_with fail
        refine hpo.mono ?_
        clear hpo c0
        rintro e w6 ⟨hB6, ad6, cp6, he6, hr6⟩
        subst he6
        obtain ⟨_, _, ee, hI6⟩ := own_ids hr6
        cases ee
        have HI6 : Hid (Ids w6 ad6 g1.ord.length g1.ord) := hI6
        clear hI6 hr6
        generalize hG6 : g1.ord.length = gl6 at *
        have HG6 : Hid (g1.ord.length = gl6) := hG6
        clear hG6
        have HW6 : Hid (Below w5.heap.size w5 w6) := HW5.out.trans (hB6.mono HW5.out.size)
        have HB6 : Hid (Below w5.heap.size w5 w6) := hB6
        clear hB6
        obtain ⟨⟨c0, _, _⟩, _, hIS, _⟩ := HEv.out w6 (H5.out.trans (HW6.out.mono H5.out.size))
        have hpo := order_any w6 s d st.os _ false F hIS (by have := HOS.out; omega) ha5 m2 hc5 HS2 (HS2J.out.kept HW6.out) HR2.out hn5 (by omega)
        rw [hR2] at hpo
        clear hIS
        go_wp2_with fail
        refine hpo.mono ?_
        clear hpo c0
        rintro e w7 ⟨hB7, ad7, cp7, he7, hr7⟩
        subst he7
        obtain ⟨_, _, ee, hI7⟩ := own_ids hr7
        cases ee
        have HI7 : Hid (Ids w7 ad7 g3.ord.length g3.ord) := hI7
        clear hI7 hr7
        generalize hG7 : g3.ord.length = gl7 at *
        have HG7 : Hid (g3.ord.length = gl7) := hG7
        clear hG7
        have HW7 : Hid (Below w5.heap.size w5 w7) := HW6.out.trans (hB7.mono HW6.out.size)
        have HB7 : Hid (Below w6.heap.size w6 w7) := hB7
        clear hB7
        obtain ⟨⟨c0, _, _⟩, _, hIS, _⟩ := HEv.out w7 (H5.out.trans (HW7.out.mono H5.out.size))
        have hpo := between_any w7 s d st.os _ false F hIS (by have := HOS.out; omega) ha4 m1 hc4 HS1 (HS1J.out.kept HW7.out) HR1.out hn4 (by omega) ha5 m2 hc5 HS2 (HS2J.out.kept HW7.out) HR2.out hn5 (by omega)
        rw [hb2] at hpo
        clear hIS
        go_wp2_with fail
        refine hpo.mono ?_
        clear hpo c0
        rintro e w8 ⟨hB8, ad8, cp8, he8, hr8⟩
        subst he8
        obtain ⟨_, _, ee, hI8⟩ := own_ids hr8
        cases ee
        have HI8 : Hid (Ids w8 ad8 g2.ord.length g2.ord) := hI8
        clear hI8 hr8
        generalize hG8 : g2.ord.length = gl8 at *
        have HG8 : Hid (g2.ord.length = gl8) := hG8
        clear hG8
        have HW8 : Hid (Below w5.heap.size w5 w8) := HW7.out.trans (hB8.mono HW7.out.size)
        have HB8 : Hid (Below w7.heap.size w7 w8) := hB8
        clear hB8
        obtain ⟨⟨c0, _, _⟩, _, hIS, _⟩ := HEv.out w8 (H5.out.trans (HW8.out.mono H5.out.size))
        have hpo := between_any w8 s d st.os _ false F hIS (by have := HOS.out; omega) none 0 0 [] ⟨rfl, fun h => by omega⟩ (by simp) (Nat.le_refl _) (by omega) ha5 m2 hc5 HS2 (HS2J.out.kept HW8.out) HR2.out hn5 (by omega)
        rw [btw_nil_ok hR2] at hpo
        clear hIS
        go_wp2_with fail
        refine hpo.mono ?_
        clear hpo c0
        rintro e w9 ⟨hB9, ad9, cp9, he9, hr9⟩
        subst he9
        obtain ⟨_, _, ee, hI9⟩ := own_ids hr9
        cases ee
        have HI9 : Hid (Ids w9 ad9 g3.ord.length g3.ord) := hI9
        clear hI9 hr9
        generalize hG9 : g3.ord.length = gl9 at *
        have HG9 : Hid (g3.ord.length = gl9) := hG9
        clear hG9
        have HW9 : Hid (Below w5.heap.size w5 w9) := HW8.out.trans (hB9.mono HW8.out.size)
        have HB9 : Hid (Below w8.heap.size w8 w9) := hB9
        clear hB9
        have HE : Hid (Below w.heap.size w w9) := H5w.out.trans (HW9.out.mono H5w.out.size)
        clear hR1 hR2 hb2
        have h97 : gl9 = gl7 := HG7.out
        have h67 : gl6 ≤ 25 ∧ gl7 ≤ 25 := HF.out.2
        have h8 : gl8 ≤ 25 := by
          have h1 := HG8.out
          rw [HF.out.1] at h1
          have h2 := List.length_filter_le (fun y => decide (y ∉ g1.ord)) g3.ord
          rw [HG9.out] at h2
          omega
        subst h97
        have hsm := gsame_any w9 ad9 ad7 gl9 gl9 cp9 cp7 g3.ord g3.ord HI9.out ((HI7.out.kept HB8.out).kept HB9.out) (by omega) (by omega)
        rw [beq_self_eq_true] at hsm
        go_wp2_with fail
        refine hsm.mono ?_
        clear hsm
        rintro e w10 ⟨rfl, hB10⟩
        have HX : Hid (Below w.heap.size w w10 ∧ Ids w10 ad6 gl6 g1.ord ∧ Ids w10 ad7 gl9 g3.ord ∧ Ids w10 ad8 gl8 g2.ord ∧ g2.ord = g3.ord.filter (fun y => decide (y ∉ g1.ord))) := ⟨HE.out.trans (hB10.mono HE.out.size), (((HI6.out.kept HB7.out).kept HB8.out).kept HB9.out).kept hB10, ((HI7.out.kept HB8.out).kept HB9.out).kept hB10, (HI8.out.kept HB9.out).kept hB10, HF.out.1⟩
        clear hB10 HE HF HG6 HG7 HG8 HG9 HI6 HI7 HI8 HI9 HB6 HB7 HB8 HB9 HW5 HW6 HW7 HW8 HW9 HEv HS1J HS2J HR1 HR2 H2 H5 H5w HA HNI HI2 HOS
        go_wp2_with fail
        go_loopg [112] gl8 (fun gg v wr => ∃ k : Nat, k + gg = gl8 ∧ k ≤ gl8 ∧ v = .int .i64 (k : Int) ∧ Hid (wr = w10))
        case atStart => exact ⟨0, by omega, Nat.zero_le _, rfl, rfl⟩
        case round =>
          obtain ⟨k, hkg, hk, rfl, H⟩ := hrel
          have hwr := H.out
          clear H
          subst hwr
          cases gk with
          | succ gk =>
            obtain ⟨x, hx⟩ : ∃ x, g2.ord[k]? = some x := ⟨_, List.getElem?_eq_getElem (by have := HX.out.2.2.2.1.1; omega)⟩
            have hm : x ∈ g3.ord ∧ x ∉ g1.ord := by
              have := List.mem_of_getElem? hx
              rw [HX.out.2.2.2.2, List.mem_filter] at this
              exact ⟨this.1, by simpa using this.2⟩
            obtain ⟨b1, o1, hoa, hc1⟩ := HX.out.2.2.2.1.2 (by omega)
            subst hoa
            have q0 := hc1 k x hx
            have hp1 := place_any wr ad7 gl9 cp7 g3.ord HX.out.2.2.1 (by omega) x
            have hp2 := place_any wr ad6 gl6 cp6 g1.ord HX.out.2.1 (by omega) x
            have j1 : 0 ≤ plc g3.ord x 0 := (plc_mem _ _ _ (by omega)).2 hm.1
            have j2 : ¬ 0 ≤ plc g1.ord x 0 := fun e => hm.2 ((plc_mem _ _ _ (by omega)).1 e)
            generalize plc g3.ord x 0 = p1 at *
            generalize plc g1.ord x 0 = p2 at *
            have i2 : (k : Int) < (gl8 : Int) := by omega
            have i3 : ¬ gl8 ≤ k := by omega
            have j3 : ¬ p1 < 0 := by omega
            have HK : Hid (k + 1 + gk = gl8 ∧ k + 1 ≤ gl8) := ⟨by omega, by omega⟩
            clear hc1 hx hm
            go_wp2_with fail
            refine hp1.mono ?_
            clear hp1
            rintro e w11 ⟨rfl, h1⟩
            subst h1
            go_wp2_with fail
            refine hp2.mono ?_
            clear hp2
            rintro e w12 ⟨rfl, h1⟩
            subst h1
            go_wp2
            go_roundg gk
            case measure => omega
            case rel => exact ⟨k + 1, HK.out.1, HK.out.2, by simp, rfl⟩
          | zero =>
            obtain rfl : k = gl8 := by omega
            have i2 : ¬ (k : Int) < (k : Int) := by omega
            go_wp2_with fail
            clear i2
            obtain ⟨wb, hwb⟩ : ∃ wb : World, wb = wr := ⟨_, rfl⟩
            subst hwb
            go_loopg [129] gl9 (fun gg v wr => ∃ q : Nat, q + gg = gl9 ∧ q ≤ gl9 ∧ v = .int .i64 (q : Int) ∧ Hid (wr = wb))
            case atStart => exact ⟨0, by omega, Nat.zero_le _, rfl, rfl⟩
            case round =>
              obtain ⟨q, hqg, hq, rfl, H⟩ := hrel
              have hwr := H.out
              clear H
              subst hwr
              cases gk with
              | succ gk =>
                obtain ⟨x, hx⟩ : ∃ x, g3.ord[q]? = some x := ⟨_, List.getElem?_eq_getElem (by have := HX.out.2.2.1.1; omega)⟩
                have hm : x ∈ g3.ord := List.mem_of_getElem? hx
                have hm2 : x ∈ g2.ord ↔ x ∉ g1.ord := by
                  rw [HX.out.2.2.2.2, List.mem_filter]
                  simp [hm]
                obtain ⟨b1, o1, hoa, hc1⟩ := HX.out.2.2.1.2 (by omega)
                subst hoa
                have q0 := hc1 q x hx
                have hp1 := place_any wr ad8 k cp8 g2.ord HX.out.2.2.2.1 (by omega) x
                have hp2 := place_any wr ad6 gl6 cp6 g1.ord HX.out.2.1 (by omega) x
                have j1 := plc_mem g2.ord x 0 (by omega)
                have j2 := plc_mem g1.ord x 0 (by omega)
                have i2 : (q : Int) < (gl9 : Int) := by omega
                have i3 : ¬ gl9 ≤ q := by omega
                have HK : Hid (q + 1 + gk = gl9 ∧ q + 1 ≤ gl9) := ⟨by omega, by omega⟩
                by_cases hd : x ∈ g1.ord
                · have j3 : 0 ≤ plc g1.ord x 0 := j2.2 hd
                  have j4 : ¬ 0 ≤ plc g2.ord x 0 := fun e => hm2.1 (j1.1 e) hd
                  generalize plc g2.ord x 0 = p1 at *
                  generalize plc g1.ord x 0 = p2 at *
                  clear hc1 hx hm hm2 hd j1 j2
                  go_wp2_with fail
                  refine hp1.mono ?_
                  clear hp1
                  rintro e w11 ⟨rfl, h1⟩
                  subst h1
                  go_wp2_with fail
                  refine hp2.mono ?_
                  clear hp2
                  rintro e w12 ⟨rfl, h1⟩
                  subst h1
                  go_wp2
                  go_roundg gk
                  case measure => omega
                  case rel => exact ⟨q + 1, HK.out.1, HK.out.2, by simp, rfl⟩
                · have j3 : ¬ 0 ≤ plc g1.ord x 0 := fun e => hd (j2.1 e)
                  have j4 : 0 ≤ plc g2.ord x 0 := j1.2 (hm2.2 hd)
                  generalize plc g2.ord x 0 = p1 at *
                  generalize plc g1.ord x 0 = p2 at *
                  clear hc1 hx hm hm2 hd j1 j2
                  go_wp2_with fail
                  refine hp1.mono ?_
                  clear hp1
                  rintro e w11 ⟨rfl, h1⟩
                  subst h1
                  go_wp2_with fail
                  refine hp2.mono ?_
                  clear hp2
                  rintro e w12 ⟨rfl, h1⟩
                  subst h1
                  go_wp2
                  go_roundg gk
                  case measure => omega
                  case rel => exact ⟨q + 1, HK.out.1, HK.out.2, by simp, rfl⟩
              | zero =>
                obtain rfl : q = gl9 := by omega
                have i2 : ¬ (q : Int) < (q : Int) := by omega
                go_wp2
                go_ret
                exact ⟨rfl, HX.out.1⟩
end Go.Proofs.YtojpbemfbjkjjaaGreat

/- Proved here: for every list of commits and every two lists of numbers the law GraphBetween returns true. No condition. -/
namespace Go.Proofs.YtojpbemfbjkjjaaGreat
open Go.RowKit
open Go.ChangeShapes Go.WideShapes Go.ChangeAt

theorem own : ownKnob Tryz.prog.godebug = none := by kernel_rfl
theorem laidOut : laidOutB Tryz.prog = true := by kernel_rfl

set_option maxRecDepth 100000 in
theorem graphBetween_lifted (os : Os) (started : os.Started) (H : Type) (enc : TypeId × Value → H) :
    ReturnsInHanded {} Tryz.checked os 6 .any (Rows.graphBetweenSpec.pre6 enc Tryz.prog Tryz.f6 Rows.graphBetweenRow.domain false) (Rows.graphBetweenSpec.post enc Tryz.prog Tryz.f6 false true false false) := by
  refine returnsInHanded_of_change_sized (C := Tryz.checked) own started (by kernel_rfl) Tryz.func6
    (ChangeSpec.witness6 (enc := enc) (C := Tryz.checked) false ⟨#[], #[.slice none 0 0, .slice none 0 0, .slice none 0 0], []⟩ 8 (by kernel_rfl) (by kernel_rfl) (by kernel_rfl) (by kernel_rfl)) ?_
  intro W base args ds gs before hval0 hW _ hsz0 _
  have hval : ∀ (j : Nat) t v, Tryz.f6.params[j]? = some t → args[j]? = some v → Value.okWide Tryz.prog W .any base t v := hval0
  have hW' := hW
  obtain ⟨p, q, hA0, hV, rfl, _, _⟩ := hW
  have hA : DataW.TrodAll enc Tryz.prog W 0 (fun _ => true) true Tryz.f6.params.toList args.toList ds p := hA0
  rw [Tryz.params6] at hA hval
  obtain ⟨v0, vs0, d0, ds0, p0, q0, hargs, rfl, rfl, h0, r0⟩ := trodAll_cons hA
  obtain ⟨v1, vs1, d1, ds1, p1, q1, rfl, rfl, rfl, h1, r1⟩ := trodAll_cons r0
  obtain ⟨v2, vs2, d2, ds2, p2, q2, rfl, rfl, rfl, h2, r2⟩ := trodAll_cons r1
  obtain ⟨rfl, rfl, rfl⟩ := trodAll_nil r2
  obtain rfl : args = #[v0, v1, v2] := by cases args; simp_all
  obtain ⟨rfl, rfl⟩ := trodVars_none hV
  have k0 := h0
  have k1 := h1
  have k2 := h2
  have lt0 : ∀ x ∈ p0, x.block < W.heap.size := by obtain ⟨m, hm⟩ := k0; exact DataW.trod_lt m _ _ _ hm
  have lt1 : ∀ x ∈ p1, x.block < W.heap.size := by obtain ⟨m, hm⟩ := k1; exact DataW.trod_lt m _ _ _ hm
  have lt2 : ∀ x ∈ p2, x.block < W.heap.size := by obtain ⟨m, hm⟩ := k2; exact DataW.trod_lt m _ _ _ hm
  obtain ⟨a0, n0, cap0, l0, rfl, hl0, hn0⟩ := borns_arg (hval 0 22 v0 rfl rfl) h0
  obtain ⟨a1, n1, cap1, l1, rfl, hl1, hr1, hn1⟩ := ints_arg (hval 1 29 v1 rfl rfl) h1
  obtain ⟨a2, n2, cap2, l2, rfl, hl2, hr2, hn2⟩ := ints_arg (hval 2 29 v2 rfl rfl) h2
  clear hA0 hval0 hsz0
  refine (graphBetween_walk W a0 n0 cap0 l0 hl0 hn0 a1 n1 cap1 l1 hl1 hn1 hr1 a2 n2 cap2 l2 hl2 hn2 hr2).mono fun e W' ⟨he, bel⟩ => ?_
  subst he
  exact ⟨_, rfl, _, _, _, [], _, [], hW', trodAll_mk1 (shut_bool Tryz.underlying4 _), trodAll_cons_mk (Below.trod laidOut (by kernel_rfl) (of_decide_eq_true (by kernel_rfl)) k0 bel lt0) (trodAll_cons_mk (Below.trod laidOut (by kernel_rfl) (of_decide_eq_true (by kernel_rfl)) k1 bel lt1) (trodAll_cons_mk (Below.trod laidOut (by kernel_rfl) (of_decide_eq_true (by kernel_rfl)) k2 bel lt2) trodAll_mk0)), rfl, bel.frame _, fun h => by cases h⟩

theorem graphBetween_holds : Rows.GraphBetweenSaid :=
  OpenClaim.holds_of_wide 6 Tryz.f6 rfl rfl rfl rfl rfl rfl rfl ⟨rfl, rfl, rfl, rfl, rfl⟩ rfl rfl rfl rfl rfl (by kernel_rfl) Tryz.func6 (by kernel_rfl)
    (of_decide_eq_true (by kernel_rfl)) (by unfold Func.isWrapper; first | (rw [if_pos (by decide +kernel)]; kernel_rfl) | (rw [if_neg (by decide +kernel)]; exact ⟨rfl, rfl⟩))
    (fun os started H enc _ => graphBetween_lifted os started H enc)
#print axioms graphBetween_holds

end Go.Proofs.YtojpbemfbjkjjaaGreat
