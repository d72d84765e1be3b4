import Derived.Test.YtngfhhdmemldkaaGreatO47
import Derived.Test.YtngfhhdmemldkaaGreatO48
import Derived.Test.YtngfhhdmemldkaaGreatRows
import Derived.ProofKit
import Derived.OpenShut
import Derived.ShutString
import Derived.ChangeOld
import Derived.SizedLaws
/- The walk of the law GraphOrders. -/
namespace Go.Proofs.YtngfhhdmemldkaaGreat
open Go.RowKit Go.Maps

attribute [local go_sem] Oper.semAt_some

theorem Brs.below {w w' : World} {a : Option Addr} {n : Nat} {l : List BornD} (h : Brs w a n l) (hB : Below w.heap.size w w') : Brs w' a n l :=
  ⟨h.1, fun h0 => by
    obtain ⟨b, off, e, hc⟩ := h.2 h0
    refine ⟨b, off, e, fun j x hx => ?_⟩
    obtain ⟨ba, bn, bc, c0, c1, c2, c3, c4, hi, h1, h2, h3⟩ := hc j x hx
    exact ⟨ba, bn, bc, (hB.cell (p := ⟨b, off + j * 5, none⟩) (World.block_lt_of_cell? w _ c0)).trans c0, (hB.cell (p := ⟨b, off + j * 5 + 1, none⟩) (World.block_lt_of_cell? w _ c1)).trans c1, (hB.cell (p := ⟨b, off + j * 5 + 2, none⟩) (World.block_lt_of_cell? w _ c2)).trans c2, (hB.cell (p := ⟨b, off + j * 5 + 3, none⟩) (World.block_lt_of_cell? w _ c3)).trans c3, (hB.cell (p := ⟨b, off + j * 5 + 4, none⟩) (World.block_lt_of_cell? w _ c4)).trans c4, hi.below hB, h1, h2, h3⟩⟩
/-- what a history of the laws gives to the calls behind it -/
theorem BI.env {w wr : World} {hb s d : Nat} {e0 : Int} {st : BS} {S : DG} {F G X : Nat → Prop} {nv iv bv : Value} {ns : List Nd} (I : BI w wr hb s d e0 st S F G X nv iv bv ns) (h24 : st.nodes.length ≤ 24) : ∃ na nc ia ic, nv = .slice na ns.length nc ∧ iv = .slice ia st.ids.length ic ∧ ns.length ≤ 24 ∧ ∀ W, Below wr.heap.size wr W → (W.cell? ⟨hb, 0, none⟩ = some (.pointer (some ⟨s, 0, none⟩)) ∧ W.cell? ⟨hb, 1, none⟩ = some (.slice na ns.length nc) ∧ W.cell? ⟨hb, 2, none⟩ = some (.slice ia st.ids.length ic)) ∧ Ids W ia st.ids.length st.ids ∧ IsSt W s d st.os (fileB (st.os.map obB)).length false F ∧ NEnv W na ns.length ns := by
  obtain ⟨na, nc, e1, _, _⟩ := row_shapeN I.nr
  obtain ⟨ia, ic, e2, _, _⟩ := row_shapeN I.ir
  subst e1
  subst e2
  have hl : ns.length = st.nodes.length := by rw [← I.nn, List.length_map]
  refine ⟨na, nc, ia, ic, rfl, rfl, by omega, fun W hW => ?_⟩
  have J := I.below hW
  obtain ⟨x1, x2, x3, x4⟩ := own_ids J.ir
  cases x3
  refine ⟨⟨J.c0, J.c1, J.c2⟩, x4, J.sg.st, ⟨fun W2 hW2 => ?_, by omega, fun x hx => ?_⟩⟩
  · have K := J.below hW2
    exact ⟨row_nds K.nr rfl, fun x hx => (K.np x hx).1.get⟩
  · have h1 := (J.np x hx).1.get.1
    have h2 := J.ok.npar x.told (by rw [← J.nn]; exact List.mem_map.2 ⟨x, hx, rfl⟩)
    have h3 : x.ps.length ≤ 8 := h2.2.2.1
    omega
set_option maxRecDepth 100000 in
set_option maxHeartbeats 4000000 in
theorem graphOrders_walk (w : World) (a : Option Addr) (n c : Nat) (l : List BornD) (hl : Brs w a n l) (hn : n ≤ 9223372036854775807) (ha : Option Addr) (hn2 hc : Nat) (hl2 : List Int) (hh : Ints w ha hn2 hl2) (hhn : hn2 ≤ 9223372036854775807) (hhr : ∀ x ∈ hl2, -9223372036854775808 ≤ x ∧ x ≤ 9223372036854775807) :
    Calls Tryz.prog 3 #[.slice a n c, .slice ha hn2 hc] w fun e w' => e = .returned (.bool true) ∧ Below w.heap.size w w' := by
  have hw1 := gwakes_any w
  have HA : Hid (Brs w a n l ∧ Ints w ha hn2 hl2 ∧ ∀ x ∈ hl2, -9223372036854775808 ≤ x ∧ x ≤ 9223372036854775807) := ⟨hl, hh, hhr⟩
  clear hl hh hhr
  cases hG : bornG l with
  | none =>
    go_enter Tryz.func3, Tryz.ntmps3
    go_wp2_with fail
    refine hw1.mono ?_
    clear hw1
    rintro e w1 ⟨rfl, hB1⟩
    have hbo := born_any w1 a n c l (HA.out.1.below hB1) hn
    rw [hG] at hbo
    have H1 : Hid (Below w.heap.size w w1) := hB1
    clear hB1
    go_wp2_with fail
    refine hbo.mono ?_
    clear hbo
    rintro e w2 ⟨hB2, he⟩
    have he' : e = .returned (.tuple #[.pointer none, .bool true]) := he
    subst he'
    have H2 : Hid (Below w.heap.size w w2) := H1.out.trans (hB2.mono H1.out.size)
    clear hB2 he
    have hw3 := gwakes_any w2
    go_wp2_with fail
    refine hw3.mono ?_
    clear hw3
    rintro e w3 ⟨rfl, hB3⟩
    have H3 : Hid (Below w.heap.size w w3) := H2.out.trans (hB3.mono H2.out.size)
    clear hB3
    go_wp2
    go_ret
    exact ⟨rfl, H3.out⟩
  | some st =>
    have HNI : Hid (NI st) := bornG_ni hG
    go_enter Tryz.func3, Tryz.ntmps3
    go_wp2_with fail
    refine hw1.mono ?_
    clear hw1
    rintro e w1 ⟨rfl, hB1⟩
    have hbo := born_any w1 a n c l (HA.out.1.below hB1) hn
    rw [hG] at hbo
    have H1 : Hid (Below w.heap.size w w1) := hB1
    clear hB1 hG
    go_wp2_with fail
    refine hbo.mono ?_
    clear hbo
    rintro e w2 ⟨hB2, hb, s, d, S, F, G, X, nv, iv, bv, ns, he, hI, ho5, hi5, hn5⟩
    subst he
    have H2 : Hid (Below w.heap.size w w2) := H1.out.trans (hB2.mono H1.out.size)
    obtain ⟨na, nc, ia, ic, e1, e2, h24, hEnv⟩ := hI.env hn5
    have HI2 : Hid (ns.map Nd.told = st.nodes ∧ BOk st ∧ st.ids.length ≤ 24 ∧ st.os.length ≤ 25 ∧ st.nodes.length ≤ 24) := ⟨hI.nn, hI.ok, hi5, ho5, hn5⟩
    have HEv : Hid (∀ W, Below w2.heap.size w2 W → (W.cell? ⟨hb, 0, none⟩ = some (.pointer (some ⟨s, 0, none⟩)) ∧ W.cell? ⟨hb, 1, none⟩ = some (.slice na ns.length nc) ∧ W.cell? ⟨hb, 2, none⟩ = some (.slice ia st.ids.length ic)) ∧ Ids W ia st.ids.length st.ids ∧ IsSt W s d st.os (fileB (st.os.map obB)).length false F ∧ NEnv W na ns.length ns) := hEnv
    clear hB2 hI hi5 ho5 hn5 hEnv e1 e2
    have hw3 := gwakes_any w2
    go_wp2_with fail
    refine hw3.mono ?_
    clear hw3
    rintro e w3 ⟨rfl, hB3⟩
    have H3 : Hid (Below w2.heap.size w2 w3) := hB3
    have H3w : Hid (Below w.heap.size w w3) := H2.out.trans (hB3.mono H2.out.size)
    obtain ⟨⟨c0, c1, c2⟩, hids, _, _⟩ := HEv.out w3 hB3
    have hhd := heads_any w3 hb st.ids.length ic ia st.ids c2 hids (by have := HI2.out.2.2.1; omega) ha hn2 hc hl2 (HA.out.2.1.below H3w.out) hhn HA.out.2.2
    have hHE : emptyI ∉ headsG st.ids hl2 := heads_empty HNI.out.ids hl2
    have hHL := headsG_len st.ids hl2
    have hHR := headsG_rng (fun i hi => (HI2.out.2.1.rng i hi).2) hl2
    have hsame := ord_same HNI.out ns HI2.out.1 (headsG st.ids hl2) hHE
    have HH : Hid ((∀ x ∈ headsG st.ids hl2, 0 ≤ x ∧ x ≤ 18446744073709551615) ∧ goL (visit (parsN ns) (errN ns) (st.os.length + 2)) (headsG st.ids hl2) GS.none = ordG st.os (headsG st.ids hl2) GS.none) := ⟨hHR, hsame⟩
    generalize headsG st.ids hl2 = HS at *
    clear hB3 hids hHE hHR hsame c0 c1 c2
    generalize hHSL : HS.length = hsl at *
    have HHSL : Hid (HS.length = hsl) := hHSL
    clear hHSL
    go_wp2_with fail
    refine hhd.mono ?_
    clear hhd
    rintro e w4 ⟨ha4, hc4, rfl, hrow4, hB4⟩
    have H4 : Hid (Below w2.heap.size w2 w4) := H3.out.trans (hB4.mono H3.out.size)
    have H4w : Hid (Below w.heap.size w w4) := H2.out.trans (H4.out.mono H2.out.size)
    obtain ⟨_, _, ee, hncc, _⟩ := row_shapeN hrow4
    cases ee
    have hrow4' := hrow4
    rw [← HHSL.out] at hrow4'
    obtain ⟨_, _, ee, hIds4⟩ := own_ids hrow4'
    cases ee
    rw [HHSL.out] at hIds4
    obtain ⟨⟨c0, c1, c2⟩, _, _, hNE⟩ := HEv.out w4 H4.out
    have hdo := order11_any w4 na ns.length nc ns hNE rfl (st.os.length + 2) (by have h1 := HNI.out.len; have h2 : ns.length = st.nodes.length := (by rw [← HI2.out.1, List.length_map]); omega) ha4 hsl hc4 HS hIds4 (by omega)
    rw [HH.out.2] at hdo
    have HId4 : Hid (Ids w4 ha4 hsl HS) := hIds4
    clear hB4 hrow4 hrow4' hIds4 hNE c0 c2
    cases hR : ordG st.os HS GS.none with
    | bad er =>
      rw [hR] at hdo
      go_wp2_with fail
      refine hdo.mono ?_
      clear hdo
      rintro e w5 ⟨⟨hB5, _⟩, he5, hne5⟩
      subst he5
      have H5 : Hid (Below w2.heap.size w2 w5) := H4.out.trans (hB5.mono H4.out.size)
      obtain ⟨⟨c0, _, _⟩, _, hIS, _⟩ := HEv.out w5 H5.out
      have hpo := order_any w5 s d st.os _ false F hIS (by have := HI2.out.2.2.2.1; omega) ha4 hsl hc4 HS (HId4.out.kept hB5) HH.out.1 hncc (by omega)
      rw [hR] at hpo
      clear hIS hB5 c1 hR
      go_wp2_with fail
      refine hpo.mono ?_
      clear hpo
      rintro e w6 ⟨hB6, he6, _⟩
      subst he6
      have H6w : Hid (Below w.heap.size w w6) := H2.out.trans ((H5.out.trans (hB6.mono H5.out.size)).mono H2.out.size)
      have hsm := gsame_any w6 none none 0 0 0 0 [] [] ⟨rfl, fun h => by omega⟩ ⟨rfl, fun h => by omega⟩ (by omega) (by omega)
      clear hB6 c0
      go_wp2_with fail
      refine hsm.mono ?_
      clear hsm
      rintro e w7 ⟨rfl, hB7⟩
      have H7w : Hid (Below w.heap.size w w7) := H6w.out.trans (hB7.mono H6w.out.size)
      clear hB7
      go_wp2
      go_ret
      exact ⟨rfl, H7w.out⟩
    | ok gs =>
      rw [hR] at hdo
      go_wp2_with fail
      refine hdo.mono ?_
      clear hdo
      rintro e w5 ⟨⟨hB5, hgs5⟩, ad5, cp5, he5, hr5⟩
      subst he5
      have H5 : Hid (Below w2.heap.size w2 w5) := H4.out.trans (hB5.mono H4.out.size)
      obtain ⟨⟨c0, _, _⟩, _, hIS, _⟩ := HEv.out w5 H5.out
      obtain ⟨_, _, ee, hI5⟩ := own_ids hr5
      cases ee
      have HI5 : Hid (Ids w5 ad5 gs.ord.length gs.ord) := hI5
      have hpo := order_any w5 s d st.os _ false F hIS (by have := HI2.out.2.2.2.1; omega) ha4 hsl hc4 HS (HId4.out.kept hB5) HH.out.1 hncc (by omega)
      rw [hR] at hpo
      have hgl : gs.ord.length ≤ 1000000000000 := by have := hgs5 gs rfl; omega
      clear hIS hB5 c1 hR hI5 hr5 hgs5
      go_wp2_with fail
      refine hpo.mono ?_
      clear hpo
      rintro e w6 ⟨hB6, ad6, cp6, he6, hr6⟩
      subst he6
      have H6w : Hid (Below w.heap.size w w6) := H2.out.trans ((H5.out.trans (hB6.mono H5.out.size)).mono H2.out.size)
      obtain ⟨_, _, ee, hI6⟩ := own_ids hr6
      cases ee
      have hsm := gsame_any w6 ad6 ad5 gs.ord.length gs.ord.length cp6 cp5 gs.ord gs.ord hI6 (HI5.out.kept hB6) hgl hgl
      rw [beq_self_eq_true] at hsm
      clear hB6 c0 hI6 hr6
      go_wp2_with fail
      refine hsm.mono ?_
      clear hsm
      rintro e w7 ⟨rfl, hB7⟩
      have H7w : Hid (Below w.heap.size w w7) := H6w.out.trans (hB7.mono H6w.out.size)
      clear hB7
      go_wp2
      go_ret
      exact ⟨rfl, H7w.out⟩
end Go.Proofs.YtngfhhdmemldkaaGreat

/- Proved here: for every list of commits and every list of numbers the law GraphOrders returns true. No condition. -/
namespace Go.Proofs.YtngfhhdmemldkaaGreat
open Go.RowKit
open Go.ChangeShapes Go.WideShapes Go.ChangeAt

theorem own : ownKnob Tryz.prog.godebug = none := by kernel_rfl
theorem laidOut : laidOutB Tryz.prog = true := by kernel_rfl

set_option maxRecDepth 100000 in
theorem graphOrders_lifted (os : Os) (started : os.Started) (H : Type) (enc : TypeId × Value → H) :
    ReturnsInHanded {} Tryz.checked os 3 .any (Rows.graphOrdersSpec.pre6 enc Tryz.prog Tryz.f3 Rows.graphOrdersRow.domain false) (Rows.graphOrdersSpec.post enc Tryz.prog Tryz.f3 false true false false) := by
  refine returnsInHanded_of_change_sized (C := Tryz.checked) own started (by kernel_rfl) Tryz.func3
    (ChangeSpec.witness6 (enc := enc) (C := Tryz.checked) false ⟨#[], #[.slice none 0 0, .slice none 0 0], []⟩ 8 (by kernel_rfl) (by kernel_rfl) (by kernel_rfl) (by kernel_rfl)) ?_
  intro W base args ds gs before hval0 hW _ hsz0 _
  have hval : ∀ (j : Nat) t v, Tryz.f3.params[j]? = some t → args[j]? = some v → Value.okWide Tryz.prog W .any base t v := hval0
  have hW' := hW
  obtain ⟨p, q, hA0, hV, rfl, _, _⟩ := hW
  have hA : DataW.TrodAll enc Tryz.prog W 0 (fun _ => true) true Tryz.f3.params.toList args.toList ds p := hA0
  rw [Tryz.params3] at hA hval
  obtain ⟨v0, vs0, d0, ds0, p0, q0, hargs, rfl, rfl, h0, r0⟩ := trodAll_cons hA
  obtain ⟨v1, vs1, d1, ds1, p1, q1, rfl, rfl, rfl, h1, r1⟩ := trodAll_cons r0
  obtain ⟨rfl, rfl, rfl⟩ := trodAll_nil r1
  obtain rfl : args = #[v0, v1] := by cases args; simp_all
  obtain ⟨rfl, rfl⟩ := trodVars_none hV
  have k0 := h0
  have k1 := h1
  have lt0 : ∀ x ∈ p0, x.block < W.heap.size := by obtain ⟨m, hm⟩ := k0; exact DataW.trod_lt m _ _ _ hm
  have lt1 : ∀ x ∈ p1, x.block < W.heap.size := by obtain ⟨m, hm⟩ := k1; exact DataW.trod_lt m _ _ _ hm
  obtain ⟨a0, n0, cap0, l0, rfl, hl0, hn0⟩ := borns_arg (hval 0 22 v0 rfl rfl) h0
  obtain ⟨a1, n1, cap1, l1, rfl, hl1, hr1, hn1⟩ := ints_arg (hval 1 23 v1 rfl rfl) h1
  clear hA0 hval0 hsz0
  refine (graphOrders_walk W a0 n0 cap0 l0 hl0 hn0 a1 n1 cap1 l1 hl1 hn1 hr1).mono fun e W' ⟨he, bel⟩ => ?_
  subst he
  exact ⟨_, rfl, _, _, _, [], _, [], hW', trodAll_mk1 (shut_bool Tryz.underlying4 _), trodAll_cons_mk (Below.trod laidOut (by kernel_rfl) (of_decide_eq_true (by kernel_rfl)) k0 bel lt0) (trodAll_cons_mk (Below.trod laidOut (by kernel_rfl) (of_decide_eq_true (by kernel_rfl)) k1 bel lt1) trodAll_mk0), rfl, bel.frame _, fun h => by cases h⟩

theorem graphOrders_holds : Rows.GraphOrdersSaid :=
  OpenClaim.holds_of_wide 3 Tryz.f3 rfl rfl rfl rfl rfl rfl rfl ⟨rfl, rfl, rfl, rfl, rfl⟩ rfl rfl rfl rfl rfl (by kernel_rfl) Tryz.func3 (by kernel_rfl)
    (of_decide_eq_true (by kernel_rfl)) (by unfold Func.isWrapper; first | (rw [if_pos (by decide +kernel)]; kernel_rfl) | (rw [if_neg (by decide +kernel)]; exact ⟨rfl, rfl⟩))
    (fun os started H enc _ => graphOrders_lifted os started H enc)
#print axioms graphOrders_holds

end Go.Proofs.YtngfhhdmemldkaaGreat
